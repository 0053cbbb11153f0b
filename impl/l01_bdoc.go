package impl

import (
	"cmp"
	"slices"
	"strconv"
	"strings"
)

// The kinds' numbers stand in values' bytes and order them: they are the order of these lines.
const (
	VaNull = iota
	VaBool
	VaInt
	VaText
	VaList
	VaDoc
)

const (
	MaxNumber = 1000000000000
	MaxBody   = 300
	MaxDeep   = 5

	// A number's bytes tell it with this added, so that they are never those of a negative one.
	numberShift = 1 << 62
	numberBytes = 8
	lengthBytes = 2
)

type Value struct {
	Kind, N int
	T       string
}

type Field struct {
	Name  string
	Value Value
}

func ValueOK(v Value) bool { return fitsWithin(v, MaxDeep) }

// fitsWithin asks whether v is right where at most room lists and documents may be one in another.
func fitsWithin(v Value, room int) bool {
	if len(v.T) > MaxBody {
		return false
	}
	switch v.Kind {
	case VaNull:
		return v == Value{}
	case VaBool:
		return v == Value{Kind: VaBool, N: v.N} && 0 <= v.N && v.N <= 1
	case VaInt:
		return v == Value{Kind: VaInt, N: v.N} && -MaxNumber <= v.N && v.N <= MaxNumber
	case VaText:
		return v.N == 0
	case VaList:
		return v.N == 0 && room > 0 && listFits(v.T, room-1)
	case VaDoc:
		return v.N == 0 && room > 0 && docFits(v.T, room-1)
	}
	return false
}

func listFits(body string, room int) bool {
	for body != "" {
		item, rest, ok := cutValue(body)
		if !ok || !fitsWithin(item, room) {
			return false
		}
		body = rest
	}
	return true
}

func docFits(body string, room int) bool {
	// No name is empty: the first one is behind this.
	last := ""
	for body != "" {
		field, rest, ok := cutField(body)
		if !ok || !shortNameOK(field.Name) || field.Name <= last || !fitsWithin(field.Value, room) {
			return false
		}
		last, body = field.Name, rest
	}
	return true
}

// cutValue takes the first value off t and tells what stands behind it. Only its ends are looked
// for; whether the value is right is fitsWithin's to say.
func cutValue(t string) (v Value, rest string, ok bool) {
	if t == "" {
		return Value{}, "", false
	}
	v, rest = Value{Kind: int(t[0])}, t[1:]
	switch v.Kind {
	case VaNull:
		return v, rest, true
	case VaBool:
		v.N, rest, ok = cutNumber(rest, 1)
	case VaInt:
		v.N, rest, ok = cutNumber(rest, numberBytes)
		v.N -= numberShift
	case VaText, VaList, VaDoc:
		v.T, rest, ok = cutText(rest, lengthBytes)
	}
	return v, rest, ok
}

// cutNumber takes a number of that many bytes off t; one that no int holds isn't there.
func cutNumber(t string, width int) (n int, rest string, ok bool) {
	if len(t) < width || width == numberBytes && t[0] > 127 {
		return 0, "", false
	}
	for i := range width {
		n = n<<8 | int(t[i])
	}
	return n, t[width:], true
}

// cutText takes a text off t whose length stands ahead of it in that many bytes.
func cutText(t string, width int) (text, rest string, ok bool) {
	n, rest, ok := cutNumber(t, width)
	if !ok || len(rest) < n {
		return "", "", false
	}
	return rest[:n], rest[n:], true
}

func cutField(t string) (f Field, rest string, ok bool) {
	f.Name, rest, ok = cutText(t, 1)
	if !ok {
		return Field{}, "", false
	}
	f.Value, rest, ok = cutValue(rest)
	return f, rest, ok
}

// itemsIn is of a right list's body alone. The items' texts are pieces of it.
func itemsIn(body string) []Value {
	var items []Value
	for body != "" {
		item, rest, _ := cutValue(body)
		items, body = append(items, item), rest
	}
	return items
}

// fieldsIn is of a right document's body alone. The fields' texts are pieces of it.
func fieldsIn(body string) []Field {
	var fields []Field
	for body != "" {
		field, rest, _ := cutField(body)
		fields, body = append(fields, field), rest
	}
	return fields
}

func EncodeValue(v Value) ([]byte, int) {
	if !ValueOK(v) {
		return nil, ErrBad
	}
	return appendValue(nil, v), OK
}

// appendValue, like all that follow of right values, looks for no faults.
func appendValue(b []byte, v Value) []byte {
	b = append(b, byte(v.Kind))
	switch v.Kind {
	case VaBool:
		b = append(b, byte(v.N))
	case VaInt:
		b = appendNumber(b, v.N+numberShift, numberBytes)
	case VaText, VaList, VaDoc:
		b = appendNumber(b, len(v.T), lengthBytes)
		b = append(b, v.T...)
	}
	return b
}

func appendNumber(b []byte, n, width int) []byte {
	for i := width - 1; i >= 0; i-- {
		b = append(b, byte(n>>(8*i)))
	}
	return b
}

func appendField(b []byte, f Field) []byte {
	b = append(b, byte(len(f.Name)))
	b = append(b, f.Name...)
	return appendValue(b, f.Value)
}

func DecodeValue(b []byte) (Value, int) {
	if len(b) > MaxText {
		return Value{}, ErrLong
	}
	v, rest, ok := cutValue(string(b))
	if !ok || rest != "" || !ValueOK(v) {
		return Value{}, ErrForm
	}
	return v, OK
}

func ListOf(items []Value) (Value, int) {
	if len(items) > MaxList {
		return Value{}, ErrLong
	}
	if len(items) > MaxBody {
		return Value{}, ErrSize
	}
	if slices.ContainsFunc(items, isWrong) {
		return Value{}, ErrBad
	}
	return bounded(listWith(items))
}

func isWrong(v Value) bool { return !ValueOK(v) }

func listWith(items []Value) Value {
	var body []byte
	for _, item := range items {
		body = appendValue(body, item)
	}
	return Value{Kind: VaList, T: string(body)}
}

func docWith(sorted []Field) Value {
	var body []byte
	for _, f := range sorted {
		body = appendField(body, f)
	}
	return Value{Kind: VaDoc, T: string(body)}
}

// bounded is v, made of right values, if it is neither too great nor too deep itself.
func bounded(v Value) (Value, int) {
	if len(v.T) > MaxBody {
		return Value{}, ErrSize
	}
	if depthOf(v) > MaxDeep {
		return Value{}, ErrDeep
	}
	return v, OK
}

func ItemsOf(v Value) ([]Value, int) {
	if !ValueOK(v) {
		return nil, ErrBad
	}
	if v.Kind != VaList {
		return nil, ErrType
	}
	items := itemsIn(v.T)
	for i, item := range items {
		items[i] = ownValue(item)
	}
	return items, OK
}

// ownValue is v with a text that is a piece of no other one.
func ownValue(v Value) Value {
	v.T = strings.Clone(v.T)
	return v
}

// ownList shares nothing with the list, if what own answers shares nothing with what it is given.
func ownList[T any](list []T, own func(T) T) []T {
	var all []T
	for _, x := range list {
		all = append(all, own(x))
	}
	return all
}

func DocOf(fields []Field) (Value, int) {
	if len(fields) > MaxList {
		return Value{}, ErrLong
	}
	if len(fields) > MaxBody {
		return Value{}, ErrSize
	}
	sorted, code := sortedFields(fields)
	if code != OK {
		return Value{}, code
	}
	return bounded(docWith(sorted))
}

func sortedFields(fields []Field) ([]Field, int) {
	var sorted []Field
	for _, f := range fields {
		if !shortNameOK(f.Name) {
			return nil, ErrName
		}
		if !ValueOK(f.Value) {
			return nil, ErrBad
		}
		place, there := fieldPlace(sorted, f.Name)
		if there {
			return nil, ErrTwice
		}
		sorted = slices.Insert(sorted, place, f)
	}
	return sorted, OK
}

// fieldPlace is where the field of a name stands, or would stand, among fields that rise.
func fieldPlace(fields []Field, name string) (int, bool) {
	return slices.BinarySearchFunc(fields, name, compareName)
}

func compareName(f Field, name string) int { return strings.Compare(f.Name, name) }

func FieldsOf(v Value) ([]Field, int) {
	if !ValueOK(v) {
		return nil, ErrBad
	}
	if v.Kind != VaDoc {
		return nil, ErrType
	}
	fields := fieldsIn(v.T)
	for i, f := range fields {
		fields[i] = Field{Name: strings.Clone(f.Name), Value: ownValue(f.Value)}
	}
	return fields, OK
}

func OrderValues(a, b Value) (int, int) {
	if !ValueOK(a) || !ValueOK(b) {
		return 0, ErrBad
	}
	return compareValues(a, b), OK
}

func compareValues(a, b Value) int {
	// A value has one body, so alike ones need not be walked.
	if a == b {
		return 0
	}
	if c := cmp.Or(cmp.Compare(a.Kind, b.Kind), cmp.Compare(a.N, b.N)); c != 0 {
		return c
	}
	switch a.Kind {
	case VaList:
		return slices.CompareFunc(itemsIn(a.T), itemsIn(b.T), compareValues)
	case VaDoc:
		return slices.CompareFunc(fieldsIn(a.T), fieldsIn(b.T), compareFields)
	}
	return strings.Compare(a.T, b.T)
}

func compareFields(f, g Field) int {
	if c := strings.Compare(f.Name, g.Name); c != 0 {
		return c
	}
	return compareValues(f.Value, g.Value)
}

func DepthOf(v Value) (int, int) {
	if !ValueOK(v) {
		return 0, ErrBad
	}
	return depthOf(v), OK
}

func depthOf(v Value) int {
	deepest := 0
	switch v.Kind {
	case VaList:
		for _, item := range itemsIn(v.T) {
			deepest = max(deepest, depthOf(item))
		}
	case VaDoc:
		for _, f := range fieldsIn(v.T) {
			deepest = max(deepest, depthOf(f.Value))
		}
	default:
		return 0
	}
	return deepest + 1
}

func ValueText(v Value) (string, int) {
	if !ValueOK(v) {
		return "", ErrBad
	}
	return string(appendText(nil, v)), OK
}

func appendText(b []byte, v Value) []byte {
	switch v.Kind {
	case VaNull:
		return append(b, "null"...)
	case VaBool:
		return strconv.AppendBool(b, v.N == 1)
	case VaInt:
		return strconv.AppendInt(b, int64(v.N), 10)
	case VaText:
		return appendQuoted(b, v.T)
	case VaList:
		return appendListText(b, v.T)
	}
	return appendDocText(b, v.T)
}

func appendQuoted(b []byte, t string) []byte {
	b = append(b, '\'')
	b = append(b, t...)
	return append(b, '\'')
}

func appendListText(b []byte, body string) []byte {
	b = append(b, '[')
	for i, item := range itemsIn(body) {
		if i > 0 {
			b = append(b, ',')
		}
		b = appendText(b, item)
	}
	return append(b, ']')
}

func appendDocText(b []byte, body string) []byte {
	b = append(b, '{')
	for i, f := range fieldsIn(body) {
		if i > 0 {
			b = append(b, ',')
		}
		b = append(b, f.Name...)
		b = append(b, ':')
		b = appendText(b, f.Value)
	}
	return append(b, '}')
}
