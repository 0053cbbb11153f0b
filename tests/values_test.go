package tests

import (
	"math"
	"math/rand"
	"strings"
	"testing"

	"loop.example/g00380/impl"
)

// wrongValues are of every kind, each with one thing that is not right.
func wrongValues() map[string]impl.Value {
	twelve, thirteen := strings.Repeat("n", 12), strings.Repeat("n", 13)
	return map[string]impl.Value{
		"null with a number":        {N: 1},
		"null with a text":          {T: "x"},
		"bool of 2":                 boolOf(2),
		"bool of -1":                boolOf(-1),
		"bool with a text":          {Kind: impl.VaBool, N: 1, T: "x"},
		"int above":                 intOf(impl.MaxNumber + 1),
		"int below":                 intOf(-impl.MaxNumber - 1),
		"greatest int":              intOf(math.MaxInt),
		"least int":                 intOf(math.MinInt),
		"int with a text":           {Kind: impl.VaInt, T: "x"},
		"text with a number":        {Kind: impl.VaText, N: 1},
		"text of 301":               textOfLength(impl.MaxBody + 1),
		"text of MaxText":           textOfLength(impl.MaxText),
		"text beyond MaxText":       textOfLength(impl.MaxText + 1),
		"list with a number":        {Kind: impl.VaList, N: 1},
		"list of 301":               raw(impl.VaList, strings.Repeat("\x00", impl.MaxBody+1)),
		"list cut":                  raw(impl.VaList, "\x01"),
		"list of an unknown kind":   raw(impl.VaList, "\x06"),
		"list of kind 255":          raw(impl.VaList, "\xff"),
		"list of a wrong bool":      raw(impl.VaList, "\x01\x02"),
		"list of a wrong int":       raw(impl.VaList, string(rawBytes(intOf(impl.MaxNumber+1)))),
		"list of a negative int":    raw(impl.VaList, "\x02\xff\xff\xff\xff\xff\xff\xff\xff"),
		"list of a cut int":         raw(impl.VaList, "\x02\x40\x00\x00\x00\x00\x00\x00"),
		"list of a cut text":        raw(impl.VaList, "\x03\x00\x02a"),
		"list of a cut length":      raw(impl.VaList, "\x03\x00"),
		"list of a wrong list":      raw(impl.VaList, "\x04\x00\x01\x09"),
		"list in a list too long":   raw(impl.VaList, "\x00\x04\x00\x02\x00"),
		"doc with a number":         {Kind: impl.VaDoc, N: 1},
		"doc of 301":                raw(impl.VaDoc, "\x01a\x03\x01\x28"+strings.Repeat("x", 296)),
		"doc without a value":       raw(impl.VaDoc, "\x01a"),
		"doc with a cut name":       raw(impl.VaDoc, "\x02a"),
		"doc with an empty name":    raw(impl.VaDoc, "\x00\x00"),
		"doc with a wrong name":     raw(impl.VaDoc, "\x019\x00"),
		"doc with a name of 13":     raw(impl.VaDoc, "\x0d"+thirteen+"\x00"),
		"doc with a name twice":     raw(impl.VaDoc, "\x01a\x00\x01a\x00"),
		"doc with falling names":    raw(impl.VaDoc, "\x01b\x00\x01a\x00"),
		"doc with a beginning last": raw(impl.VaDoc, "\x02ab\x00\x01a\x00"),
		"doc of a wrong value":      raw(impl.VaDoc, "\x0c"+twelve+"\x01\x02"),
		"doc of a wrong doc":        raw(impl.VaDoc, "\x01a\x05\x00\x01\x00"),
		"kind 6":                    {Kind: 6},
		"kind -1":                   {Kind: -1},
		"kind 256":                  {Kind: 256},
		"greatest kind":             {Kind: math.MaxInt},
		"least kind":                {Kind: math.MinInt},
		"6 lists":                   nested(6, impl.VaList),
		"6 documents":               nested(6, impl.VaDoc),
		"6 of both":                 nested(6, impl.VaList, impl.VaDoc),
		"60 lists":                  nested(60, impl.VaList),
	}
}

// edgeValues are right, and stand at the bounds.
func edgeValues() map[string]impl.Value {
	twelve := strings.Repeat("n", 12)
	return map[string]impl.Value{
		"null":           {},
		"false":          boolOf(0),
		"true":           boolOf(1),
		"nought":         intOf(0),
		"greatest":       intOf(impl.MaxNumber),
		"least":          intOf(-impl.MaxNumber),
		"empty text":     textOf(""),
		"text of 300":    textOfLength(impl.MaxBody),
		"any bytes":      textOf("\x00\xff'\n"),
		"empty list":     raw(impl.VaList, ""),
		"300 nulls":      raw(impl.VaList, strings.Repeat("\x00", impl.MaxBody)),
		"list of 300":    raw(impl.VaList, "\x03\x01\x29"+strings.Repeat("x", 297)),
		"empty document": raw(impl.VaDoc, ""),
		"doc of 300":     raw(impl.VaDoc, "\x01a\x03\x01\x27"+strings.Repeat("x", 295)),
		"name of 12":     raw(impl.VaDoc, "\x0c"+twelve+"\x00"),
		"rising names":   raw(impl.VaDoc, "\x01A\x00\x01_\x00\x01a\x00\x02aa\x00\x01b\x00"),
		"5 lists":        nested(5, impl.VaList),
		"5 documents":    nested(5, impl.VaDoc),
		"5 of both":      nested(5, impl.VaDoc, impl.VaList),
	}
}

func TestP2RightValues(t *testing.T) {
	for name, v := range edgeValues() {
		if !impl.ValueOK(v) {
			t.Errorf("%s: ValueOK is false", name)
		}
		b, code := impl.EncodeValue(v)
		if code != impl.OK || string(b) != string(rawBytes(v)) {
			t.Errorf("%s: EncodeValue = %q, %d", name, b, code)
		}
		if w, code := impl.DecodeValue(b); w != v || code != impl.OK {
			t.Errorf("%s: DecodeValue = %v, %d", name, w, code)
		}
	}
}

func TestP2WrongValues(t *testing.T) {
	for name, v := range wrongValues() {
		if impl.ValueOK(v) {
			t.Errorf("%s: ValueOK is true", name)
		}
		if b, code := impl.EncodeValue(v); len(b) != 0 || code != impl.ErrBad {
			t.Errorf("%s: EncodeValue = %q, %d", name, b, code)
		}
		if items, code := impl.ItemsOf(v); len(items) != 0 || code != impl.ErrBad {
			t.Errorf("%s: ItemsOf = %v, %d", name, items, code)
		}
		if fields, code := impl.FieldsOf(v); len(fields) != 0 || code != impl.ErrBad {
			t.Errorf("%s: FieldsOf = %v, %d", name, fields, code)
		}
		if n, code := impl.DepthOf(v); n != 0 || code != impl.ErrBad {
			t.Errorf("%s: DepthOf = %d, %d", name, n, code)
		}
		if s, code := impl.ValueText(v); s != "" || code != impl.ErrBad {
			t.Errorf("%s: ValueText = %q, %d", name, s, code)
		}
		wantWrongInside(t, name, v)
	}
}

// wantWrongInside holds the calls that take several values to a wrong one among right ones.
func wantWrongInside(t *testing.T, name string, v impl.Value) {
	t.Helper()
	right := intOf(1)
	if k, code := impl.OrderValues(v, right); k != 0 || code != impl.ErrBad {
		t.Errorf("%s: OrderValues = %d, %d", name, k, code)
	}
	if k, code := impl.OrderValues(right, v); k != 0 || code != impl.ErrBad {
		t.Errorf("%s: OrderValues the other way = %d, %d", name, k, code)
	}
	if k, code := impl.OrderValues(v, v); k != 0 || code != impl.ErrBad {
		t.Errorf("%s: OrderValues of itself = %d, %d", name, k, code)
	}
	if w, code := impl.ListOf([]impl.Value{right, v}); w != (impl.Value{}) || code != impl.ErrBad {
		t.Errorf("%s: ListOf = %v, %d", name, w, code)
	}
	if w, code := impl.DocOf([]impl.Field{field("a", right), field("b", v)}); w != (impl.Value{}) || code != impl.ErrBad {
		t.Errorf("%s: DocOf = %v, %d", name, w, code)
	}
}

func wantForm(t *testing.T, what string, b []byte) {
	t.Helper()
	if v, code := impl.DecodeValue(b); v != (impl.Value{}) || code != impl.ErrForm {
		t.Errorf("%s: DecodeValue(%q) = %v, %d", what, b, v, code)
	}
}

func TestP2BytesOfWrongValues(t *testing.T) {
	for name, v := range wrongValues() {
		if v.Kind == impl.VaNull || v.Kind < 0 || v.Kind > 255 || len(v.T) > math.MaxUint16 {
			continue
		}
		if v.Kind >= impl.VaText && v.N != 0 || v.Kind < impl.VaText && v.T != "" {
			continue
		}
		if v.Kind == impl.VaBool && v.N < 0 {
			continue
		}
		wantForm(t, name, rawBytes(v))
	}
}

func TestP2BytesCutOrDrawnOut(t *testing.T) {
	for name, v := range edgeValues() {
		b := rawBytes(v)
		for i := range b {
			wantForm(t, name+" cut", b[:i])
		}
		for more := range 256 {
			wantForm(t, name+" drawn out", append(b[:len(b):len(b)], byte(more)))
		}
	}
}

func TestP2BytesOfWrongKinds(t *testing.T) {
	for kind := 6; kind < 256; kind++ {
		wantForm(t, "alone", []byte{byte(kind)})
		wantForm(t, "with a text", []byte{byte(kind), 0, 1, 'a'})
	}
}

func TestP2BytesOfWrongNumbers(t *testing.T) {
	for n := 2; n < 256; n++ {
		wantForm(t, "bool", []byte{1, byte(n)})
	}
	for _, n := range []int{impl.MaxNumber + 1, -impl.MaxNumber - 1, -1 << 62, 1<<62 - 1} {
		wantForm(t, "int", rawBytes(intOf(n)))
	}
	wantForm(t, "int", []byte("\x02\x80\x00\x00\x00\x00\x00\x00\x00"))
	wantForm(t, "int", []byte("\x02\xc0\x00\x00\x00\x00\x00\x00\x00"))
	wantForm(t, "int", []byte("\x02\xff\xff\xff\xff\xff\xff\xff\xff"))
}

func TestP1BytesBeyondMaxText(t *testing.T) {
	wantForm(t, "no bytes", nil)
	wantForm(t, "MaxText bytes", make([]byte, impl.MaxText))
	for _, n := range []int{impl.MaxText + 1, 2 * impl.MaxText} {
		if v, code := impl.DecodeValue(make([]byte, n)); v != (impl.Value{}) || code != impl.ErrLong {
			t.Errorf("DecodeValue of %d bytes = %v, %d", n, v, code)
		}
	}
}

// Whatever is taken as a value's bytes must be just what that value is written as.
func wantOneWayBack(t *testing.T, b []byte) {
	t.Helper()
	v, code := impl.DecodeValue(b)
	if code == impl.ErrForm && v == (impl.Value{}) {
		return
	}
	again, e := impl.EncodeValue(v)
	if code != impl.OK || e != impl.OK || string(again) != string(b) {
		t.Errorf("DecodeValue(%q) = %v, %d; its bytes are %q, %d", b, v, code, again, e)
	}
}

func TestP2AllShortBytes(t *testing.T) {
	signs := []byte{0, 1, 2, 3, 4, 5, 6, 'a', '9'}
	list := [][]byte{{}}
	for range 5 {
		var longer [][]byte
		for _, b := range list {
			for _, s := range signs {
				longer = append(longer, append(b[:len(b):len(b)], s))
			}
		}
		for _, b := range longer {
			wantOneWayBack(t, b)
		}
		list = longer
	}
}

func TestP2SpoiltBytes(t *testing.T) {
	r := rand.New(rand.NewSource(3))
	for _, x := range randomNodes(3, 3000) {
		b := x.bytes()
		b[r.Intn(len(b))] = byte(r.Intn(256))
		wantOneWayBack(t, b)
		b = x.bytes()
		i, j := r.Intn(len(b)+1), r.Intn(len(b)+1)
		wantOneWayBack(t, append(b[:i:i], b[j:]...))
	}
}

func TestP2RandomValues(t *testing.T) {
	for _, x := range randomNodes(1, 3000) {
		v := x.value()
		if !impl.ValueOK(v) {
			t.Fatalf("ValueOK of %v is false", x)
		}
		b, code := impl.EncodeValue(v)
		if code != impl.OK || string(b) != string(x.bytes()) {
			t.Fatalf("EncodeValue of %v = %q, %d", x, b, code)
		}
		if w, code := impl.DecodeValue(b); w != v || code != impl.OK {
			t.Fatalf("DecodeValue of %v = %v, %d", x, w, code)
		}
		if n, code := impl.DepthOf(v); n != x.depth() || code != impl.OK {
			t.Fatalf("DepthOf %v = %d, %d", x, n, code)
		}
		if s, code := impl.ValueText(v); s != x.String() || code != impl.OK {
			t.Fatalf("ValueText of %v = %q, %d", x, s, code)
		}
		wantParts(t, x)
	}
}

// wantParts takes a value apart and puts it together again.
func wantParts(t *testing.T, x node) {
	t.Helper()
	v := x.value()
	items, itemsCode := impl.ItemsOf(v)
	fields, fieldsCode := impl.FieldsOf(v)
	if x.kind != impl.VaList && (itemsCode != impl.ErrType || len(items) != 0) {
		t.Errorf("ItemsOf %v = %v, %d", x, items, itemsCode)
	}
	if x.kind != impl.VaDoc && (fieldsCode != impl.ErrType || len(fields) != 0) {
		t.Errorf("FieldsOf %v = %v, %d", x, fields, fieldsCode)
	}
	if x.kind == impl.VaList {
		w, code := impl.ListOf(items)
		if itemsCode != impl.OK || len(items) != len(x.items) || w != v || code != impl.OK {
			t.Errorf("ItemsOf %v = %v, %d; ListOf = %v, %d", x, items, itemsCode, w, code)
		}
		for i, item := range items {
			if item != x.items[i].value() {
				t.Errorf("item %d of %v = %v", i, x, item)
			}
		}
	}
	if x.kind == impl.VaDoc {
		for i, f := range fields {
			if f != field(x.names[i], x.items[i].value()) {
				t.Errorf("field %d of %v = %v", i, x, f)
			}
		}
		for i, j := 0, len(fields)-1; i < j; i, j = i+1, j-1 {
			fields[i], fields[j] = fields[j], fields[i]
		}
		w, code := impl.DocOf(fields)
		if fieldsCode != impl.OK || len(fields) != len(x.items) || w != v || code != impl.OK {
			t.Errorf("FieldsOf %v = %v, %d; DocOf = %v, %d", x, fields, fieldsCode, w, code)
		}
	}
}

func TestP2Depths(t *testing.T) {
	if n, code := impl.DepthOf(impl.Value{}); n != 0 || code != impl.OK {
		t.Errorf("DepthOf null = %d, %d", n, code)
	}
	for depth := 1; depth <= impl.MaxDeep; depth++ {
		for _, kinds := range [][]int{{impl.VaList}, {impl.VaDoc}, {impl.VaList, impl.VaDoc}} {
			if n, code := impl.DepthOf(nested(depth, kinds...)); n != depth || code != impl.OK {
				t.Errorf("DepthOf %d of %v = %d, %d", depth, kinds, n, code)
			}
		}
	}
	one, three := nested(1, impl.VaList), nested(3, impl.VaDoc)
	for _, v := range []impl.Value{mustList(t, three, one), mustDoc(t, field("b", one), field("a", three))} {
		if n, code := impl.DepthOf(v); n != 4 || code != impl.OK {
			t.Errorf("DepthOf %v = %d, %d", v, n, code)
		}
	}
}

func TestP2Texts(t *testing.T) {
	inner := mustDoc(t, field("z", impl.Value{}), field("Z", mustList(t)))
	rows := []struct {
		v    impl.Value
		want string
	}{
		{impl.Value{}, "null"},
		{boolOf(0), "false"},
		{boolOf(1), "true"},
		{intOf(-impl.MaxNumber), "-1000000000000"},
		{intOf(impl.MaxNumber), "1000000000000"},
		{intOf(-7), "-7"},
		{textOf(""), "''"},
		{textOf("a'b\x00,"), "'a'b\x00,'"},
		{mustList(t), "[]"},
		{mustDoc(t), "{}"},
		{mustList(t, inner, intOf(1), inner), "[{Z:[],z:null},1,{Z:[],z:null}]"},
	}
	for _, r := range rows {
		if s, code := impl.ValueText(r.v); s != r.want || code != impl.OK {
			t.Errorf("ValueText = %q, %d, not %q", s, code, r.want)
		}
	}
}
