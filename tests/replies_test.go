package tests

import (
	"fmt"
	"math"
	"slices"
	"strings"
	"testing"

	"loop.example/g00380/impl"
)

func replyIs(t *testing.T, r impl.Reply, want string) {
	t.Helper()
	if s, code := impl.ReplyText(r); s != want || code != impl.OK {
		t.Errorf("ReplyText(%s) = %q, %d, not %q", shownReply(r), s, code, want)
	}
}

func wrongReply(t *testing.T, what string, r impl.Reply) {
	t.Helper()
	if s, code := impl.ReplyText(r); s != "" || code != impl.ErrBad {
		t.Errorf("ReplyText, %s: %q, %d", what, s, code)
	}
}

func TestP11ReplyTexts(t *testing.T) {
	one, two := thing(1, 7), record("a", many(num(1), word("x y"), node{}), "id", num(2)).value()
	replyIs(t, impl.Reply{}, "ok 0")
	replyIs(t, impl.Reply{Docs: []impl.Value{}}, "ok 0")
	replyIs(t, impl.Reply{N: 1}, "ok 1")
	replyIs(t, impl.Reply{N: 1, Docs: []impl.Value{one}}, "ok 1 {id:1,k:7}")
	replyIs(t, impl.Reply{N: 2, Docs: []impl.Value{one, two}}, "ok 2 {id:1,k:7} {a:[1,'x y',null],id:2}")
	replyIs(t, impl.Reply{N: 2, Docs: []impl.Value{two, one}}, "ok 2 {a:[1,'x y',null],id:2} {id:1,k:7}")
	// N is told as it is, however many documents there are; these need no ids, and may be alike.
	replyIs(t, impl.Reply{N: 9, Docs: []impl.Value{one, one}}, "ok 9 {id:1,k:7} {id:1,k:7}")
	replyIs(t, impl.Reply{Docs: []impl.Value{record().value(), record("id", word("")).value()}}, "ok 0 {} {id:''}")
}

// Of another code there is the word alone.
func TestP11ReplyTextsOfCodes(t *testing.T) {
	for _, row := range codeRows() {
		if row.code == impl.OK {
			continue
		}
		replyIs(t, impl.Reply{Code: row.code}, row.word)
		replyIs(t, impl.Reply{Code: row.code, N: 5}, row.word)
		replyIs(t, impl.Reply{Code: row.code, N: 1000, Docs: []impl.Value{thing(1, 7)}}, row.word)
	}
	for _, code := range []int{-1, 20, 21, 256, 1 << 32, math.MinInt, math.MaxInt} {
		wrongReply(t, fmt.Sprint("the code ", code), impl.Reply{Code: code})
		wrongReply(t, fmt.Sprint("the code ", code), impl.Reply{Code: code, N: 1, Docs: []impl.Value{thing(1, 7)}})
	}
}

func TestP11ReplyTextsOfNumbers(t *testing.T) {
	for _, n := range []int{0, 1, 9, 10, 99, 100, 101, 999, 1000} {
		replyIs(t, impl.Reply{N: n}, fmt.Sprint("ok ", n))
		replyIs(t, impl.Reply{N: n, Docs: []impl.Value{thing(0, 0)}}, fmt.Sprint("ok ", n, " {id:0,k:0}"))
	}
	for _, n := range []int{-1, -2, 1001, 1002, 1 << 32, math.MinInt, math.MaxInt} {
		for _, row := range codeRows() {
			wrongReply(t, fmt.Sprint("N ", n), impl.Reply{Code: row.code, N: n})
			wrongReply(t, fmt.Sprint("N ", n), impl.Reply{Code: row.code, N: n, Docs: []impl.Value{thing(1, 7)}})
		}
	}
}

func TestP11ReplyTextsOfManyDocuments(t *testing.T) {
	for _, n := range []int{0, 1, 2, 20, 21, 99, 100} {
		docs := copies(n, thing(3, 4))
		replyIs(t, impl.Reply{N: n, Docs: docs}, fmt.Sprint("ok ", n)+strings.Repeat(" {id:3,k:4}", n))
		replyIs(t, impl.Reply{Code: impl.ErrPivot, N: n, Docs: docs}, "pivot")
	}
	for _, n := range []int{101, 102, impl.MaxList, impl.MaxList + 1} {
		for _, row := range codeRows() {
			wrongReply(t, fmt.Sprint(n, " documents"), impl.Reply{Code: row.code, N: 1, Docs: copies(n, thing(3, 4))})
		}
	}
	// The longest text that there is.
	full := record("a", many(slices.Repeat([]node{num(-impl.MaxNumber)}, 32)...)).value()
	text, _ := impl.ValueText(full)
	replyIs(t, impl.Reply{N: 1000, Docs: copies(100, full)}, "ok 1000"+strings.Repeat(" "+text, 100))
}

func TestP11ReplyTextsOfWrongDocuments(t *testing.T) {
	one := thing(1, 7)
	for what, v := range noDocuments() {
		for _, docs := range [][]impl.Value{{v}, {v, one}, {one, v}, {one, v, one}, slices.Concat(copies(99, one), []impl.Value{v})} {
			for _, code := range []int{impl.OK, impl.ErrBad, impl.ErrOrder, 20} {
				wrongReply(t, what, impl.Reply{Code: code, N: 1, Docs: docs})
			}
		}
	}
}

// Every document has its own text there.
func TestP11ReplyTextsOfRandomDocuments(t *testing.T) {
	docs := randomDocs(1104, 400)
	for len(docs) > 9 {
		list, want := docs[:9], "ok 9"
		for _, x := range list {
			want += " " + x.String()
		}
		replyIs(t, impl.Reply{N: 9, Docs: values(list)}, want)
		docs = docs[9:]
	}
}
