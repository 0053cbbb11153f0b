package tests

import (
	"math"
	"strings"
	"testing"

	"loop.example/g00380/impl"
)

type codeRow struct {
	number, code int
	word         string
}

func codeRows() []codeRow {
	return []codeRow{
		{0, impl.OK, "ok"},
		{1, impl.ErrBad, "bad"},
		{2, impl.ErrLong, "long"},
		{3, impl.ErrForm, "form"},
		{4, impl.ErrRange, "range"},
		{5, impl.ErrNone, "none"},
		{6, impl.ErrMany, "many"},
		{7, impl.ErrFull, "full"},
		{8, impl.ErrType, "type"},
		{9, impl.ErrDeep, "deep"},
		{10, impl.ErrSize, "size"},
		{11, impl.ErrName, "name"},
		{12, impl.ErrTwice, "twice"},
		{13, impl.ErrPlace, "place"},
		{14, impl.ErrPath, "path"},
		{15, impl.ErrConflict, "conflict"},
		{16, impl.ErrPivot, "pivot"},
		{17, impl.ErrState, "state"},
		{18, impl.ErrBusy, "busy"},
		{19, impl.ErrOrder, "order"},
	}
}

func TestP1CodesAndWords(t *testing.T) {
	for _, r := range codeRows() {
		if r.code != r.number {
			t.Errorf("the code of %q is %d, not %d", r.word, r.code, r.number)
		}
		if got := impl.CodeWord(r.number); got != r.word {
			t.Errorf("CodeWord(%d) = %q, not %q", r.number, got, r.word)
		}
		if got := impl.CodeOf(r.word); got != r.number {
			t.Errorf("CodeOf(%q) = %d, not %d", r.word, got, r.number)
		}
	}
}

func TestP1NumbersThatAreNoCodes(t *testing.T) {
	for _, n := range []int{-1, 20, 21, 256, -256, math.MaxInt, math.MinInt} {
		if got := impl.CodeWord(n); got != "" {
			t.Errorf("CodeWord(%d) = %q", n, got)
		}
	}
}

func TestP1TextsThatAreNoWords(t *testing.T) {
	texts := []string{"", " ", "OK", "ok ", " ok", "o", "okk", "0", "twic", "\x00",
		strings.Repeat("a", impl.MaxText), strings.Repeat("a", impl.MaxText+1),
		"ok" + strings.Repeat(" ", impl.MaxText)}
	for _, w := range texts {
		if got := impl.CodeOf(w); got != -1 {
			t.Errorf("CodeOf of %d bytes = %d", len(w), got)
		}
	}
}

func TestP1Constants(t *testing.T) {
	rows := []struct{ got, want int }{
		{impl.MaxText, 65536},
		{impl.MaxList, 4096},
		{impl.MaxName, 40},
		{impl.VaNull, 0},
		{impl.VaBool, 1},
		{impl.VaInt, 2},
		{impl.VaText, 3},
		{impl.VaList, 4},
		{impl.VaDoc, 5},
		{impl.MaxNumber, 1000000000000},
		{impl.MaxBody, 300},
		{impl.MaxDeep, 5},
	}
	for i, r := range rows {
		if r.got != r.want {
			t.Errorf("constant %d is %d, not %d", i, r.got, r.want)
		}
	}
}

func TestP1NameLengths(t *testing.T) {
	rows := []struct {
		length int
		want   bool
	}{{0, false}, {1, true}, {12, true}, {13, true}, {39, true}, {impl.MaxName, true},
		{impl.MaxName + 1, false}, {impl.MaxText, false}, {impl.MaxText + 1, false}}
	for _, r := range rows {
		if got := impl.NameOK(strings.Repeat("n", r.length)); got != r.want {
			t.Errorf("NameOK of %d bytes = %v", r.length, got)
		}
	}
}

func TestP1NameBytes(t *testing.T) {
	letters := "abcdefghijklmnopqrstuvwxyzABCDEFGHIJKLMNOPQRSTUVWXYZ_"
	for b := range 256 {
		one := string([]byte{byte(b)})
		letter := strings.Contains(letters, one)
		digit := strings.Contains("0123456789", one)
		if got := impl.NameOK(one); got != letter {
			t.Errorf("NameOK(%q) = %v", one, got)
		}
		for _, name := range []string{"a" + one, "Z" + one + "_"} {
			if got := impl.NameOK(name); got != (letter || digit) {
				t.Errorf("NameOK(%q) = %v", name, got)
			}
		}
	}
}
