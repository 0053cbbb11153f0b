package tests

import (
	"math"
	"math/rand"
	"slices"
	"strings"
	"testing"

	"loop.example/g00380/impl"
)

func splitIs(t *testing.T, key string, n int, want ...string) {
	t.Helper()
	if parts, code := impl.SplitKey(key, n); !slices.Equal(parts, want) || code != impl.OK {
		t.Errorf("SplitKey(%.60q, %d) = %.60q, %d", key, n, parts, code)
	}
}

func splitFails(t *testing.T, key string, n, want int) {
	t.Helper()
	if parts, code := impl.SplitKey(key, n); len(parts) != 0 || code != want {
		t.Errorf("SplitKey(%.60q, %d) = %.60q, %d, not %d", key, n, parts, code, want)
	}
}

// Keys that were joined come apart again, by their number and by no other.
func TestP5SplitOfJoined(t *testing.T) {
	r := rand.New(rand.NewSource(54))
	list := append(randomNodes(55, 300), closeNodes()...)
	for i := range 3000 {
		var parts []string
		for range i % 9 {
			parts = append(parts, mustKey(t, pick(r, list).value(), false))
		}
		joined, code := impl.JoinKeys(parts)
		if code != impl.OK {
			t.Fatalf("JoinKeys(%q): %d", parts, code)
		}
		for n := -1; n <= 9; n++ {
			switch {
			case n < 0 || n > 8:
				splitFails(t, joined, n, impl.ErrRange)
			case n == len(parts):
				splitIs(t, joined, n, parts...)
			default:
				splitFails(t, joined, n, impl.ErrForm)
			}
		}
	}
}

func TestP5SplitCounts(t *testing.T) {
	nulls := strings.Repeat("\x01", 9)
	for n := range 9 {
		splitIs(t, nulls[:n], n, repeated(n, "\x01")...)
		splitFails(t, nulls[:n+1], n, impl.ErrForm)
		if n > 0 {
			splitFails(t, nulls[:n-1], n, impl.ErrForm)
		}
	}
	for _, n := range []int{-1, -2, 9, 10, 256, 1<<32 + 1, math.MinInt, math.MaxInt} {
		for _, key := range []string{"", "\x01", nulls, "\x00", "no key", strings.Repeat("\x01", impl.MaxText)} {
			splitFails(t, key, n, impl.ErrRange)
		}
		splitFails(t, strings.Repeat("\x01", impl.MaxText+1), n, impl.ErrLong)
	}
}

func TestP5SplitOfCutKeys(t *testing.T) {
	list := append(randomNodes(56, 150), closeNodes()...)
	for _, x := range list {
		key := x.key()
		for i := range len(key) {
			splitFails(t, key[:i], 1, impl.ErrForm)
			splitFails(t, "\x01"+key[:i], 2, impl.ErrForm)
		}
		for _, more := range []string{"\x00", "\x01", "\x02", "\xff", "\x00\x00", key} {
			splitFails(t, key+more, 1, impl.ErrForm)
		}
	}
}

func TestP5SplitOfFallingKeys(t *testing.T) {
	one := mustKey(t, intOf(1), false)
	for _, x := range closeNodes() {
		down := mustKey(t, x.value(), true)
		splitFails(t, down, 1, impl.ErrForm)
		splitFails(t, one+down, 2, impl.ErrForm)
		splitFails(t, down+one, 2, impl.ErrForm)
	}
}

func TestP5SplitOfNoKeys(t *testing.T) {
	for b := range 256 {
		first := string([]byte{byte(b)})
		if b == 1 {
			continue
		}
		splitFails(t, first, 1, impl.ErrForm)
		if b > 6 || b == 0 {
			splitFails(t, first+strings.Repeat("\x00", 20), 1, impl.ErrForm)
			splitFails(t, first+strings.Repeat("\x01", 20), 1, impl.ErrForm)
		}
		if b > 6 {
			splitFails(t, "\x05"+first, 1, impl.ErrForm)
			splitFails(t, "\x05"+first+"\x00", 1, impl.ErrForm)
			splitFails(t, "\x05"+first+"\x00\x00", 1, impl.ErrForm)
			splitFails(t, "\x06\x01a\x00\x00"+first+"\x00\x00", 1, impl.ErrForm)
		}
		// What stands ahead of a field's name is a byte 1.
		if b > 1 {
			splitFails(t, "\x06"+first+"a\x00\x00\x01\x00", 1, impl.ErrForm)
			splitFails(t, "\x06\x01a\x00\x00\x01"+first+"b\x00\x00\x01\x00", 1, impl.ErrForm)
		}
	}
	for _, key := range []string{
		"", "no key", "\x02", "\x03\x40\x00\x00\x00\x00\x00\x00", "\x04", "\x04\x00", "\x04a\x00", "\x04\x00\xff", "\x04\x00\xff\x00", "\x04abc",
		"\x05", "\x05\x01", "\x05\x05\x00", "\x05\x00\x00", "\x05\x04\x00\x00", "\x06", "\x06\x01", "\x06\x01a", "\x06\x01a\x00", "\x06\x01a\x00\x00",
		"\x06\x01a\x00\x00\x00", "\x06\x01a\x00\x00\x01", "\x06a\x00\x00\x01\x00", "\x06\x00\x00", "\x06\x01a\x00\xff\x01\x00",
	} {
		splitFails(t, key, 1, impl.ErrForm)
	}
}

// What a key's end does not hang on may be anything.
func TestP5SplitLooksForEndsOnly(t *testing.T) {
	for _, key := range []string{
		"\x02\x02", "\x02\xff",
		"\x03\x00\x00\x00\x00\x00\x00\x00\x00", "\x03\xff\xff\xff\xff\xff\xff\xff\xff", "\x03\x40\x00\x01\x00\x00\x00\x00\x00",
		"\x04a\x00b\x00\x00", "\x04\x00\x01\x00\x00", "\x04\x00\xfe\xff\x00\x00", "\x04" + strings.Repeat("x", 301) + "\x00\x00",
		"\x05\x02\x09\x00", "\x05" + strings.Repeat("\x01", 301) + "\x00",
		"\x05\x05\x05\x05\x05\x05\x00\x00\x00\x00\x00\x00",
		"\x06\x01\x00\x00\x01\x00", "\x06\x019\x00\x00\x01\x00", "\x06\x01a.b\x00\x00\x01\x00", "\x06\x01\x00\xff\x00\x00\x01\x00", "\x06\x01a\x00b\x00\x00\x01\x00",
		"\x06\x01thirteenchars\x00\x00\x01\x00", "\x06\x01b\x00\x00\x01\x01a\x00\x00\x01\x00", "\x06\x01a\x00\x00\x01\x01a\x00\x00\x01\x00",
		strings.Repeat("\x06\x01a\x00\x00", 6) + "\x01" + strings.Repeat("\x00", 6),
	} {
		splitIs(t, key, 1, key)
		splitIs(t, "\x01"+key+key, 3, "\x01", key, key)
	}
	// The first two bytes 0 are a text's end, whatever stands behind them.
	splitFails(t, "\x04a\x00\x00\x00", 1, impl.ErrForm)
	splitIs(t, "\x04\x00\x00\x04\x00\x00", 2, "\x04\x00\x00", "\x04\x00\x00")
}

func TestP5SplitOfLongTexts(t *testing.T) {
	text := "\x04" + strings.Repeat("x", impl.MaxText-3) + "\x00\x00"
	list := "\x05" + strings.Repeat("\x01", impl.MaxText-2) + "\x00"
	deep := strings.Repeat("\x05", impl.MaxText/2) + strings.Repeat("\x00", impl.MaxText/2)
	fields := strings.Repeat("\x06\x01\x00\x00", 13107) + "\x01" + strings.Repeat("\x00", 13107)
	for _, key := range []string{text, list, deep, fields} {
		if len(key) > impl.MaxText {
			t.Fatalf("a key of %d bytes", len(key))
		}
		splitIs(t, key, 1, key)
		splitFails(t, key[1:], 1, impl.ErrForm)
		splitFails(t, key[:len(key)-1], 1, impl.ErrForm)
	}
	for _, n := range []int{-1, 0, 1, 2, 8, 9} {
		splitFails(t, "x"+text, n, impl.ErrLong)
		splitFails(t, text[:1]+"x"+text[1:], n, impl.ErrLong)
		splitFails(t, strings.Repeat("\x05", impl.MaxText+1), n, impl.ErrLong)
	}
	for _, first := range []string{"\x01", "\x02", "\x03", "\x04", "\x05", "\x06", "\x06\x01\x00\x00", "\x00", "\xff"} {
		splitFails(t, strings.Repeat(first, impl.MaxText/len(first)), 8, impl.ErrForm)
	}
	splitFails(t, text, 0, impl.ErrForm)
	splitFails(t, text, 2, impl.ErrForm)
}

// keyLength is how many bytes the key has with which t begins, 0 if it begins with none: a walk
// with the lists and documents that are open on a stack.
func keyLength(t string) int {
	var open []byte
	for at := 0; at < len(t); {
		inside := byte(0)
		if len(open) > 0 {
			inside = open[len(open)-1]
		}
		switch {
		case inside != 0 && t[at] == 0:
			open = open[:len(open)-1]
			at++
		case inside == 6:
			end := strings.Index(t[at:], "\x00\x00")
			if t[at] != 1 || end < 0 {
				return 0
			}
			// The value is walked as if a list held it alone: what follows it is looked at here.
			n := keyLength(t[at+end+2:])
			if n == 0 {
				return 0
			}
			at += end + 2 + n
		case t[at] == 1:
			at++
		case t[at] == 2:
			at += 2
		case t[at] == 3:
			at += 9
		case t[at] == 4:
			end := strings.Index(t[at:], "\x00\x00")
			if end < 0 {
				return 0
			}
			at += end + 2
		case t[at] == 5 || t[at] == 6:
			open = append(open, t[at])
			at++
		default:
			return 0
		}
		if len(open) == 0 {
			if at > len(t) {
				return 0
			}
			return at
		}
	}
	return 0
}

// changedKey is a text of some keys with a few bytes that are others, more or fewer.
func changedKey(r *rand.Rand, list []node) string {
	var b []byte
	for range 1 + r.Intn(4) {
		b = append(b, pick(r, list).key()...)
	}
	signs := []byte{0, 0, 0, 1, 1, 2, 3, 4, 5, 6, 7, 'a', 254, 255}
	for range r.Intn(4) {
		at := r.Intn(len(b))
		switch r.Intn(3) {
		case 0:
			b[at] = pick(r, signs)
		case 1:
			b = slices.Insert(b, at, pick(r, signs))
		case 2:
			if len(b) > 1 {
				b = slices.Delete(b, at, at+1)
			}
		}
	}
	return string(b)
}

func TestP5SplitOfChangedKeys(t *testing.T) {
	r := rand.New(rand.NewSource(57))
	list := append(randomNodes(58, 200), closeNodes()...)
	var seen [2]int
	for range 60000 {
		key, n := changedKey(r, list), r.Intn(9)
		var want []string
		rest := key
		for range n {
			k := keyLength(rest)
			if k == 0 {
				break
			}
			want, rest = append(want, rest[:k]), rest[k:]
		}
		if len(want) == n && rest == "" {
			splitIs(t, key, n, want...)
			seen[1]++
		} else {
			splitFails(t, key, n, impl.ErrForm)
			seen[0]++
		}
	}
	if seen[0] < 5000 || seen[1] < 2000 {
		t.Errorf("%d texts were no keys, %d were", seen[0], seen[1])
	}
}
