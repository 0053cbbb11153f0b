package impl

const (
	MaxText = 65536
	MaxList = 4096
	MaxName = 40

	maxShortName = 12
)

// The codes' numbers are the order of these lines: a new one stands last.
const (
	OK = iota
	ErrBad
	ErrLong
	ErrForm
	ErrRange
	ErrNone
	ErrMany
	ErrFull
	ErrType
	ErrDeep
	ErrSize
	ErrName
	ErrTwice
	ErrPlace
	ErrPath
	ErrConflict
	ErrPivot
	ErrState
	ErrBusy
	ErrOrder
)

var codeWords = [...]string{
	OK:          "ok",
	ErrBad:      "bad",
	ErrLong:     "long",
	ErrForm:     "form",
	ErrRange:    "range",
	ErrNone:     "none",
	ErrMany:     "many",
	ErrFull:     "full",
	ErrType:     "type",
	ErrDeep:     "deep",
	ErrSize:     "size",
	ErrName:     "name",
	ErrTwice:    "twice",
	ErrPlace:    "place",
	ErrPath:     "path",
	ErrConflict: "conflict",
	ErrPivot:    "pivot",
	ErrState:    "state",
	ErrBusy:     "busy",
	ErrOrder:    "order",
}

func NameOK(t string) bool {
	if len(t) == 0 || len(t) > MaxName || isDigit(t[0]) {
		return false
	}
	for i := range len(t) {
		if !isLetter(t[i]) && !isDigit(t[i]) {
			return false
		}
	}
	return true
}

func shortNameOK(t string) bool { return len(t) <= maxShortName && NameOK(t) }

func isLetter(b byte) bool {
	return 'a' <= b && b <= 'z' || 'A' <= b && b <= 'Z' || b == '_'
}

func isDigit(b byte) bool { return '0' <= b && b <= '9' }

func CodeWord(code int) string {
	if code < 0 || code >= len(codeWords) {
		return ""
	}
	return codeWords[code]
}

func CodeOf(word string) int {
	for code, w := range codeWords {
		if w == word {
			return code
		}
	}
	return -1
}
