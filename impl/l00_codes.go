package impl

const (
	MaxText = 65536
	MaxList = 4096
	MaxName = 12

	OK        = 0
	ErrBad    = 1
	ErrLong   = 2
	ErrForm   = 3
	ErrRange  = 4
	ErrNone   = 5
	ErrMany   = 6
	ErrFull   = 7
	ErrSize   = 8
	ErrKind   = 9
	ErrName   = 10
	ErrOrder  = 11
	ErrOrphan = 12
	ErrNotDir = 13
	ErrIsDir  = 14
	ErrSum    = 15
	ErrFault  = 16
	ErrState  = 17
	ErrSame   = 18
)

var codeWords = [...]string{
	OK:        "ok",
	ErrBad:    "bad",
	ErrLong:   "long",
	ErrForm:   "form",
	ErrRange:  "range",
	ErrNone:   "none",
	ErrMany:   "many",
	ErrFull:   "full",
	ErrSize:   "size",
	ErrKind:   "kind",
	ErrName:   "name",
	ErrOrder:  "order",
	ErrOrphan: "orphan",
	ErrNotDir: "notdir",
	ErrIsDir:  "isdir",
	ErrSum:    "sum",
	ErrFault:  "fault",
	ErrState:  "state",
	ErrSame:   "same",
}

func NameOK(t string) bool {
	if t == "" || len(t) > MaxName {
		return false
	}
	for i, c := range t {
		if !startsName(c) && (i == 0 || !isDigit(c)) {
			return false
		}
	}
	return true
}

func startsName(c rune) bool {
	return 'a' <= c && c <= 'z' || 'A' <= c && c <= 'Z' || c == '_'
}

func isDigit(c rune) bool {
	return '0' <= c && c <= '9'
}

func CodeWord(code int) string {
	if code < 0 || code >= len(codeWords) {
		return ""
	}
	return codeWords[code]
}

func CodeOf(word string) int {
	for code, w := range codeWords {
		if w == word {
			return code
		}
	}
	return -1
}

func longText(t string) bool {
	return len(t) > MaxText
}
