package rules

import (
	"heckle/api"
	"strings"
)

// span is a part of the text, and the position where it begins there.
type span struct {
	text string
	at   int
}

// wrong is an error where the part begins.
func (s span) wrong(errno api.Errno) error {
	return fault{cause(errno), s.at}
}

// cut divides the part in two, the second of which begins at its byte n.
func (s span) cut(n int) (span, span) {
	return span{s.text[:n], s.at}, span{s.text[n:], s.at + n}
}

// until divides the part at the first one of the given bytes, or at its end.
func (s span) until(bytes string) (span, span) {
	for n := range len(s.text) {
		if strings.IndexByte(bytes, s.text[n]) >= 0 {
			return s.cut(n)
		}
	}
	return s.cut(len(s.text))
}

// skip passes over a text, and reports whether the part begins with it.
func (s span) skip(text string) (span, bool) {
	if !strings.HasPrefix(s.text, text) {
		return s, false
	}
	_, rest := s.cut(len(text))
	return rest, true
}
