package read

import (
	"heckle/api"
	"heckle/set"
	"strings"
)

// The bytes that stand for themselves neither as an atom nor in a class.
const (
	notAlone   = `|*+?{}()[].\/^$<>"`
	notInClass = `]\-^`
)

// single reads a byte that is none of those barred, or an escape.
func (r *reader) single(barred string) (int, error) {
	c := r.next()
	if c == '\\' {
		r.at++
		return r.escaped()
	}
	if !isVisible(c) || strings.IndexByte(barred, byte(c)) >= 0 {
		return 0, r.wrong(api.ErrSyntax)
	}
	r.at++
	return c, nil
}

// escaped reads what stands behind a \.
func (r *reader) escaped() (int, error) {
	c := r.next()
	switch {
	case c == 'x':
		r.at++
		return r.hex()
	case c == 'n':
		c = '\n'
	case c == 't':
		c = '\t'
	case !isVisible(c) || isLetter(c) || isDigit(c):
		return 0, r.wrong(api.ErrSyntax)
	}
	r.at++
	return c, nil
}

// hex reads two hexadecimal digits.
func (r *reader) hex() (int, error) {
	b := 0
	for range 2 {
		switch c := r.next(); {
		case isDigit(c):
			b = b*16 + c - '0'
		case 'a' <= c && c <= 'f':
			b = b*16 + c - 'a' + 10
		default:
			return 0, r.wrong(api.ErrSyntax)
		}
		r.at++
	}
	return b, nil
}

// class reads a class.
func (r *reader) class() (api.Rx, error) {
	without := r.wrong(api.ErrRange)
	r.at++
	others := r.next() == '^'
	if others {
		r.at++
	}
	s, err := r.items()
	if err != nil {
		return api.Rx{}, err
	}
	s = r.folded(s)
	if others {
		s = set.Not(s)
	}
	if s == (api.Set{}) {
		return api.Rx{}, without
	}
	return api.Rx{Kind: api.Bytes, Set: s}, nil
}

// items reads the items of a class, and its end.
func (r *reader) items() (api.Set, error) {
	var s api.Set
	for {
		// At least one item must stand there, so the end is looked for behind one.
		one, err := r.item()
		if err != nil {
			return api.Set{}, err
		}
		s = set.Or(s, one)
		if r.next() == ']' {
			r.at++
			return s, nil
		}
	}
}

// item reads a byte of a class, or the first and the last one of several.
func (r *reader) item() (api.Set, error) {
	first, err := r.single(notInClass)
	if err != nil || r.next() != '-' {
		return set.Of(first, first), err
	}
	r.at++
	below := r.wrong(api.ErrRange)
	last, err := r.single(notInClass)
	if err == nil && last < first {
		err = below
	}
	return set.Of(first, last), err
}

func isLetter(c int) bool { return 'a' <= c && c <= 'z' || 'A' <= c && c <= 'Z' }

func isDigit(c int) bool { return '0' <= c && c <= '9' }

func isVisible(c int) bool { return 33 <= c && c <= 126 }
