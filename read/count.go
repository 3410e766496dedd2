package read

import "heckle/api"

// atQuantifier reports whether a quantifier begins here: a { without a digit begins a name.
func (r *reader) atQuantifier() bool {
	switch r.next() {
	case '*', '+', '?':
		return true
	case '{':
		return isDigit(r.later(1))
	}
	return false
}

// quantifier reads a quantifier.
func (r *reader) quantifier() (lo, hi int, err error) {
	switch r.next() {
	case '{':
		return r.braces()
	case '?':
		hi = 1
	case '+':
		lo = 1
		// From there on + is as *.
		fallthrough
	case '*':
		hi = -1
	}
	r.at++
	return lo, hi, nil
}

// braces reads a quantifier of numbers.
func (r *reader) braces() (lo, hi int, err error) {
	beyond := r.wrong(api.ErrRange)
	r.at++
	if lo, err = r.number(); err != nil {
		return 0, 0, err
	}
	if hi, err = r.upper(lo); err != nil {
		return 0, 0, err
	}
	if err = r.skip('}'); err != nil {
		return 0, 0, err
	}
	if lo > api.MaxRepeat || hi > api.MaxRepeat || hi != -1 && hi < max(lo, 1) {
		return 0, 0, beyond
	}
	return lo, hi, nil
}

// upper reads the second number of a quantifier, whose first one is lo.
func (r *reader) upper(lo int) (int, error) {
	if r.next() != ',' {
		return lo, nil
	}
	r.at++
	if r.next() == '}' {
		return -1, nil
	}
	return r.number()
}

// number reads one to three digits.
func (r *reader) number() (int, error) {
	if !isDigit(r.next()) {
		return 0, r.wrong(api.ErrSyntax)
	}
	// A number does not begin with 0, but for 0 itself.
	most := 3
	if r.next() == '0' {
		most = 1
	}
	n := 0
	for end := r.at + most; r.at < end && isDigit(r.next()); r.at++ {
		n = n*10 + r.next() - '0'
	}
	return n, nil
}
