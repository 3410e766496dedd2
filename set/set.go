// Package set is layer 1: sets of bytes.
package set

import "heckle/api"

const (
	wordBits  = 64
	byteCount = 256
)

// Has reports whether b is a byte of s.
func Has(s api.Set, b int) bool {
	if b < 0 || b >= byteCount {
		return false
	}
	return s[b/wordBits]>>(b%wordBits)&1 == 1
}

// Of returns the bytes from from to to, both included.
func Of(from, to int) api.Set {
	return ofBytes(func(b int) bool { return from <= b && b <= to })
}

// Or returns the union.
func Or(a, b api.Set) api.Set {
	return ofWords(func(i int) uint64 { return a[i] | b[i] })
}

// And returns the intersection.
func And(a, b api.Set) api.Set {
	return ofWords(func(i int) uint64 { return a[i] & b[i] })
}

// Not returns the complement.
func Not(a api.Set) api.Set {
	return ofWords(func(i int) uint64 { return ^a[i] })
}

// Fold returns a with each of its letters in both cases.
func Fold(a api.Set) api.Set {
	return ofBytes(func(b int) bool { return Has(a, b) || Has(a, otherCase(b)) })
}

// List returns the bytes of a in ascending order.
func List(a api.Set) []int {
	var list []int
	for b := range byteCount {
		if Has(a, b) {
			list = append(list, b)
		}
	}
	return list
}

// Runs returns the bytes of a as maximal runs in ascending order.
func Runs(a api.Set) [][2]int {
	var runs [][2]int
	for b := range byteCount {
		if !Has(a, b) {
			continue
		}
		// Has answers false for -1, so a run may begin at byte 0.
		if Has(a, b-1) {
			runs[len(runs)-1][1] = b
		} else {
			runs = append(runs, [2]int{b, b})
		}
	}
	return runs
}

// ofWords is the one place that makes a set, so that no call misses a word.
func ofWords(word func(i int) uint64) api.Set {
	var s api.Set
	for i := range len(s) {
		s[i] = word(i)
	}
	return s
}

// ofBytes returns the set of the bytes that keep accepts.
func ofBytes(keep func(b int) bool) api.Set {
	return ofWords(func(i int) uint64 {
		var word uint64
		for bit := range wordBits {
			if keep(i*wordBits + bit) {
				word |= 1 << bit
			}
		}
		return word
	})
}

// otherCase returns b itself if it is no letter, so that Fold needs no case of its own for these.
func otherCase(b int) int {
	switch {
	case 'a' <= b && b <= 'z':
		return b - 'a' + 'A'
	case 'A' <= b && b <= 'Z':
		return b - 'A' + 'a'
	}
	return b
}
