package place

import "cmp"

// merged returns what stands in one of two ascending lists, or in both, in ascending order and each
// once. The list is a new one, so that no two lists of an answer share memory.
func merged[T cmp.Ordered](a, b []T) []T {
	list := make([]T, 0, len(a)+len(b))
	for len(a) > 0 && len(b) > 0 {
		switch order := cmp.Compare(a[0], b[0]); {
		case order < 0:
			list, a = append(list, a[0]), a[1:]
		case order > 0:
			list, b = append(list, b[0]), b[1:]
		default:
			// It is kept with those of b.
			a = a[1:]
		}
	}
	return append(append(list, a...), b...)
}
