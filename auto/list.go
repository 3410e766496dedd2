package auto

import "iter"

// lists are those of all groups, one after the other.
func lists(groups ...[][]int) iter.Seq[[]int] {
	return func(yield func([]int) bool) {
		for _, group := range groups {
			for _, list := range group {
				if !yield(list) {
					return
				}
			}
		}
	}
}

// areIndices reports whether all numbers of the list are indices of n things.
func areIndices(list []int, n int) bool {
	for _, i := range list {
		if i < 0 || i >= n {
			return false
		}
	}
	return true
}

// ascends reports whether each number of the list is greater than the one before it.
func ascends(list []int) bool {
	for i := 1; i < len(list); i++ {
		if list[i] <= list[i-1] {
			return false
		}
	}
	return true
}

// moved returns a new list of the same numbers, each greater by the given one.
func moved(list []int, by int) []int {
	result := make([]int, len(list))
	for i, p := range list {
		result[i] = p + by
	}
	return result
}
