package dfa_test

import "heckle/api"

// spot is a state in the words of the chapter: the current places, and the rule that it accepts.
type spot struct {
	current [600]bool
	rule    int
}

func has(s api.Set, b int) bool { return s[b/64]&(1<<(b%64)) != 0 }

// successor is that of a state for a byte, if there is one.
func successor(a api.Auto, s spot, b int) (spot, bool) {
	next, some := spot{rule: -1}, false
	for p, set := range a.Sets {
		if !s.current[p] || !has(set, b) {
			continue
		}
		some = true
		for _, q := range a.Follow[p] {
			next.current[q] = true
		}
		if a.Ends[p] && (next.rule == -1 || a.Owner[p] < next.rule) {
			next.rule = a.Owner[p]
		}
	}
	return next, some
}

// together reports whether each Set contains both bytes, or neither.
func together(a api.Auto, b, c int) bool {
	for _, set := range a.Sets {
		if has(set, b) != has(set, c) {
			return false
		}
	}
	return true
}

// oracleMap is the Map, and the least byte of each class.
func oracleMap(a api.Auto) ([]int, []int) {
	var classes, least []int
	for b := range 256 {
		class := 0
		for class < len(least) && !together(a, least[class], b) {
			class++
		}
		if class == len(least) {
			least = append(least, b)
		}
		classes = append(classes, class)
	}
	return classes, least
}

// oracleMake is Make for a valid automaton, and the number of its states; of those beyond 500, no rows are made.
func oracleMake(a api.Auto) (api.Dfa, int) {
	classes, least := oracleMap(a)
	d := api.Dfa{Map: classes}
	var reached []spot
	number := func(s spot) int {
		for i, known := range reached {
			if known == s {
				return i
			}
		}
		reached = append(reached, s)
		return len(reached) - 1
	}
	for _, start := range a.Starts {
		s := spot{rule: -1}
		for _, p := range start {
			s.current[p] = true
		}
		d.Start = append(d.Start, number(s))
	}
	for i := 0; i < len(reached) && len(reached) <= 500; i++ {
		var row []int
		for _, b := range least {
			n := -1
			if next, some := successor(a, reached[i], b); some {
				n = number(next)
			}
			row = append(row, n)
		}
		d.Rows = append(d.Rows, row)
		d.Accept = append(d.Accept, reached[i].rule)
	}
	return d, len(reached)
}

// oracleRight is Right, each sentence for itself.
func oracleRight(d api.Dfa) bool {
	states, width := len(d.Rows), 0
	for _, class := range d.Map {
		if class < 0 || class > 255 {
			return false
		}
		width = max(width, class+1)
	}
	for _, rule := range d.Accept {
		if rule < -1 || rule > 39 {
			return false
		}
	}
	for _, row := range d.Rows {
		if len(row) != width {
			return false
		}
		for _, n := range row {
			if n < -1 || n > states-1 {
				return false
			}
		}
	}
	for _, n := range d.Start {
		if n < -1 || n > states-1 {
			return false
		}
	}
	return len(d.Map) == 256 && states <= 500 && len(d.Accept) == states && len(d.Start) <= 16
}

// oracleRun is Run for a valid d and a state of it, or -1: all states that w leads to are kept, with the
// one that is there before any byte.
func oracleRun(d api.Dfa, state int, w string) (int, int) {
	l := []int{state}
	for i := 0; i < len(w) && l[i] != -1; i++ {
		l = append(l, d.Rows[l[i]][d.Map[w[i]]])
	}
	for n := len(l) - 1; n >= 0; n-- {
		if l[n] != -1 && d.Accept[l[n]] != -1 {
			return d.Accept[l[n]], n
		}
	}
	return -1, 0
}
