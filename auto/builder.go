package auto

import (
	"heckle/api"
	"heckle/place"
	"heckle/spec"
	"iter"
	"slices"
)

// builder keeps the places of the rules that were added and, for each of these, where it begins.
type builder struct {
	auto   api.Auto
	begins [][]int
}

// addRule adds the places of r, the next rule of a valid specification.
func (b *builder) addRule(rule int, r api.Rule) {
	if r.Eof {
		b.begins = append(b.begins, nil)
		return
	}
	head := b.addPattern(rule, r.Rx)
	b.begins = append(b.begins, head.First)
	if r.Trail.Kind == 0 {
		b.end(head.Last)
		return
	}
	trail := b.addPattern(rule, r.Trail)
	b.link(head.Last, trail.First)
	b.end(trail.Last)
	if trail.Null {
		b.end(head.Last)
	}
}

// addPattern adds the places of x, a valid pattern, and returns where it begins and ends, by their
// numbers in the automaton.
func (b *builder) addPattern(rule int, x api.Rx) api.Places {
	p, _ := place.Of(x)
	before, n := len(b.auto.Sets), len(p.Sets)
	b.auto.Sets = append(b.auto.Sets, p.Sets...)
	b.auto.Owner = append(b.auto.Owner, slices.Repeat([]int{rule}, n)...)
	b.auto.Ends = append(b.auto.Ends, make([]bool, n)...)
	for list := range lists(p.Follow) {
		b.auto.Follow = append(b.auto.Follow, moved(list, before))
	}
	return api.Places{First: moved(p.First, before), Last: moved(p.Last, before), Null: p.Null}
}

// link makes the places of next, which are behind all that were there, follow each of the others.
func (b *builder) link(places, next []int) {
	for _, p := range places {
		b.auto.Follow[p] = append(b.auto.Follow[p], next...)
	}
}

// end marks places at which their rule can end.
func (b *builder) end(places []int) {
	for _, p := range places {
		b.auto.Ends[p] = true
	}
}

// starts returns the places that can read first, for each context.
func (b *builder) starts(s api.Spec) [][]int {
	var all [][]int
	for cond := range s.Conds {
		for _, line := range []bool{false, true} {
			var start []int
			for list := range b.beginning(s, cond, line) {
				start = append(start, list...)
			}
			all = append(all, start)
		}
	}
	return all
}

// beginning are, for each rule that can be picked in the condition, whether a line begins or not, the
// places at which it begins.
func (b *builder) beginning(s api.Spec, cond int, line bool) iter.Seq[[]int] {
	return func(yield func([]int) bool) {
		for rule, list := range b.begins {
			if spec.Active(s, rule, cond) && (line || !s.Rules[rule].Bol) && !yield(list) {
				return
			}
		}
	}
}
