package auto_test

import (
	"slices"

	"heckle/api"
	"heckle/place"
)

// spot is a place in the words of the chapter: a rule's, of its Rx or its Trail, by its number there.
type spot struct {
	rule  int
	trail bool
	n     int
}

// oracle asks of each place, and of each two, what the chapter says of it.
type oracle struct {
	s      api.Spec
	heads  []api.Places
	trails []api.Places
	spots  []spot
}

func newOracle(s api.Spec) *oracle {
	o := &oracle{s: s}
	for rule, r := range s.Rules {
		head, _ := place.Of(r.Rx)
		trail, _ := place.Of(r.Trail)
		o.heads, o.trails = append(o.heads, head), append(o.trails, trail)
		for n := range head.Sets {
			o.spots = append(o.spots, spot{rule, false, n})
		}
		for n := range trail.Sets {
			o.spots = append(o.spots, spot{rule, true, n})
		}
	}
	return o
}

func (o *oracle) places(p spot) api.Places {
	if p.trail {
		return o.trails[p.rule]
	}
	return o.heads[p.rule]
}

func (o *oracle) follows(p, q spot) bool {
	if p.rule != q.rule {
		return false
	}
	if p.trail == q.trail {
		return slices.Contains(o.places(p).Follow[p.n], q.n)
	}
	return q.trail && slices.Contains(o.places(p).Last, p.n) && slices.Contains(o.places(q).First, q.n)
}

func (o *oracle) ends(p spot) bool {
	last := slices.Contains(o.places(p).Last, p.n)
	return last && (p.trail || o.s.Rules[p.rule].Trail.Kind == 0 || o.trails[p.rule].Null)
}

func (o *oracle) starts(p spot, cond int, line bool) bool {
	r := o.s.Rules[p.rule]
	active := r.All || slices.Contains(r.Conds, cond) || len(r.Conds) == 0 && !o.s.Conds[cond].Exclusive
	return !p.trail && slices.Contains(o.heads[p.rule].First, p.n) && active && (line || !r.Bol)
}

// auto is Build for a valid specification.
func (o *oracle) auto() api.Auto {
	var a api.Auto
	for _, p := range o.spots {
		a.Sets = append(a.Sets, o.places(p).Sets[p.n])
		a.Owner = append(a.Owner, p.rule)
		a.Ends = append(a.Ends, o.ends(p))
		a.Follow = append(a.Follow, o.which(func(q spot) bool { return o.follows(p, q) }))
	}
	for context := range 2 * len(o.s.Conds) {
		a.Starts = append(a.Starts, o.which(func(p spot) bool { return o.starts(p, context/2, context%2 == 1) }))
	}
	return a
}

func (o *oracle) which(holds func(p spot) bool) []int {
	var l []int
	for i, p := range o.spots {
		if holds(p) {
			l = append(l, i)
		}
	}
	return l
}

// oracleRun is Run for a valid automaton and a list of its places.
func oracleRun(a api.Auto, from []int, w string) (int, int) {
	best, most := -1, 0
	current := map[int]bool{}
	for _, p := range from {
		current[p] = true
	}
	for i := range len(w) {
		b := w[i]
		next, owners := map[int]bool{}, []int{}
		for p := range current {
			if a.Sets[p][b/64]&(1<<(b%64)) == 0 {
				continue
			}
			if a.Ends[p] {
				owners = append(owners, a.Owner[p])
			}
			for _, q := range a.Follow[p] {
				next[q] = true
			}
		}
		if len(owners) > 0 {
			best, most = slices.Min(owners), i+1
		}
		current = next
	}
	return best, most
}
