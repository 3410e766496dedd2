package match

import (
	"heckle/api"
	"heckle/rx"
	"heckle/set"
	"maps"
)

// positions are the keys; there is nothing to say of each.
type positions map[int]struct{}

// step is one occurrence of a pattern whose numbers of repetitions are written out: its Reps match
// the concatenations of one or more texts that their kid matches.
//
// In a loop a step is asked again, from further positions. As the answers to all questions are put
// together anyway, a step returns no end twice; so no step is asked from a position twice, and the
// time does not grow with the ways in which a text can be divided.
type step struct {
	kind    int
	set     api.Set
	kids    []step
	reached positions
}

func newStep(kind int, kids ...step) step {
	return step{kind: kind, kids: kids, reached: positions{}}
}

// written returns the steps of x, a valid pattern.
func written(x api.Rx) step {
	switch x.Kind {
	case api.Bytes:
		return step{kind: api.Bytes, set: x.Set}
	case api.Cat, api.Alt:
		return newStep(x.Kind, kidsOf(x)...)
	case api.Rep:
		// The Size of a valid pattern limits only copies of patterns with Bytes in them.
		if rx.Size(x) > 0 {
			return newStep(api.Cat, copiesOf(x)...)
		}
	}
	return newStep(api.Empty)
}

// kidsOf returns the steps of the kids of a Cat or an Alt. Those without Bytes match the empty text
// alone: in a Cat they are left out, in an Alt one stands for all, lest hundreds be copied.
func kidsOf(x api.Rx) []step {
	var kids []step
	void := false
	for _, kid := range x.Kids {
		if rx.Size(kid) == 0 {
			void = true
			continue
		}
		kids = append(kids, written(kid))
	}
	if void && x.Kind == api.Alt {
		kids = append(kids, newStep(api.Empty))
	}
	return kids
}

// copiesOf returns the steps of the kid of a Rep, as often as its Size counts them.
func copiesOf(x api.Rx) []step {
	var kids []step
	times := max(x.Lo, x.Hi, 1)
	for i := range times {
		kid := written(x.Kids[0])
		if x.Hi == -1 && i == times-1 {
			kid = newStep(api.Rep, kid)
		}
		if i >= x.Lo {
			kid = newStep(api.Alt, kid, newStep(api.Empty))
		}
		kids = append(kids, kid)
	}
	return kids
}

// ends returns the positions in s that the step reaches from those given, but has not returned before.
func (p *step) ends(s string, from positions) positions {
	switch p.kind {
	case api.Bytes:
		return p.behind(s, from)
	case api.Cat:
		return p.inOrder(s, from)
	case api.Alt:
		return p.either(s, from)
	case api.Rep:
		return p.again(s, from)
	}
	return from
}

// behind is ends for Bytes.
func (p *step) behind(s string, from positions) positions {
	ends := positions{}
	for at := range from {
		if at < len(s) && set.Has(p.set, int(s[at])) {
			ends[at+1] = struct{}{}
		}
	}
	return ends
}

// inOrder is ends for a Cat.
func (p *step) inOrder(s string, from positions) positions {
	for i := range p.kids {
		from = p.kids[i].ends(s, from)
	}
	return from
}

// either is ends for an Alt.
func (p *step) either(s string, from positions) positions {
	ends := positions{}
	for i := range p.kids {
		maps.Copy(ends, p.fresh(p.kids[i].ends(s, from)))
	}
	return ends
}

// again is ends for a Rep.
func (p *step) again(s string, from positions) positions {
	ends := positions{}
	for len(from) > 0 {
		from = p.kids[0].ends(s, p.fresh(from))
		maps.Copy(ends, from)
	}
	return ends
}

// fresh returns those positions that were not reached before, and keeps them.
func (p *step) fresh(from positions) positions {
	left := maps.Clone(from)
	for at := range from {
		if _, ok := p.reached[at]; ok {
			delete(left, at)
		}
	}
	maps.Copy(p.reached, left)
	return left
}
