package match

import (
	"heckle/api"
	"heckle/rx"
	"heckle/set"
	"maps"
)

// positions are the keys; there is nothing to say of each.
type positions map[int]struct{}

// step is one occurrence of a pattern whose numbers of repetitions are written out: its Reps match
// the concatenations of one or more texts that their kid matches.
//
// In a loop a step is asked again, from further positions. As the answers to all questions are put
// together anyway, a step returns no end twice; so no step is asked from a position twice, and the
// time does not grow with the ways in which a text can be divided.
type step struct {
	kind    int
	set     api.Set
	kids    []step
	reached positions
}

func newStep(kind int, kids ...step) step {
	return step{kind: kind, kids: kids, reached: positions{}}
}

// written returns the steps of x, a valid pattern.
func written(x api.Rx) step {
	switch {
	case x.Kind == api.Bytes:
		return step{kind: api.Bytes, set: x.Set}
	case rx.Size(x) == 0:
		// Without Bytes it matches the empty text alone, and no Size limits how often it is repeated.
		return newStep(api.Empty)
	case x.Kind == api.Rep:
		return joined(api.Cat, copiesOf(x))
	}
	kids := kidsOf(x)
	whole := joined(x.Kind, kids)
	if x.Kind == api.Alt && len(kids) < len(x.Kids) {
		whole = optional(whole)
	}
	return whole
}

// kidsOf returns the steps of the kids of a Cat or an Alt, without those that match the empty text
// alone: there may be hundreds of them, and each repetition would copy them.
func kidsOf(x api.Rx) []step {
	var kids []step
	for _, kid := range x.Kids {
		if one := written(kid); one.kind != api.Empty {
			kids = append(kids, one)
		}
	}
	return kids
}

// copiesOf returns the steps of the kid of a Rep, as often as its Size counts them.
func copiesOf(x api.Rx) []step {
	var kids []step
	times := max(x.Lo, x.Hi, 1)
	for i := range times {
		kid := written(x.Kids[0])
		if x.Hi == -1 && i == times-1 {
			kid = repeated(kid)
		}
		if i >= x.Lo {
			kid = optional(kid)
		}
		kids = append(kids, kid)
	}
	return kids
}

// joined returns the Cat or the Alt of the kids. What only encloses one kid is left out here, and in
// optional and repeated: else each level of each copy would keep positions of its own.
func joined(kind int, kids []step) step {
	if len(kids) == 1 {
		return kids[0]
	}
	return newStep(kind, kids...)
}

// optional returns a step that matches what the kid matches, and the empty text.
func optional(kid step) step {
	if kid.isOptional() {
		return kid
	}
	return newStep(api.Alt, kid, newStep(api.Empty))
}

// repeated returns a step that matches the concatenations of one or more texts that the kid matches.
func repeated(kid step) step {
	if kid.isOptional() {
		return optional(repeated(kid.kids[0]))
	}
	if kid.kind == api.Rep {
		return kid
	}
	return newStep(api.Rep, kid)
}

// isOptional reports whether the step was made by optional, the only one to keep an Empty.
func (p *step) isOptional() bool {
	return p.kind == api.Alt && p.kids[1].kind == api.Empty
}

// ends returns the positions in s that the step reaches from those given, but has not returned before.
func (p *step) ends(s string, from positions) positions {
	switch p.kind {
	case api.Bytes:
		return p.behind(s, from)
	case api.Cat:
		return p.inOrder(s, from)
	case api.Alt:
		return p.either(s, from)
	case api.Rep:
		return p.again(s, from)
	}
	return from
}

// behind is ends for Bytes.
func (p *step) behind(s string, from positions) positions {
	ends := positions{}
	for at := range from {
		if at < len(s) && set.Has(p.set, int(s[at])) {
			ends[at+1] = struct{}{}
		}
	}
	return ends
}

// inOrder is ends for a Cat.
func (p *step) inOrder(s string, from positions) positions {
	for i := range p.kids {
		from = p.kids[i].ends(s, from)
	}
	return from
}

// either is ends for an Alt.
func (p *step) either(s string, from positions) positions {
	ends := positions{}
	for i := range p.kids {
		maps.Copy(ends, p.fresh(p.kids[i].ends(s, from)))
	}
	return ends
}

// again is ends for a Rep.
func (p *step) again(s string, from positions) positions {
	ends := positions{}
	for len(from) > 0 {
		from = p.kids[0].ends(s, p.fresh(from))
		maps.Copy(ends, from)
	}
	return ends
}

// fresh returns those positions that were not reached before, and keeps them.
func (p *step) fresh(from positions) positions {
	left := maps.Clone(from)
	for at := range from {
		if _, ok := p.reached[at]; ok {
			delete(left, at)
		}
	}
	maps.Copy(p.reached, left)
	return left
}
