package place

import (
	"heckle/api"
	"heckle/rx"
	"slices"
)

// builder keeps all places, in the order in which they were added, and what can follow each of them.
type builder struct {
	sets   []api.Set
	follow [][]int
}

// part is what is to be known of a part of the expanded pattern to put it beside others: the places at
// which a match can begin and end, and whether it matches the empty text.
type part struct {
	first, last []int
	null        bool
}

// add adds the places of x, a valid pattern.
func (b *builder) add(x api.Rx) part {
	switch x.Kind {
	case api.Bytes:
		return b.addBytes(x.Set)
	case api.Cat:
		return b.addCat(x.Kids)
	case api.Alt:
		return b.addAlt(x.Kids)
	case api.Rep:
		return b.addRep(x)
	}
	return part{null: true}
}

// addBytes adds one place. Its lists are two, as both may end up in the answer.
func (b *builder) addBytes(s api.Set) part {
	place := len(b.sets)
	b.sets = append(b.sets, s)
	b.follow = append(b.follow, nil)
	return part{first: []int{place}, last: []int{place}}
}

// addCat adds the places of the kids, one behind the other; no kids match the empty text.
func (b *builder) addCat(kids []api.Rx) part {
	whole := part{null: true}
	for _, kid := range kids {
		whole = b.joined(whole, b.add(kid))
	}
	return whole
}

// addAlt adds the places of the kids, one beside the other.
func (b *builder) addAlt(kids []api.Rx) part {
	var whole part
	for _, kid := range kids {
		one := b.add(kid)
		whole.first = merged(whole.first, one.first)
		whole.last = merged(whole.last, one.last)
		whole.null = whole.null || one.null
	}
	return whole
}

// addRep adds the places of the kid of a Rep, as often as its Size counts them.
func (b *builder) addRep(x api.Rx) part {
	kid := x.Kids[0]
	if rx.Size(kid) == 0 {
		// Without places it matches the empty text alone, and no Size limits how often it is repeated.
		return part{null: true}
	}
	if x.Hi == -1 {
		copies := b.addCopies(kid, max(x.Lo-1, 0))
		loop := b.addLoop(kid)
		loop.null = loop.null || x.Lo == 0
		return b.joined(copies, loop)
	}
	copies := b.addCopies(kid, x.Lo)
	return b.joined(copies, b.addOptions(kid, x.Hi-x.Lo))
}

// addCopies adds the places of n copies of x, one behind the other.
func (b *builder) addCopies(x api.Rx, n int) part {
	return b.addCat(slices.Repeat([]api.Rx{x}, n))
}

// addOptions adds the places of n optional copies of x, each of which contains all those behind it.
func (b *builder) addOptions(x api.Rx, n int) part {
	if n == 0 {
		return part{null: true}
	}
	one := b.add(x)
	whole := b.joined(one, b.addOptions(x, n-1))
	whole.null = true
	return whole
}

// addLoop adds the places of one copy of x, repeated once or more.
func (b *builder) addLoop(x api.Rx) part {
	one := b.add(x)
	b.link(one.last, one.first)
	return one
}

// joined returns the part that consists of x and, behind it, y.
func (b *builder) joined(x, y part) part {
	b.link(x.last, y.first)
	whole := part{first: x.first, last: y.last, null: x.null && y.null}
	if x.null {
		whole.first = merged(x.first, y.first)
	}
	if y.null {
		whole.last = merged(x.last, y.last)
	}
	return whole
}

// link makes the places of next follow each of the others.
func (b *builder) link(places, next []int) {
	for _, place := range places {
		b.follow[place] = merged(b.follow[place], next)
	}
}
