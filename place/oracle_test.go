package place_test

import (
	"slices"

	"heckle/api"
)

// oracle reads the chapter word for word: it writes the expanded pattern down, and draws it as a net of
// points, in which empty steps and those that read the byte of a place lead from one point to another.
type oracle struct {
	empty  [][]int // for each point, where the empty steps from it lead
	places []reading
}

// reading is a place, with the points that it leads from and to.
type reading struct {
	set      api.Set
	from, to int
}

// expanded writes the copies of a Rep out. What remains are the Reps X? (0 to 1), X* (0 on) and X+ (1 on).
func expanded(x api.Rx) api.Rx {
	if x.Kind != api.Rep {
		kids := []api.Rx{}
		for _, kid := range x.Kids {
			kids = append(kids, expanded(kid))
		}
		x.Kids = kids
		return x
	}
	one := expanded(x.Kids[0])
	if x.Hi == -1 && x.Lo == 0 {
		return rep(one, 0, -1)
	}
	if x.Hi == -1 {
		return cat(append(slices.Repeat([]api.Rx{one}, x.Lo-1), rep(one, 1, -1))...)
	}
	copies := slices.Repeat([]api.Rx{one}, x.Lo)
	options := empty()
	for range x.Hi - x.Lo {
		options = rep(cat(one, options), 0, 1)
	}
	return cat(append(copies, options)...)
}

func (o *oracle) point() int {
	o.empty = append(o.empty, nil)
	return len(o.empty) - 1
}

func (o *oracle) step(from, to int) { o.empty[from] = append(o.empty[from], to) }

// draw draws an expanded pattern from a point on, and returns the point where it ends.
func (o *oracle) draw(x api.Rx, from int) int {
	switch x.Kind {
	case api.Bytes:
		to := o.point()
		o.places = append(o.places, reading{x.Set, from, to})
		return to
	case api.Cat:
		for _, kid := range x.Kids {
			from = o.draw(kid, from)
		}
		return from
	case api.Alt:
		to := o.point()
		for _, kid := range x.Kids {
			o.step(o.draw(kid, from), to)
		}
		return to
	case api.Rep:
		return o.drawRep(x, from)
	}
	return from
}

// drawRep gives a Rep points of its own at both ends, as steps back must not lead into what is beside it.
func (o *oracle) drawRep(x api.Rx, from int) int {
	start, to := o.point(), o.point()
	o.step(from, start)
	end := o.draw(x.Kids[0], start)
	o.step(end, to)
	if x.Lo == 0 {
		o.step(start, to)
	}
	if x.Hi == -1 {
		o.step(end, start)
	}
	return to
}

// reach returns whether a point is reached from the given one by empty steps, for each point.
func (o *oracle) reach(from int) []bool {
	reached := make([]bool, len(o.empty))
	open := []int{from}
	for len(open) > 0 {
		point := open[len(open)-1]
		open = open[:len(open)-1]
		if !reached[point] {
			reached[point] = true
			open = append(open, o.empty[point]...)
		}
	}
	return reached
}

// from returns the places whose bytes can be read next at a point.
func (o *oracle) from(point int) []int {
	var l []int
	reached := o.reach(point)
	for i, p := range o.places {
		if reached[p.from] {
			l = append(l, i)
		}
	}
	return l
}

// oraclePlaces is Of for a valid pattern.
func oraclePlaces(x api.Rx) api.Places {
	o := &oracle{}
	start := o.point()
	end := o.draw(expanded(x), start)
	want := api.Places{First: o.from(start), Null: o.reach(start)[end]}
	for i, p := range o.places {
		want.Sets = append(want.Sets, p.set)
		want.Follow = append(want.Follow, o.from(p.to))
		if o.reach(p.to)[end] {
			want.Last = append(want.Last, i)
		}
	}
	return want
}
