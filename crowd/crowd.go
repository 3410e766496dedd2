// Package crowd holds sets of places, as bits: where long lists of places follow many others, it takes
// far less time to join such sets than to visit the lists again and again.
package crowd

import (
	"heckle/api"
	"iter"
	"math/bits"
)

// Crowd is a set of places, from 0 to 599: bit p%64 of the word p/64 is that of the place p.
type Crowd [(api.MaxPlaces + 63) / 64]uint64

// Of returns the crowd of the places of a list.
func Of(list []int) Crowd {
	var c Crowd
	for _, p := range list {
		c.Add(p)
	}
	return c
}

// Add adds a place.
func (c *Crowd) Add(p int) {
	c[p/64] |= 1 << (p % 64)
}

// Join adds the places of d.
func (c *Crowd) Join(d *Crowd) {
	for i, word := range d {
		c[i] |= word
	}
}

// Both returns the places that are in c and in d.
func (c Crowd) Both(d *Crowd) Crowd {
	for i, word := range d {
		c[i] &= word
	}
	return c
}

// Places are those of c, in ascending order.
func (c Crowd) Places() iter.Seq[int] {
	return func(yield func(int) bool) {
		for i, word := range c {
			for ; word != 0; word &= word - 1 {
				if !yield(64*i + bits.TrailingZeros64(word)) {
					return
				}
			}
		}
	}
}
