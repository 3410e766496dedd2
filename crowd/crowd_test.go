package crowd_test

import (
	"slices"
	"testing"

	"heckle/crowd"
)

// every is the list of all places there may be.
func every() []int {
	var l []int
	for p := range 600 {
		l = append(l, p)
	}
	return l
}

func places(c crowd.Crowd) []int { return slices.Collect(c.Places()) }

func TestPlaces(t *testing.T) {
	for _, list := range [][]int{nil, {0}, {599}, {0, 63, 64, 65, 127, 128, 599}, {5, 6, 7, 320}, every()} {
		if got := places(crowd.Of(list)); !slices.Equal(got, list) {
			t.Errorf("the places of %v are %v", list, got)
		}
		turned := append(slices.Clone(list), list...)
		slices.Reverse(turned)
		if crowd.Of(turned) != crowd.Of(list) {
			t.Errorf("the order of %v makes a difference", list)
		}
	}
	if crowd.Of(nil) != (crowd.Crowd{}) {
		t.Error("there are places of no list")
	}
}

// Whoever asks for the places may leave off.
func TestPlacesLeft(t *testing.T) {
	seen := 0
	for range crowd.Of(every()).Places() {
		if seen++; seen == 70 {
			break
		}
	}
	if seen != 70 {
		t.Errorf("%d places were seen", seen)
	}
}

func TestAddJoinBoth(t *testing.T) {
	for _, c := range []struct{ one, other, joined, both []int }{
		{nil, nil, nil, nil},
		{[]int{3}, nil, []int{3}, nil},
		{nil, []int{3}, []int{3}, nil},
		{[]int{3, 70}, []int{3, 71}, []int{3, 70, 71}, []int{3}},
		{[]int{0, 599}, []int{599}, []int{0, 599}, []int{599}},
		{every(), []int{64, 128}, every(), []int{64, 128}},
	} {
		one, other := crowd.Of(c.one), crowd.Of(c.other)
		if got := places(one.Both(&other)); !slices.Equal(got, c.both) {
			t.Errorf("both of %v and %v are %v", c.one, c.other, got)
		}
		if one != crowd.Of(c.one) || other != crowd.Of(c.other) {
			t.Errorf("Both changes %v or %v", c.one, c.other)
		}
		added := one
		one.Join(&other)
		if got := places(one); !slices.Equal(got, c.joined) || other != crowd.Of(c.other) {
			t.Errorf("%v and %v, joined, are %v", c.one, c.other, got)
		}
		for _, p := range c.other {
			added.Add(p)
		}
		if added != one {
			t.Errorf("%v with each of %v is %v", c.one, c.other, places(added))
		}
	}
}
