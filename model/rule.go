package model

import (
	"heckle/api"
	"heckle/match"
	"slices"
)

// hasTrail reports whether r has a Trail.
func hasTrail(r api.Rule) bool {
	return r.Trail.Kind != 0
}

// farthest returns where the longest text that r matches from at on ends; that is at, if there is none.
func farthest(r api.Rule, w string, at int) int {
	ends := match.Ends(r.Rx, w, at)
	if !hasTrail(r) {
		return last(ends, at)
	}
	far, most := at, bound(r, w, at)
	for _, end := range slices.Backward(ends) {
		// The first part must not be empty.
		if end == at || far == most {
			break
		}
		far = max(far, last(match.Ends(r.Trail, w, end), at))
	}
	return far
}

// bound returns a position behind which no text ends that r, a rule with a Trail, matches from at on.
// Without it every end of Rx would have to be tried, and from each of them the Trail might read the rest.
func bound(r api.Rule, w string, at int) int {
	whole := api.Rx{Kind: api.Cat, Kids: slices.Concat(parts(r.Rx), parts(r.Trail))}
	// What matches the empty text too has an end, unless it is over a limit of patterns and tells nothing.
	whole = api.Rx{Kind: api.Alt, Kids: []api.Rx{whole, {Kind: api.Empty}}}
	return last(match.Ends(whole, w, at), len(w))
}

// parts returns what stands for x within a Cat, none of whose Kids may be a Cat.
func parts(x api.Rx) []api.Rx {
	if x.Kind == api.Cat {
		return x.Kids
	}
	return []api.Rx{x}
}

// last returns the last one of the positions, or none if there are none.
func last(ends []int, none int) int {
	if len(ends) == 0 {
		return none
	}
	return ends[len(ends)-1]
}
