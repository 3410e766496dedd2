package auto_test

import (
	"fmt"
	"math"
	"reflect"
	"slices"
	"strings"
	"testing"

	"heckle/api"
	"heckle/auto"
	"heckle/model"
)

// written is what the tests compare: it makes no difference between empty lists.
func written(a api.Auto) string {
	return fmt.Sprint(a.Sets, a.Owner, a.Follow, a.Ends, a.Starts)
}

// Owner, Follow and Ends of rules that begin wherever they may.
func TestK1Places(t *testing.T) {
	for text, want := range map[string]string{
		"a emit":                  "[0] [[]] [true]",
		"() emit":                 "[] [] []",
		"ab emit; a/b skip":       "[0 0 1 1] [[1] [] [3] []] [false true false true]",
		"a emit; bc emit; d emit": "[0 1 1 2] [[] [2] [] []] [true false true true]",
		"(a|b)*c emit; d+ emit":   "[0 0 0 1] [[0 1 2] [0 1 2] [] [3]] [false false true true]",
		"a? emit; b* emit":        "[0 1] [[] [1]] [true true]",
		"() emit; a emit":         "[1] [[]] [true]",
		"a emit; () emit; b emit": "[0 2] [[] []] [true true]",
		// Rules for the end of the input have numbers, but no places.
		"<<EOF>> emit":                      "[] [] []",
		"<<EOF>> emit; a emit":              "[1] [[]] [true]",
		"a emit; <<EOF>> emit; bc emit":     "[0 2 2] [[] [2] []] [true false true]",
		"<*><<EOF>> emit; a/b emit":         "[1 1] [[1] []] [false true]",
		"a/b emit; <<EOF>> emit; c/d? emit": "[0 0 2 2] [[1] [] [3] []] [false true true true]",
		// The First places of the Trail follow each Last place of Rx, behind those that follow it anyway.
		"a/b emit":              "[0 0] [[1] []] [false true]",
		"a/bc emit":             "[0 0 0] [[1] [2] []] [false false true]",
		"ab/cd emit":            "[0 0 0 0] [[1] [2] [3] []] [false false false true]",
		"a+/b+ emit":            "[0 0] [[0 1] [1]] [false true]",
		"ab?/c emit":            "[0 0 0] [[1 2] [2] []] [false false true]",
		"(a|b)/(c|d) emit":      "[0 0 0 0] [[2 3] [2 3] [] []] [false false true true]",
		"(a|b)+/(c|d)+ emit":    "[0 0 0 0] [[0 1 2 3] [0 1 2 3] [2 3] [2 3]] [false false true true]",
		"a/b?c? emit":           "[0 0 0] [[1 2] [2] []] [true true true]",
		"x emit; a+/b?c emit":   "[0 1 1 1] [[] [1 2 3] [3] []] [true false false true]",
		"a/b skip; c/d begin S": "[0 0 1 1] [[1] [] [3] []] [false true false true]",
		"a$ emit":               "[0 0] [[1] []] [false true]",
		// If the Trail matches the empty text, the rule ends before it too.
		"a/b? emit":          "[0 0] [[1] []] [true true]",
		"a/b* emit":          "[0 0] [[1] [1]] [true true]",
		"ab/c? emit":         "[0 0 0] [[1] [2] []] [false true true]",
		"ab?/(c|) emit":      "[0 0 0] [[1 2] [2] []] [true true true]",
		"a/bc? emit":         "[0 0 0] [[1] [2] []] [false true true]",
		"a/() emit":          "[0] [[]] [true]",
		"ab/() emit":         "[0 0] [[1] []] [false true]",
		"a/()()|() emit":     "[0] [[]] [true]",
		"a?/b emit":          "[0 0] [[1] []] [false true]",
		"a?/b? emit":         "[0 0] [[1] []] [true true]",
		"()/a emit":          "[0] [[]] [true]",
		"()/a* emit":         "[0] [[0]] [true]",
		"()/() emit":         "[] [] []",
		"()/ab emit; c emit": "[0 0 1] [[1] [] []] [false true true]",
	} {
		a := built(t, ruled(t, text))
		if got := fmt.Sprint(a.Owner, a.Follow, a.Ends); got != want {
			t.Errorf("K1: %q: %s, want %s", text, got, want)
		}
	}
}

func TestK1Sets(t *testing.T) {
	for text, want := range map[string]string{
		"() emit":              "",
		"ba emit":              "ba",
		"ba/dc emit; a/c emit": "badcac",
		"a{2} emit; <<EOF>> emit; (bc){1,2} emit": "aabcbc",
		"<X>^ab emit; <S>c/d* emit; b emit":       "abcdb",
		"a|b/c|d emit; ()/e emit; f/() emit":      "abcdef",
		"a skip; a skip; b begin X; a/a emit":     "aabaa",
		"(ab)+/(cd){2,} emit; e?f? emit; () emit": "abcdcdef",
	} {
		var sets []api.Set
		for _, letter := range want {
			sets = append(sets, set(int(letter)))
		}
		if a := built(t, ruled(t, text)); !slices.Equal(a.Sets, sets) {
			t.Errorf("K1: %q: the sets are %v", text, a.Sets)
		}
	}
	all := api.Set{math.MaxUint64, math.MaxUint64, math.MaxUint64, math.MaxUint64}
	whole := api.Rx{Kind: api.Bytes, Set: all}
	edges := in(0, 63, 64, 127, 128, 191, 192, 255)
	a := built(t, plain([2]api.Rx{cat(whole, in(0)), in(255)}, [2]api.Rx{edges, whole}))
	if want := []api.Set{all, set(0), set(255), edges.Set, all}; !slices.Equal(a.Sets, want) {
		t.Errorf("K1: the sets are %v", a.Sets)
	}
}

// The contexts are those of INITIAL, S and X, each first where no line begins.
func TestK1Starts(t *testing.T) {
	for text, want := range map[string]string{
		"a emit":                          "[[0] [0] [0] [0] [] []]",
		"<*>a emit":                       "[[0] [0] [0] [0] [0] [0]]",
		"<X>a emit":                       "[[] [] [] [] [0] [0]]",
		"<S>a emit":                       "[[] [] [0] [0] [] []]",
		"<INITIAL>a emit":                 "[[0] [0] [] [] [] []]",
		"<INITIAL,X>a emit":               "[[0] [0] [] [] [0] [0]]",
		"<INITIAL,S,X>a emit":             "[[0] [0] [0] [0] [0] [0]]",
		"^a emit":                         "[[] [0] [] [0] [] []]",
		"<*>^a emit":                      "[[] [0] [] [0] [] [0]]",
		"<X>^a emit":                      "[[] [] [] [] [] [0]]",
		"^a emit; b emit":                 "[[1] [0 1] [1] [0 1] [] []]",
		"a emit; ^b emit; c emit":         "[[0 2] [0 1 2] [0 2] [0 1 2] [] []]",
		"<S>a emit; b emit; <X>c emit":    "[[1] [1] [0 1] [0 1] [2] [2]]",
		"ab emit; cd emit":                "[[0 2] [0 2] [0 2] [0 2] [] []]",
		"a?b emit; c|d emit":              "[[0 1 2 3] [0 1 2 3] [0 1 2 3] [0 1 2 3] [] []]",
		"(ab|c)+ emit; d emit":            "[[0 2 3] [0 2 3] [0 2 3] [0 2 3] [] []]",
		"<<EOF>> emit":                    "[[] [] [] [] [] []]",
		"<*><<EOF>> emit; <X>a emit":      "[[] [] [] [] [0] [0]]",
		"a emit; <<EOF>> skip; <*>b emit": "[[0 1] [0 1] [0 1] [0 1] [1] [1]]",
		"() emit; a emit":                 "[[0] [0] [0] [0] [] []]",
		// No rule begins at a place of its Trail.
		"a/b emit; c emit":      "[[0 2] [0 2] [0 2] [0 2] [] []]",
		"a?/b emit; c emit":     "[[0 2] [0 2] [0 2] [0 2] [] []]",
		"a*/b* emit":            "[[0] [0] [0] [0] [] []]",
		"()/a emit":             "[[] [] [] [] [] []]",
		"()/a emit; b emit":     "[[1] [1] [1] [1] [] []]",
		"^a/b emit; ^c?/d emit": "[[] [0 2] [] [0 2] [] []]",
		"a/\\n emit; ^\\n emit": "[[0] [0 2] [0] [0 2] [] []]",
	} {
		a := built(t, ruled(t, text))
		if got := fmt.Sprint(a.Starts); got != want {
			t.Errorf("K1: %q: %s, want %s", text, got, want)
		}
	}
}

// There are two contexts for each condition, whether rules begin there or not.
func TestK1NumberOfContexts(t *testing.T) {
	s := parsed(t, "%%\n")
	for n := 1; n <= 8; n++ {
		if a := built(t, s); len(a.Starts) != 2*n || len(a.Sets) != 0 || !auto.Right(a) {
			t.Errorf("K1: %d conditions: %s", n, written(a))
		}
		last := s
		last.Rules = []api.Rule{{Conds: []int{n - 1}, Rx: in('a'), Act: api.Emit}}
		a := built(t, last)
		for context, start := range a.Starts {
			if len(start) != context/2-n+2 && (context/2 == n-1 || len(start) != 0) {
				t.Errorf("K1: %d conditions, a rule of the last one: %v", n, a.Starts)
			}
		}
		s.Conds = append(s.Conds, api.Cond{Name: fmt.Sprint("C", n), Exclusive: n%2 == 0})
	}
}

func TestK1AgainstTheOracle(t *testing.T) {
	l := samples(1500)
	linked, ended := 0, 0
	for _, s := range l {
		o := newOracle(s)
		a := built(t, s)
		if got, want := written(a), written(o.auto()); got != want {
			t.Fatalf("K1: Build(%v): %s, want %s", s, got, want)
		}
		for i, p := range o.spots {
			trail := s.Rules[p.rule].Trail.Kind != 0
			if trail && !p.trail && slices.ContainsFunc(a.Follow[i], func(q int) bool { return o.spots[q].trail }) {
				linked++
			}
			if trail && !p.trail && a.Ends[i] {
				ended++
			}
		}
	}
	if linked < 2000 || ended < 500 {
		t.Errorf("K1: only %d places are followed by a Trail, and %d end before one", linked, ended)
	}
}

func TestK1WrongSpecs(t *testing.T) {
	for name, s := range wrongSpecs(t) {
		if a, e := auto.Build(s); e != api.ErrArg || !reflect.DeepEqual(a, api.Auto{}) {
			t.Errorf("K1: %s: error %d, %s", name, e, written(a))
		}
	}
}

// pairs are n times the same pattern and Trail.
func pairs(n int, x, trail api.Rx) [][2]api.Rx {
	return slices.Repeat([][2]api.Rx{{x, trail}}, n)
}

func TestK1Limit(t *testing.T) {
	none, one := api.Rx{}, in('a')
	wide := alt(slices.Repeat([]api.Rx{one}, 200)...)
	for name, c := range map[string]struct {
		pairs  [][2]api.Rx
		places int
	}{
		"three of 200":              {pairs(3, sized(200), none), 600},
		"three of 200, and nothing": {append(pairs(3, sized(200), none), pairs(37, empty(), empty())...), 600},
		"one more":                  {append(pairs(3, sized(200), none), pairs(1, one, none)...), 601},
		"one more in front":         {append(pairs(1, one, none), pairs(3, sized(200), none)...), 601},
		"one less":                  {append(pairs(2, sized(200), none), pairs(1, sized(199), none)...), 599},
		"one less, and one":         {append(pairs(1, sized(199), one), pairs(2, sized(200), none)...), 600},
		"with Trails":               {pairs(2, sized(200), sized(100)), 600},
		"with Trails, one more":     {append(pairs(2, sized(100), sized(200)), pairs(1, empty(), one)...), 601},
		"a Trail beyond":            {append(pairs(2, sized(200), none), pairs(1, sized(200), one)...), 601},
		"only by a Trail":           {append(pairs(1, sized(200), sized(200)), pairs(1, one, sized(200))...), 601},
		"40 of 15":                  {pairs(40, sized(15), none), 600},
		"39 of 15, and 16":          {append(pairs(39, sized(15), none), pairs(1, sized(16), none)...), 601},
		"40 of 16":                  {pairs(40, sized(16), none), 640},
		"20 of 15 and 15":           {pairs(20, sized(15), sized(15)), 600},
		"40 of 200 and 200":         {pairs(40, sized(200), sized(200)), 16000},
		"all of each, in loops":     {pairs(40, rep(wide, 0, -1), rep(wide, 0, -1)), 16000},
		"600 in loops":              {pairs(3, rep(wide, 0, -1), none), 600},
		"600 in loops, and Trails":  {append(pairs(1, rep(wide, 0, -1), rep(wide, 1, -1)), pairs(1, rep(wide, 0, -1), none)...), 600},
		"600 of options":            {pairs(3, rep(rep(one, 0, 10), 0, 20), none), 600},
	} {
		s := plain(c.pairs...)
		a, e := auto.Build(s)
		if c.places > 600 {
			if e != api.ErrLong || !reflect.DeepEqual(a, api.Auto{}) {
				t.Errorf("K1: %s: error %d, %d places", name, e, len(a.Sets))
			}
			continue
		}
		if e != api.OK || len(a.Sets) != c.places || !auto.Right(a) {
			t.Errorf("K1: %s: error %d, %d places", name, e, len(a.Sets))
		} else if written(a) != written(newOracle(s).auto()) {
			t.Errorf("K1: %s: another automaton than the oracle's", name)
		}
	}
}

// All rules have places, even those that begin in no context, and those of the last conditions.
func TestK1LimitOfAllRules(t *testing.T) {
	s := plain(pairs(4, sized(200), api.Rx{})...)
	s.Conds = append(s.Conds, api.Cond{Name: "X", Exclusive: true})
	for i := range s.Rules {
		s.Rules[i].Bol, s.Rules[i].Conds = true, []int{1}
	}
	if a, e := auto.Build(s); e != api.ErrLong || !reflect.DeepEqual(a, api.Auto{}) {
		t.Errorf("K1: error %d, %d places", e, len(a.Sets))
	}
	s.Rules[1] = api.Rule{All: true, Eof: true, Act: api.Emit}
	if a, e := auto.Build(s); e != api.OK || len(a.Sets) != 600 || a.Owner[199] != 0 || a.Owner[200] != 2 {
		t.Errorf("K1: with a rule for the end of the input: error %d, %d places", e, len(a.Sets))
	}
}

// valid is an automaton of four places, whose lists have places of all sorts.
func valid() api.Auto {
	return api.Auto{
		Sets:   []api.Set{set('a'), set(0), set(255), set(64, 128)},
		Owner:  []int{39, 0, 7, 0},
		Follow: [][]int{{0, 1, 2, 3}, {}, {3}, {0, 2}},
		Ends:   []bool{true, false, false, true},
		Starts: [][]int{{0, 3}, nil, {1}},
	}
}

func TestK2OnePart(t *testing.T) {
	if !auto.Right(valid()) {
		t.Fatal("K2: not valid")
	}
	for name, c := range map[string]struct {
		change func(a *api.Auto)
		want   bool
	}{
		"no Owners":             {func(a *api.Auto) { a.Owner = nil }, false},
		"an Owner less":         {func(a *api.Auto) { a.Owner = a.Owner[:3] }, false},
		"an Owner more":         {func(a *api.Auto) { a.Owner = append(a.Owner, 1) }, false},
		"no Follows":            {func(a *api.Auto) { a.Follow = nil }, false},
		"a Follow less":         {func(a *api.Auto) { a.Follow = a.Follow[:3] }, false},
		"a Follow more":         {func(a *api.Auto) { a.Follow = append(a.Follow, nil) }, false},
		"no Ends":               {func(a *api.Auto) { a.Ends = nil }, false},
		"an End less":           {func(a *api.Auto) { a.Ends = a.Ends[:3] }, false},
		"an End more":           {func(a *api.Auto) { a.Ends = append(a.Ends, true) }, false},
		"no Sets":               {func(a *api.Auto) { a.Sets = nil }, false},
		"a Set more":            {func(a *api.Auto) { a.Sets = append(a.Sets, set('b')) }, false},
		"a Set less":            {func(a *api.Auto) { a.Sets, a.Follow[0], a.Follow[2] = a.Sets[:3], nil, nil }, false},
		"no Starts":             {func(a *api.Auto) { a.Starts = nil }, true},
		"16 Starts":             {func(a *api.Auto) { a.Starts = slices.Repeat([][]int{{0, 1, 2, 3}}, 16) }, true},
		"17 Starts":             {func(a *api.Auto) { a.Starts = slices.Repeat([][]int{{0, 1, 2, 3}}, 17) }, false},
		"17 empty Starts":       {func(a *api.Auto) { a.Starts = make([][]int, 17) }, false},
		"many Starts":           {func(a *api.Auto) { a.Starts = make([][]int, 1000000) }, false},
		"Owner 0":               {func(a *api.Auto) { a.Owner[0] = 0 }, true},
		"Owner 40":              {func(a *api.Auto) { a.Owner[0] = 40 }, false},
		"last Owner 39":         {func(a *api.Auto) { a.Owner[3] = 39 }, true},
		"last Owner 40":         {func(a *api.Auto) { a.Owner[3] = 40 }, false},
		"Owner -1":              {func(a *api.Auto) { a.Owner[1] = -1 }, false},
		"least Owner":           {func(a *api.Auto) { a.Owner[1] = math.MinInt }, false},
		"greatest Owner":        {func(a *api.Auto) { a.Owner[1] = math.MaxInt }, false},
		"empty Set":             {func(a *api.Auto) { a.Sets[0] = api.Set{} }, false},
		"last Set empty":        {func(a *api.Auto) { a.Sets[3] = api.Set{} }, false},
		"Set of one word":       {func(a *api.Auto) { a.Sets[3] = api.Set{0, 0, 1, 0} }, true},
		"no Follow anywhere":    {func(a *api.Auto) { a.Follow = make([][]int, 4) }, true},
		"Follow itself":         {func(a *api.Auto) { a.Follow[3] = []int{3} }, true},
		"Follow -1":             {func(a *api.Auto) { a.Follow[0] = []int{-1, 0} }, false},
		"Follow -1 alone":       {func(a *api.Auto) { a.Follow[1] = []int{-1} }, false},
		"Follow 4":              {func(a *api.Auto) { a.Follow[0] = []int{0, 4} }, false},
		"Follow 4 alone":        {func(a *api.Auto) { a.Follow[3] = []int{4} }, false},
		"Follow 5":              {func(a *api.Auto) { a.Follow[1] = []int{5} }, false},
		"least Follow":          {func(a *api.Auto) { a.Follow[1] = []int{math.MinInt} }, false},
		"greatest Follow":       {func(a *api.Auto) { a.Follow[1] = []int{math.MaxInt} }, false},
		"Follow twice":          {func(a *api.Auto) { a.Follow[1] = []int{2, 2} }, false},
		"Follow 0 twice":        {func(a *api.Auto) { a.Follow[1] = []int{0, 0} }, false},
		"Follow turned":         {func(a *api.Auto) { a.Follow[3] = []int{2, 0} }, false},
		"last of Follow turned": {func(a *api.Auto) { a.Follow[3] = []int{0, 1, 3, 2} }, false},
		"long Follow":           {func(a *api.Auto) { a.Follow[3] = make([]int, 1000000) }, false},
		"Start of all":          {func(a *api.Auto) { a.Starts[1] = []int{0, 1, 2, 3} }, true},
		"Start -1":              {func(a *api.Auto) { a.Starts[1] = []int{-1, 3} }, false},
		"Start 4":               {func(a *api.Auto) { a.Starts[1] = []int{1, 4} }, false},
		"last Start 4":          {func(a *api.Auto) { a.Starts[2] = []int{4} }, false},
		"Start twice":           {func(a *api.Auto) { a.Starts[0] = []int{0, 3, 3} }, false},
		"Start turned":          {func(a *api.Auto) { a.Starts[2] = []int{3, 1} }, false},
		"no Ends at all":        {func(a *api.Auto) { a.Ends = make([]bool, 4) }, true},
		"all are empty":         {func(a *api.Auto) { *a = api.Auto{} }, true},
		"Starts alone":          {func(a *api.Auto) { *a = api.Auto{Starts: make([][]int, 16)} }, true},
		"17 Starts alone":       {func(a *api.Auto) { *a = api.Auto{Starts: make([][]int, 17)} }, false},
		"Start of no place":     {func(a *api.Auto) { *a = api.Auto{Starts: [][]int{{0}}} }, false},
		"Owner of no place":     {func(a *api.Auto) { *a = api.Auto{Owner: []int{0}} }, false},
		"Follow of no place":    {func(a *api.Auto) { *a = api.Auto{Follow: [][]int{{}}} }, false},
		"End of no place":       {func(a *api.Auto) { *a = api.Auto{Ends: []bool{true}} }, false},
	} {
		a := valid()
		c.change(&a)
		if got := auto.Right(a); got != c.want {
			t.Errorf("K2: %s: %t", name, got)
		}
	}
}

// great is an automaton of n places that read a, each followed by all and owned by the rule 5.
func great(n int) api.Auto {
	var all []int
	for p := range n {
		all = append(all, p)
	}
	return api.Auto{
		Sets:   slices.Repeat([]api.Set{set('a')}, n),
		Owner:  slices.Repeat([]int{5}, n),
		Follow: slices.Repeat([][]int{all}, n),
		Ends:   make([]bool, n),
		Starts: [][]int{all},
	}
}

func TestK2NumberOfPlaces(t *testing.T) {
	for n, want := range map[int]bool{0: true, 1: true, 64: true, 65: true, 599: true, 600: true, 601: false, 602: false, 640: false, 641: false, 2000: false} {
		if got := auto.Right(great(n)); got != want {
			t.Errorf("K2: %d places: %t", n, got)
		}
	}
	a := great(600)
	a.Follow[599] = []int{0, 599}
	if !auto.Right(a) {
		t.Error("K2: Follow of 599 is 599: not valid")
	}
	a.Follow[599] = []int{0, 600}
	if auto.Right(a) {
		t.Error("K2: Follow of 599 is 600: valid")
	}
}

func TestK2WhatIsBuiltIsValid(t *testing.T) {
	for _, s := range samples(1000) {
		if a := built(t, s); !auto.Right(a) {
			t.Fatalf("K2: %v: %s is not valid", s, written(a))
		}
	}
}

// The places are: a (rule 4), b (3), ab (1), a again (6).
func small() api.Auto {
	return api.Auto{
		Sets:   []api.Set{set('a'), set('b'), set('a', 'b'), set('a')},
		Owner:  []int{4, 3, 1, 6},
		Follow: [][]int{{1, 2}, {0}, {}, {0, 3}},
		Ends:   []bool{true, true, true, false},
		Starts: [][]int{{2}},
	}
}

func TestK3Run(t *testing.T) {
	for i, c := range []struct {
		from    []int
		w       string
		rule, n int
	}{
		{nil, "", -1, 0},
		{nil, "ab", -1, 0},
		{[]int{0}, "", -1, 0},
		{[]int{0, 1, 2, 3}, "", -1, 0},
		{[]int{0}, "a", 4, 1},
		{[]int{0}, "b", -1, 0},
		{[]int{1}, "a", -1, 0},
		{[]int{1}, "b", 3, 1},
		// The least Owner, wherever its place is.
		{[]int{0, 1, 2, 3}, "a", 1, 1},
		{[]int{0, 3}, "a", 4, 1},
		{[]int{1, 2}, "b", 1, 1},
		{[]int{0}, "ab", 1, 2},
		{[]int{2}, "ab", 1, 1},
		// The most bytes come before the least Owner.
		{[]int{0, 2}, "aba", 4, 3},
		{[]int{0}, "abab", 1, 4},
		{[]int{0}, "aba", 4, 3},
		{[]int{1}, "ba", 4, 2},
		{[]int{1}, "bab", 1, 3},
		// Where nothing is read, the rest counts no more.
		{[]int{0}, "acab", 4, 1},
		{[]int{0}, "abcab", 1, 2},
		{[]int{0}, "aa", 1, 2},
		{[]int{0}, "aaa", 1, 2},
		{[]int{0}, "c", -1, 0},
		{[]int{0}, "ca", -1, 0},
		// Places that are read, but do not end, count only for what follows.
		{[]int{3}, "a", -1, 0},
		{[]int{3}, "aa", 4, 2},
		{[]int{3}, "aaa", 1, 3},
		{[]int{3}, "ab", -1, 0},
		{[]int{3}, "aac", 4, 2},
		// Only the places that were read last count.
		{[]int{2}, "aa", 1, 1},
		{[]int{0, 3}, "aaaaaa", 1, 6},
		{[]int{0, 3}, "aaaaab", 1, 6},
		{[]int{0}, "baa", -1, 0},
		// Lists in another order, and with a place twice.
		{[]int{3, 0}, "a", 4, 1},
		{[]int{3, 2, 1, 0}, "a", 1, 1},
		{[]int{0, 0, 0}, "ab", 1, 2},
		{slices.Repeat([]int{1, 0}, 1000), "ba", 4, 2},
	} {
		if rule, n := auto.Run(small(), c.from, c.w); rule != c.rule || n != c.n {
			t.Errorf("K3: %d: Run from %.20v on %q: %d, %d, want %d, %d", i, c.from, c.w, rule, n, c.rule, c.n)
		}
	}
}

// Each byte is read by those places alone whose Set contains it.
func TestK3Bytes(t *testing.T) {
	var every []int
	a := api.Auto{Ends: slices.Repeat([]bool{true}, 512), Follow: make([][]int, 512)}
	for p := range 512 {
		every = append(every, p)
		a.Sets = append(a.Sets, set(p%256))
		a.Owner = append(a.Owner, p%37)
	}
	for b := range 256 {
		want := min(b%37, (b+256)%37)
		if rule, n := auto.Run(a, every, string([]byte{byte(b)})); rule != want || n != 1 {
			t.Errorf("K3: byte %d: %d, %d, want %d, 1", b, rule, n, want)
		}
		for _, p := range []int{b, b + 256} {
			for _, other := range []int{b - 1, b + 1, b ^ 64, b ^ 128, b ^ 32} {
				if rule, n := auto.Run(a, []int{p}, string([]byte{byte(other)})); rule != -1 || n != 0 {
					t.Errorf("K3: place of byte %d, byte %d: %d, %d", b, byte(other), rule, n)
				}
			}
		}
	}
}

// The least and the greatest Owner there may be.
func TestK3Owners(t *testing.T) {
	for rule := range 40 {
		a := api.Auto{
			Sets:   []api.Set{set('a'), set('a'), set('a')},
			Owner:  []int{39, rule, 39},
			Follow: [][]int{{0}, {1, 2}, {}},
			Ends:   []bool{true, true, true},
		}
		if got, n := auto.Run(a, []int{0, 1, 2}, "aa"); got != rule || n != 2 {
			t.Errorf("K3: Owner %d: %d, %d", rule, got, n)
		}
	}
}

// Places are told apart up to the last one of 600.
func TestK3EachPlace(t *testing.T) {
	a := great(600)
	for p := range 600 {
		a.Sets[p] = set(p / 256)
		a.Owner[p] = p % 40
		a.Follow[p] = []int{(p + 1) % 600}
		a.Ends[p] = true
	}
	for p := range 600 {
		next := (p + 1) % 600
		w := string([]byte{byte(p / 256), byte(next / 256), 7})
		if rule, n := auto.Run(a, []int{p}, w); rule != next%40 || n != 2 {
			t.Errorf("K3: from %d: %d, %d", p, rule, n)
		}
		if rule, n := auto.Run(a, []int{p}, w[:1]); rule != p%40 || n != 1 {
			t.Errorf("K3: from %d, one byte: %d, %d", p, rule, n)
		}
		if rule, n := auto.Run(a, []int{p}, w[2:]); rule != -1 || n != 0 {
			t.Errorf("K3: from %d, another byte: %d, %d", p, rule, n)
		}
	}
}

func TestK3AgainstTheOracle(t *testing.T) {
	d := dice(2463534242)
	ends := map[int]int{}
	for i := range 4000 {
		n := []int{1, 2, 3, 5, 8, 20, 63, 64, 65, 128, 130, 600}[d.roll(12)]
		a := d.auto(n, []int{1, 5, 20, 50}[d.roll(4)])
		from, w := d.list(n, []int{3, 30, 100}[d.roll(3)]), d.text(d.roll(12))
		if len(from) > 1 && d.roll(2) == 0 {
			slices.Reverse(from)
			from = append(from, from[0])
		}
		wantRule, wantN := oracleRun(a, from, w)
		if rule, n := auto.Run(a, from, w); rule != wantRule || n != wantN {
			t.Fatalf("K3: %d: Run of %s from %v on %q: %d, %d, want %d, %d", i, written(a), from, w, rule, n, wantRule, wantN)
		}
		ends[wantN]++
	}
	for n := range 6 {
		if ends[n] < 60 {
			t.Errorf("K3: only %d matches of %d bytes", ends[n], n)
		}
	}
}

// There is no limit to w: it need not be an input.
func TestK3LongTexts(t *testing.T) {
	a := built(t, ruled(t, "a emit; a*b emit; (aa)+ emit"))
	for _, n := range []int{10000, 10001, 300000} {
		w := strings.Repeat("a", n)
		if rule, got := auto.Run(a, a.Starts[0], w); rule != 2 || got != n/2*2 {
			t.Errorf("K3: %d bytes: %d, %d", n, rule, got)
		}
		if rule, got := auto.Run(a, a.Starts[0], w+"b"+w); rule != 1 || got != n+1 {
			t.Errorf("K3: %d bytes and b: %d, %d", n, rule, got)
		}
	}
}

// Where all places follow all, each byte takes no more time than a few thousand steps.
func TestK3GreatAutomata(t *testing.T) {
	a := great(600)
	a.Ends[599] = true
	if rule, n := auto.Run(a, []int{599}, strings.Repeat("a", 10000)); rule != 5 || n != 10000 {
		t.Errorf("K3: %d, %d", rule, n)
	}
}

// For other arguments it is promised only that Run terminates and does not panic.
func TestK3WrongArguments(t *testing.T) {
	odd := []int{math.MinInt, -600, -65, -64, -63, -1, 0, 1, 3, 4, 5, 63, 64, 599, 600, 639, 640, 641, 1 << 40, math.MaxInt}
	for _, p := range odd {
		for _, a := range []api.Auto{valid(), small(), great(600), {}} {
			auto.Run(a, []int{p}, "aab")
			auto.Run(a, []int{0, p, 1}, "aab")
		}
		for _, part := range []string{"Owner", "Follow", "Starts"} {
			a := small()
			switch part {
			case "Owner":
				a.Owner[0] = p
			case "Follow":
				a.Follow[0] = []int{p, p}
			case "Starts":
				a.Starts[0] = []int{p, 0}
			}
			auto.Run(a, []int{0, 1, 2, 3}, "aaab")
		}
	}
	for _, change := range []func(a *api.Auto){
		func(a *api.Auto) { a.Sets = nil },
		func(a *api.Auto) { a.Owner = a.Owner[:1] },
		func(a *api.Auto) { a.Follow = nil },
		func(a *api.Auto) { a.Ends = a.Ends[:2] },
		func(a *api.Auto) { a.Starts = make([][]int, 100) },
		func(a *api.Auto) { a.Sets = make([]api.Set, 4) },
		func(a *api.Auto) { *a = great(601) },
		func(a *api.Auto) { *a = great(1000) },
		func(a *api.Auto) { *a = api.Auto{} },
	} {
		a := small()
		change(&a)
		auto.Run(a, []int{0, 1, 2, 3}, "aaab")
		auto.Run(a, nil, "aaab")
		auto.Run(a, []int{600, 999}, "aaab")
	}
}

// start is the Start of the context at a position.
func start(a api.Auto, w string, at, cond int) []int {
	if at == 0 || w[at-1] == 10 {
		return a.Starts[2*cond+1]
	}
	return a.Starts[2*cond]
}

// holdsPick compares with layer 8 from each position, in each condition, and returns how often a rule was picked.
func holdsPick(t *testing.T, s api.Spec, a api.Auto, w string) int {
	t.Helper()
	picked := 0
	for at := range len(w) + 1 {
		for cond := range s.Conds {
			wantRule, wantN := model.Pick(s, w, at, cond)
			rule, n := auto.Run(a, start(a, w, at, cond), w[at:])
			if rule != wantRule || n != wantN {
				t.Fatalf("K4: %v, %q from %d in %d: %d, %d, want %d, %d", s, w, at, cond, rule, n, wantRule, wantN)
			}
			if rule >= 0 {
				picked++
			}
		}
	}
	return picked
}

func TestK4Samples(t *testing.T) {
	d := dice(362436069)
	picked, positions := 0, 0
	for _, s := range samples(1200) {
		a := built(t, s)
		for range 3 {
			w := d.text(8)
			picked += holdsPick(t, s, a, w)
			positions += 9 * len(s.Conds)
		}
	}
	if picked < 20000 || positions-picked < 20000 {
		t.Errorf("K4: only %d rules were picked, of %d", picked, positions)
	}
}

// Texts that can be divided in several ways, or in none, as one part would have to be empty.
func TestK4Trails(t *testing.T) {
	parts := strings.Fields("a a* a+ a? ab a|ab a|aab [ab]* [ab]+ b* (ab)* (a|ba)+ () (aa)+ [ab]{1,2}")
	picked := 0
	for _, x := range parts {
		for _, trail := range parts {
			s := parsed(t, "%%\n"+x+"/"+trail+" emit\n")
			a := built(t, s)
			for _, w := range texts("ab", 5) {
				wantRule, wantN := model.Pick(s, w, 0, 0)
				if rule, n := auto.Run(a, a.Starts[1], w); rule != wantRule || n != wantN {
					t.Fatalf("K4: %s/%s, %q: %d, %d, want %d, %d", x, trail, w, rule, n, wantRule, wantN)
				}
				picked += wantN
			}
		}
	}
	if picked < 10000 {
		t.Errorf("K4: only %d bytes were picked", picked)
	}
}

// Rules as they are meant to be used.
func TestK4Rules(t *testing.T) {
	s := parsed(t, `%x STR
%def D [0-9]
%%
if|else emit
[a-z]+ emit
{D}+ emit
{D}+/\.\. emit
{D}+\.{D}* emit
^#[^\n]*$ skip
\x22 begin STR
[\x20\n]+ skip
<STR>[^\x22\n]+ emit
<STR>\x22 begin INITIAL
<*><<EOF>> emit
<*>[^a] skip
`)
	a := built(t, s)
	for _, w := range []string{
		"if iff else elsewhere i\n", "1..2 1.2 1. 12.. 3", "#a\n #b\n#c", `"ab"c "d` + "\n", "\x00\xff\x80~", "",
	} {
		if picked := holdsPick(t, s, a, w); w != "" && picked < len(w) {
			t.Errorf("K4: %q: only %d rules were picked", w, picked)
		}
	}
}

// clonedRx copies a pattern with all memory that it has.
func clonedRx(x api.Rx) api.Rx {
	kids := x.Kids[:cap(x.Kids)]
	x.Kids = nil
	for _, kid := range kids {
		x.Kids = append(x.Kids, clonedRx(kid))
	}
	return x
}

// clonedSpec copies a specification with all memory that it has.
func clonedSpec(s api.Spec) api.Spec {
	s.Conds = slices.Clone(s.Conds[:cap(s.Conds)])
	s.Rules = slices.Clone(s.Rules[:cap(s.Rules)])
	for i, r := range s.Rules {
		s.Rules[i].Conds = slices.Clone(r.Conds[:cap(r.Conds)])
		s.Rules[i].Rx, s.Rules[i].Trail = clonedRx(r.Rx), clonedRx(r.Trail)
	}
	return s
}

// clonedAuto copies an automaton with all memory that it has.
func clonedAuto(a api.Auto) api.Auto {
	a.Sets = slices.Clone(a.Sets[:cap(a.Sets)])
	a.Owner = slices.Clone(a.Owner[:cap(a.Owner)])
	a.Ends = slices.Clone(a.Ends[:cap(a.Ends)])
	a.Follow, a.Starts = clonedLists(a.Follow), clonedLists(a.Starts)
	return a
}

func clonedLists(l [][]int) [][]int {
	l = slices.Clone(l[:cap(l)])
	for i, list := range l {
		l[i] = slices.Clone(list[:cap(list)])
	}
	return l
}

// apart reports whether no two lists share memory, not even that behind them.
func apart(l [][]int) bool {
	for i, list := range l {
		whole := list[:cap(list)]
		kept := slices.Clone(whole)
		for j := range whole {
			whole[j] = -7
		}
		for j, other := range l {
			if i != j && slices.Contains(other[:cap(other)], -7) {
				return false
			}
		}
		copy(whole, kept)
	}
	return true
}

// R3: arguments are not modified, nor memory behind them, and answers are new memory.
func TestR3Build(t *testing.T) {
	for i, s := range samples(300) {
		s.Conds = append(s.Conds, api.Cond{Name: "beyond"})[:len(s.Conds)]
		s.Rules = append(s.Rules, api.Rule{To: 7})[:len(s.Rules)]
		for j, r := range s.Rules {
			s.Rules[j].Conds = append(r.Conds, 77)[:len(r.Conds)]
			s.Rules[j].Rx.Kids = append(r.Rx.Kids, in('z'))[:len(r.Rx.Kids)]
		}
		kept := clonedSpec(s)
		a := built(t, s)
		if !reflect.DeepEqual(clonedSpec(s), kept) {
			t.Fatalf("R3: sample %d: the specification was modified", i)
		}
		lists := append(append([][]int{a.Owner}, a.Follow...), a.Starts...)
		if !apart(lists) {
			t.Fatalf("R3: sample %d: lists share memory: %s", i, written(a))
		}
		want := written(a)
		clear(a.Sets)
		clear(a.Ends)
		for _, list := range lists {
			clear(list)
		}
		if got := written(built(t, s)); got != want {
			t.Fatalf("R3: sample %d: %s, then %s", i, want, got)
		}
	}
}

func TestR3RightAndRun(t *testing.T) {
	d := dice(88675123)
	for i := range 200 {
		a := d.auto(1+d.roll(20), 30)
		if i%4 == 0 {
			a.Follow[0] = []int{1, 0, -3}
		}
		from := []int{0, 0, len(a.Sets) - 1, 77, -5}[:3]
		whole := from[:5]
		for j, list := range a.Follow {
			a.Follow[j] = append(list, 77)[:len(list)]
		}
		kept := clonedAuto(a)
		auto.Right(a)
		auto.Run(a, from, d.text(10))
		if !reflect.DeepEqual(clonedAuto(a), kept) || !slices.Equal(whole, []int{0, 0, len(a.Sets) - 1, 77, -5}) {
			t.Fatalf("R3: %d: an argument was modified", i)
		}
	}
}

// R4: calls do not depend on earlier ones.
func TestR4Repeats(t *testing.T) {
	d := dice(123456789)
	w := d.text(12)
	answers := func(s api.Spec) string {
		a := built(t, s)
		text := fmt.Sprint(written(a), auto.Right(a))
		for _, start := range a.Starts {
			rule, n := auto.Run(a, start, w)
			text += fmt.Sprint(" ", rule, n)
		}
		return text
	}
	l := samples(150)
	var want []string
	for _, s := range l {
		want = append(want, answers(s))
	}
	for i, s := range slices.Backward(l) {
		auto.Build(api.Spec{})
		auto.Run(api.Auto{}, []int{1}, w)
		if got := answers(s); got != want[i] {
			t.Fatalf("R4: sample %d: %s, then %s", i, want[i], got)
		}
	}
}
