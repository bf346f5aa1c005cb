package walk

import (
	"fmt"
	"math"
	"math/rand"
	"reflect"
	"slices"
	"testing"

	"signalling/api"
	"signalling/layout"
)

// extremes are numbers that are no elements and no sides.
var extremes = []int{math.MinInt, math.MinInt + 1, -1 << 32, math.MinInt32, -2, -1, 1 << 31, 1 << 32, 1<<32 + 1, math.MaxInt - 1, math.MaxInt}

// line is the line of DOC.md.
func line() api.Layout {
	return api.Layout{
		Name:     "line",
		Sections: []string{"x", "y", "z"},
		Elements: []api.Element{
			{Name: "a", Kind: api.ElTrack, Length: 20000, Speed: 2000, Section: 0},
			{Name: "b", Kind: api.ElTrack, Length: 20000, Speed: 2000, Section: 1},
			{Name: "c", Kind: api.ElTrack, Length: 20000, Speed: 2000, Section: 2},
		},
		Joints: []api.Joint{
			{A: api.End{El: 0, Side: 1}, B: api.End{El: 1, Side: 0}},
			{A: api.End{El: 1, Side: 1}, B: api.End{El: 2, Side: 0}},
		},
		Signals: []api.Signal{
			{Name: "s1", At: api.End{El: 0, Side: 1}},
			{Name: "s2", At: api.End{El: 1, Side: 1}},
		},
	}
}

// yard has elements of all kinds: points p in front of the tracks n and r, which lead over the crossing q to each other and to e. The reverse leg of other points w leads to a.
func yard() api.Layout {
	return api.Layout{
		Name:     "yard",
		Sections: []string{"x", "y", "z"},
		Elements: []api.Element{
			{Name: "a", Kind: api.ElTrack, Length: 1000, Speed: 2000, Section: 0},
			{Name: "p", Kind: api.ElPoint, Length: 700, Grade: 3, Speed: 2000, Slow: 900, Section: 1},
			{Name: "n", Kind: api.ElTrack, Length: 5000, Grade: -4, Speed: 3000, Section: 2},
			{Name: "r", Kind: api.ElTrack, Length: 6000, Speed: 1500, Section: 2},
			{Name: "q", Kind: api.ElCross, Length: 800, Speed: 1000, Section: 1},
			{Name: "e", Kind: api.ElTrack, Length: 900, Speed: 1000, Section: 1},
			{Name: "w", Kind: api.ElPoint, Length: 650, Speed: 1000, Slow: 500, Section: 0},
		},
		Joints: []api.Joint{
			{A: api.End{El: 0, Side: 1}, B: api.End{El: 1, Side: 0}},
			{A: api.End{El: 2, Side: 0}, B: api.End{El: 1, Side: 1}},
			{A: api.End{El: 1, Side: 2}, B: api.End{El: 3, Side: 0}},
			{A: api.End{El: 2, Side: 1}, B: api.End{El: 4, Side: 0}},
			{A: api.End{El: 4, Side: 2}, B: api.End{El: 3, Side: 1}},
			{A: api.End{El: 4, Side: 3}, B: api.End{El: 5, Side: 0}},
			{A: api.End{El: 6, Side: 2}, B: api.End{El: 0, Side: 0}},
		},
		Signals: []api.Signal{{Name: "s", At: api.End{El: 0, Side: 1}, Overlap: 300}},
	}
}

// ring has ways back to where they came from: both legs of the points p are joined, the reverse leg of the points o leads over b to their stem, and one track of the crossing c to the other one.
func ring() api.Layout {
	return api.Layout{
		Name:     "ring",
		Sections: []string{"x", "y"},
		Elements: []api.Element{
			{Name: "p", Kind: api.ElPoint, Length: 500, Speed: 2000, Slow: 900, Section: 0},
			{Name: "a", Kind: api.ElTrack, Length: 600, Speed: 2000, Section: 1},
			{Name: "o", Kind: api.ElPoint, Length: 700, Speed: 2000, Slow: 900, Section: 0},
			{Name: "b", Kind: api.ElTrack, Length: 800, Speed: 2000, Section: 1},
			{Name: "c", Kind: api.ElCross, Length: 900, Speed: 2000, Section: 1},
		},
		Joints: []api.Joint{
			{A: api.End{El: 0, Side: 1}, B: api.End{El: 0, Side: 2}},
			{A: api.End{El: 0, Side: 0}, B: api.End{El: 1, Side: 0}},
			{A: api.End{El: 1, Side: 1}, B: api.End{El: 2, Side: 1}},
			{A: api.End{El: 2, Side: 2}, B: api.End{El: 3, Side: 0}},
			{A: api.End{El: 3, Side: 1}, B: api.End{El: 2, Side: 0}},
			{A: api.End{El: 4, Side: 0}, B: api.End{El: 4, Side: 3}},
		},
	}
}

// full is a layout of the greatest size: crossings in two rings, all of whose ends are joined.
func full() api.Layout {
	l := api.Layout{Name: "abcdefghij_9"}
	for i := range api.MaxSections {
		l.Sections = append(l.Sections, fmt.Sprint("section", i))
	}
	for i := range api.MaxElements {
		next := (i + 1) % api.MaxElements
		l.Elements = append(l.Elements, api.Element{Name: fmt.Sprint("element", i), Kind: api.ElCross, Length: 500 + i, Speed: 100 + i, Section: i % api.MaxSections})
		l.Joints = append(l.Joints, api.Joint{A: api.End{El: i, Side: 1}, B: api.End{El: next, Side: 0}})
		l.Joints = append(l.Joints, api.Joint{A: api.End{El: next, Side: 2}, B: api.End{El: i, Side: 3}})
	}
	return l
}

// ladder is a layout of the greatest size that consists of points, whose stems and whose legs are joined in turn: there are two ways from each stem to the next one.
func ladder() api.Layout {
	l := api.Layout{Name: "ladder", Sections: []string{"x"}}
	for i := range api.MaxElements {
		l.Elements = append(l.Elements, api.Element{Name: fmt.Sprint("p", i), Kind: api.ElPoint, Length: api.MaxLength, Speed: 100, Slow: 100})
	}
	for i := range api.MaxElements - 1 {
		sides := []int{0}
		if i%2 == 0 {
			sides = []int{1, 2}
		}
		for _, side := range sides {
			l.Joints = append(l.Joints, api.Joint{A: api.End{El: i, Side: side}, B: api.End{El: i + 1, Side: side}})
		}
	}
	return l
}

// single is a layout of the least size.
func single() api.Layout {
	return api.Layout{Name: "l", Sections: []string{"s"}, Elements: []api.Element{{Name: "e", Kind: api.ElTrack, Length: 500, Speed: 100}}}
}

// valid has valid layouts of all sizes.
func valid() []api.Layout {
	return []api.Layout{line(), yard(), ring(), full(), ladder(), single()}
}

// tracks are joined one after the other, as many as are wanted; more than MaxElements are not valid.
func tracks(number int) api.Layout {
	l := api.Layout{Name: "tracks", Sections: []string{"x"}}
	for i := range number {
		l.Elements = append(l.Elements, api.Element{Name: fmt.Sprint("e", i), Kind: api.ElTrack, Length: 500, Speed: 100})
	}
	for i := range number - 1 {
		l.Joints = append(l.Joints, api.Joint{A: api.End{El: i, Side: 1}, B: api.End{El: i + 1, Side: 0}})
	}
	return l
}

// over is the way over the tracks from one to another one.
func over(from, to int) []api.Step {
	var way []api.Step
	for el := from; el <= to; el++ {
		way = append(way, api.Step{El: el, In: 0, Out: 1})
	}
	return way
}

// kindPassages are the chapter's passages of the kinds of elements, and the positions that they need.
func kindPassages(kind int) map[[2]int]int {
	return map[int]map[[2]int]int{
		api.ElTrack: {{0, 1}: 0, {1, 0}: 0},
		api.ElPoint: {{0, 1}: api.PtNormal, {1, 0}: api.PtNormal, {0, 2}: api.PtReverse, {2, 0}: api.PtReverse},
		api.ElCross: {{0, 1}: 0, {1, 0}: 0, {2, 3}: 0, {3, 2}: 0},
	}[kind]
}

// possible is the chapter's definition of possible steps, with the position that a step needs.
func possible(l api.Layout, s api.Step) (int, bool) {
	for i, e := range l.Elements {
		if i == s.El {
			pos, ok := kindPassages(e.Kind)[[2]int{s.In, s.Out}]
			return pos, ok
		}
	}
	return 0, false
}

// joinedTo is the end that is joined to another one.
func joinedTo(l api.Layout, e api.End) (api.End, bool) {
	for _, j := range l.Joints {
		if j.A == e {
			return j.B, true
		}
		if j.B == e {
			return j.A, true
		}
	}
	return api.End{}, false
}

// isWay is the chapter's definition of ways.
func isWay(l api.Layout, way []api.Step) bool {
	if len(way) == 0 || len(way) > 64 {
		return false
	}
	for i, s := range way {
		if _, ok := possible(l, s); !ok {
			return false
		}
		for _, earlier := range way[:i] {
			if earlier.El == s.El {
				return false
			}
		}
		if i > 0 {
			at, ok := joinedTo(l, api.End{El: way[i-1].El, Side: way[i-1].Out})
			if !ok || at.El != s.El || at.Side != s.In {
				return false
			}
		}
	}
	return true
}

// someSteps are all steps of a layout whose numbers are near those of elements and sides.
func someSteps(l api.Layout) []api.Step {
	var steps []api.Step
	for el := -1; el <= len(l.Elements); el++ {
		for in := -1; in <= 4; in++ {
			for out := -1; out <= 4; out++ {
				steps = append(steps, api.Step{El: el, In: in, Out: out})
			}
		}
	}
	return steps
}

// possibleSteps are all steps of a layout that are possible.
func possibleSteps(l api.Layout) []api.Step {
	return slices.DeleteFunc(someSteps(l), func(s api.Step) bool {
		_, ok := possible(l, s)
		return !ok
	})
}

// waysOf are all ways of a layout, as the chapter defines them.
func waysOf(l api.Layout) [][]api.Step {
	var ways [][]api.Step
	steps := possibleSteps(l)
	var extend func(way []api.Step)
	extend = func(way []api.Step) {
		for _, s := range steps {
			longer := append(slices.Clone(way), s)
			if isWay(l, longer) {
				ways = append(ways, longer)
				extend(longer)
			}
		}
	}
	extend(nil)
	return ways
}

// someWays are all ways of the small layouts, and some of the great ones.
func someWays(l api.Layout) [][]api.Step {
	if len(l.Elements) < 10 {
		return waysOf(l)
	}
	var ways [][]api.Step
	steps := possibleSteps(l)
	for i, s := range steps {
		way := []api.Step{s}
		for isWay(l, way) {
			if n := len(way); n < 3 || n%7 == 4 || n > 30 {
				ways = append(ways, slices.Clone(way))
			}
			at, ok := joinedTo(l, api.End{El: way[len(way)-1].El, Side: way[len(way)-1].Out})
			if !ok {
				break
			}
			var branches []api.Step
			for _, b := range steps {
				if b.El == at.El && b.In == at.Side {
					branches = append(branches, b)
				}
			}
			// One of the branches after the other, so that all of them occur.
			way = append(way, branches[(i+len(way)/2)%len(branches)])
		}
	}
	return ways
}

// randomSteps has steps of all sorts in any order, some of them more than once: of all steps, of good ones, and of elements far away.
func randomSteps(r *rand.Rand, all, good []api.Step) []api.Step {
	var way []api.Step
	for range r.Intn(12) {
		switch r.Intn(4) {
		case 0:
			way = append(way, all[r.Intn(len(all))])
		case 1:
			way = append(way, api.Step{El: extremes[r.Intn(len(extremes))], In: r.Intn(2), Out: r.Intn(2)})
		default:
			way = append(way, good[r.Intn(len(good))])
		}
	}
	return way
}

// The layouts that the tests call valid are valid: for others, nothing but rule 0.1 is promised.
func TestLayouts(t *testing.T) {
	for _, l := range valid() {
		if e := layout.Check(l); e != api.OK {
			t.Errorf("%s: Check = %d", l.Name, e)
		}
	}
}

// The examples of the chapter.
func TestExamples(t *testing.T) {
	l := line()
	if e, ok := Next(l, api.Step{El: 0, In: 0, Out: 1}); e != (api.End{El: 1, Side: 0}) || !ok {
		t.Errorf("Next over a = %v, %v", e, ok)
	}
	if e, ok := Next(l, api.Step{El: 2, In: 0, Out: 1}); e != (api.End{}) || ok {
		t.Errorf("Next over c = %v, %v", e, ok)
	}
	if b := Branches(l, api.End{El: 1, Side: 0}); !slices.Equal(b, []api.Step{{El: 1, In: 0, Out: 1}}) {
		t.Errorf("Branches = %v", b)
	}
	way := []api.Step{{El: 0, In: 0, Out: 1}, {El: 1, In: 0, Out: 1}}
	if !Valid(l, way) || Length(l, way) != 40000 || !slices.Equal(Sections(l, way), []int{0, 1}) {
		t.Errorf("a and b: %v, %d, %v", Valid(l, way), Length(l, way), Sections(l, way))
	}
	if back := Reverse(way); len(back) != 2 || back[0] != (api.Step{El: 1, In: 1, Out: 0}) {
		t.Errorf("Reverse = %v", back)
	}
	if Valid(l, []api.Step{{El: 0, In: 0, Out: 1}, {El: 2, In: 0, Out: 1}}) {
		t.Error("a and c are a way")
	}
}

// P9.1: Next depends on El and Out only, and follows joints from both ends.
func TestNext(t *testing.T) {
	for _, c := range []struct {
		step api.Step
		want api.End
		ok   bool
	}{
		{api.Step{El: 0, In: 0, Out: 1}, api.End{El: 1, Side: 0}, true},
		{api.Step{El: 0, In: 1, Out: 0}, api.End{El: 6, Side: 2}, true},
		{api.Step{El: 1, In: 1, Out: 0}, api.End{El: 0, Side: 1}, true},
		{api.Step{El: 1, In: 0, Out: 1}, api.End{El: 2, Side: 0}, true},
		{api.Step{El: 1, In: 0, Out: 2}, api.End{El: 3, Side: 0}, true},
		{api.Step{El: 4, In: 0, Out: 1}, api.End{}, false},
		{api.Step{El: 4, In: 2, Out: 3}, api.End{El: 5, Side: 0}, true},
		{api.Step{El: 4, In: 3, Out: 2}, api.End{El: 3, Side: 1}, true},
		{api.Step{El: 5, In: 0, Out: 1}, api.End{}, false},
		{api.Step{El: 6, In: 2, Out: 0}, api.End{}, false},
		// Steps that are not possible leave their elements, too.
		{api.Step{El: 1, In: 1, Out: 2}, api.End{El: 3, Side: 0}, true},
		{api.Step{El: 4, In: 0, Out: 0}, api.End{El: 2, Side: 1}, true},
		{api.Step{El: 0, In: -7, Out: 1}, api.End{El: 1, Side: 0}, true},
		{api.Step{El: 0, In: 0, Out: 2}, api.End{}, false},
		{api.Step{El: 7, In: 0, Out: 1}, api.End{}, false},
		{api.Step{El: -1, In: 0, Out: 1}, api.End{}, false},
	} {
		if e, ok := Next(yard(), c.step); e != c.want || ok != c.ok {
			t.Errorf("Next(%v) = %v, %v", c.step, e, ok)
		}
	}
}

// P9.1: the joined end of every step, and layout.Joined.
func TestNextOfAll(t *testing.T) {
	for _, l := range valid() {
		for _, s := range someSteps(l) {
			want, there := joinedTo(l, api.End{El: s.El, Side: s.Out})
			e, ok := Next(l, s)
			if e != want || ok != there {
				t.Errorf("%s: Next(%v) = %v, %v", l.Name, s, e, ok)
			}
			if j, joined := layout.Joined(l, api.End{El: s.El, Side: s.Out}); e != j || ok != joined {
				t.Errorf("%s: Next(%v) = %v, %v, Joined = %v, %v", l.Name, s, e, ok, j, joined)
			}
		}
	}
}

// P9.1: Branches of all kinds of elements.
func TestBranches(t *testing.T) {
	for _, c := range []struct {
		at   api.End
		want []api.Step
	}{
		{api.End{El: 0, Side: 0}, []api.Step{{El: 0, In: 0, Out: 1}}},
		{api.End{El: 0, Side: 1}, []api.Step{{El: 0, In: 1, Out: 0}}},
		{api.End{El: 0, Side: 2}, nil},
		{api.End{El: 1, Side: 0}, []api.Step{{El: 1, In: 0, Out: 1}, {El: 1, In: 0, Out: 2}}},
		{api.End{El: 1, Side: 1}, []api.Step{{El: 1, In: 1, Out: 0}}},
		{api.End{El: 1, Side: 2}, []api.Step{{El: 1, In: 2, Out: 0}}},
		{api.End{El: 1, Side: 3}, nil},
		{api.End{El: 4, Side: 0}, []api.Step{{El: 4, In: 0, Out: 1}}},
		{api.End{El: 4, Side: 1}, []api.Step{{El: 4, In: 1, Out: 0}}},
		{api.End{El: 4, Side: 2}, []api.Step{{El: 4, In: 2, Out: 3}}},
		{api.End{El: 4, Side: 3}, []api.Step{{El: 4, In: 3, Out: 2}}},
		{api.End{El: 4, Side: 4}, nil},
		{api.End{El: 0, Side: -1}, nil},
		{api.End{El: 6, Side: 0}, []api.Step{{El: 6, In: 0, Out: 1}, {El: 6, In: 0, Out: 2}}},
		{api.End{El: 7, Side: 0}, nil},
		{api.End{El: -1, Side: 0}, nil},
	} {
		if b := Branches(yard(), c.at); !slices.Equal(b, c.want) {
			t.Errorf("Branches(%v) = %v", c.at, b)
		}
	}
}

// P9.1: the branches of every end are its possible steps, whose other sides ascend.
func TestBranchesOfAll(t *testing.T) {
	for _, l := range valid() {
		for el := -1; el <= len(l.Elements); el++ {
			for _, side := range append([]int{0, 1, 2, 3, 4}, extremes...) {
				var want []api.Step
				for out := range 4 {
					s := api.Step{El: el, In: side, Out: out}
					if _, ok := possible(l, s); ok {
						want = append(want, s)
					}
				}
				if b := Branches(l, api.End{El: el, Side: side}); !slices.Equal(b, want) {
					t.Errorf("%s: Branches(%d, %d) = %v, want %v", l.Name, el, side, b, want)
				}
			}
		}
		for _, el := range extremes {
			if b := Branches(l, api.End{El: el}); len(b) != 0 {
				t.Errorf("%s: Branches(%d, 0) = %v", l.Name, el, b)
			}
		}
	}
}

// P9.2: ways, and steps that break each part of the definition.
func TestValid(t *testing.T) {
	for _, c := range []struct {
		what string
		way  []api.Step
		want bool
	}{
		{"nothing", nil, false},
		{"no steps", []api.Step{}, false},
		{"a step", []api.Step{{El: 0, In: 0, Out: 1}}, true},
		{"a step over a crossing", []api.Step{{El: 4, In: 3, Out: 2}}, true},
		{"a way over points to the reverse leg", []api.Step{{El: 0, In: 0, Out: 1}, {El: 1, In: 0, Out: 2}, {El: 3, In: 0, Out: 1}}, true},
		{"a way over all but the normal leg", []api.Step{{El: 6, In: 0, Out: 2}, {El: 0, In: 0, Out: 1}, {El: 1, In: 0, Out: 2}, {El: 3, In: 0, Out: 1}, {El: 4, In: 2, Out: 3}, {El: 5, In: 0, Out: 1}}, true},
		{"a way backward", []api.Step{{El: 2, In: 1, Out: 0}, {El: 1, In: 1, Out: 0}, {El: 0, In: 1, Out: 0}, {El: 6, In: 2, Out: 0}}, true},
		{"a step from leg to leg", []api.Step{{El: 1, In: 1, Out: 2}}, false},
		{"a step that turns", []api.Step{{El: 0, In: 0, Out: 0}}, false},
		{"a step between the tracks of a crossing", []api.Step{{El: 4, In: 0, Out: 3}}, false},
		{"a step over no element", []api.Step{{El: 7, In: 0, Out: 1}}, false},
		{"a step over an element before the first", []api.Step{{El: -1, In: 0, Out: 1}}, false},
		{"a second step that is not possible", []api.Step{{El: 0, In: 0, Out: 1}, {El: 1, In: 0, Out: 0}}, false},
		{"a step too far", []api.Step{{El: 0, In: 0, Out: 1}, {El: 2, In: 0, Out: 1}}, false},
		{"a step from the wrong side", []api.Step{{El: 0, In: 0, Out: 1}, {El: 1, In: 1, Out: 0}}, false},
		{"a step from the wrong leg", []api.Step{{El: 3, In: 1, Out: 0}, {El: 1, In: 1, Out: 0}}, false},
		{"a step behind an end that is not joined", []api.Step{{El: 5, In: 0, Out: 1}, {El: 0, In: 0, Out: 1}}, false},
		{"a third step that is not joined", []api.Step{{El: 0, In: 0, Out: 1}, {El: 1, In: 0, Out: 1}, {El: 3, In: 0, Out: 1}}, false},
		{"an element again", []api.Step{{El: 0, In: 0, Out: 1}, {El: 0, In: 0, Out: 1}}, false},
		{"an element there and back", []api.Step{{El: 0, In: 0, Out: 1}, {El: 0, In: 1, Out: 0}}, false},
	} {
		if got := Valid(yard(), c.way); got != c.want {
			t.Errorf("%s: Valid = %v", c.what, got)
		}
	}
}

// P9.2: joined steps lead to an element again, of which each end is another one.
func TestValidVisitsOnce(t *testing.T) {
	l := ring()
	for _, way := range [][]api.Step{
		{{El: 0, In: 0, Out: 1}, {El: 0, In: 2, Out: 0}},
		{{El: 4, In: 1, Out: 0}, {El: 4, In: 3, Out: 2}},
		{{El: 1, In: 0, Out: 1}, {El: 2, In: 1, Out: 0}, {El: 3, In: 1, Out: 0}, {El: 2, In: 2, Out: 0}},
		{{El: 2, In: 1, Out: 0}, {El: 3, In: 1, Out: 0}, {El: 2, In: 2, Out: 0}},
	} {
		if Valid(l, way) {
			t.Errorf("%v is a way", way)
		}
		if part := way[:len(way)-1]; !Valid(l, part) {
			t.Errorf("%v is no way", part)
		}
	}
}

// P9.2: all lists of one and two steps, and all lists of three possible ones.
func TestValidOfAll(t *testing.T) {
	for _, l := range []api.Layout{line(), yard(), ring(), single()} {
		compare := func(way ...api.Step) {
			if got, want := Valid(l, way), isWay(l, way); got != want {
				t.Errorf("%s: Valid(%v) = %v, want %v", l.Name, way, got, want)
			}
		}
		for _, a := range someSteps(l) {
			compare(a)
			for _, b := range someSteps(l) {
				compare(a, b)
			}
		}
		steps := possibleSteps(l)
		for _, a := range steps {
			for _, b := range steps {
				for _, c := range steps {
					compare(a, b, c)
				}
			}
		}
	}
}

// P9.2: a way has up to MaxSteps steps. Valid layouts have fewer elements, so that only others show the limit.
func TestValidLimit(t *testing.T) {
	l := tracks(api.MaxElements)
	if layout.Check(l) != api.OK || !Valid(l, over(0, api.MaxElements-1)) {
		t.Error("a way over all tracks")
	}
	l = tracks(api.MaxSteps + 2)
	for _, c := range []struct {
		steps int
		want  bool
	}{{1, true}, {api.MaxSteps - 1, true}, {api.MaxSteps, true}, {api.MaxSteps + 1, false}, {api.MaxSteps + 2, false}} {
		if got := Valid(l, over(0, c.steps-1)); got != c.want {
			t.Errorf("%d steps: Valid = %v", c.steps, got)
		}
	}
}

// P9.2: Reverse of any steps.
func TestReverse(t *testing.T) {
	for _, c := range []struct{ way, want []api.Step }{
		{nil, nil},
		{[]api.Step{}, nil},
		{[]api.Step{{El: 3, In: 1, Out: 2}}, []api.Step{{El: 3, In: 2, Out: 1}}},
		{[]api.Step{{El: 0, In: 0, Out: 1}, {El: 1, In: 0, Out: 2}, {El: 3, In: 0, Out: 1}}, []api.Step{{El: 3, In: 1, Out: 0}, {El: 1, In: 2, Out: 0}, {El: 0, In: 1, Out: 0}}},
		{[]api.Step{{El: -5, In: math.MinInt, Out: math.MaxInt}, {El: 99, In: 7, Out: 7}}, []api.Step{{El: 99, In: 7, Out: 7}, {El: -5, In: math.MaxInt, Out: math.MinInt}}},
		{[]api.Step{{El: 1, In: 0, Out: 1}, {El: 1, In: 0, Out: 1}}, []api.Step{{El: 1, In: 1, Out: 0}, {El: 1, In: 1, Out: 0}}},
	} {
		if got := Reverse(c.way); !slices.Equal(got, c.want) {
			t.Errorf("Reverse(%v) = %v", c.way, got)
		}
	}
	if got := Reverse(over(0, 999)); len(got) != 1000 || got[0] != (api.Step{El: 999, In: 1, Out: 0}) || got[999] != (api.Step{El: 0, In: 1, Out: 0}) {
		t.Error("Reverse of more than MaxSteps steps")
	}
}

// P9.3: Length counts each step over an element, also those that are not possible or there twice.
func TestLength(t *testing.T) {
	for _, c := range []struct {
		way  []api.Step
		want int
	}{
		{nil, 0},
		{[]api.Step{{El: 0, In: 0, Out: 1}}, 1000},
		{[]api.Step{{El: 0, In: 0, Out: 1}, {El: 1, In: 0, Out: 2}, {El: 3, In: 0, Out: 1}}, 7700},
		{[]api.Step{{El: 2, In: 0, Out: 0}, {El: 6, In: 1, Out: 2}, {El: 4, In: -1, Out: 9}}, 6450},
		{[]api.Step{{El: 5, In: 0, Out: 1}, {El: 5, In: 0, Out: 1}, {El: 5, In: 1, Out: 0}}, 2700},
		{[]api.Step{{El: -1, In: 0, Out: 1}}, 0},
		{[]api.Step{{El: 7, In: 0, Out: 1}}, 0},
		{[]api.Step{{El: math.MinInt, In: 0, Out: 1}, {El: 6, In: 0, Out: 1}, {El: math.MaxInt, In: 0, Out: 1}}, 650},
	} {
		if got := Length(yard(), c.way); got != c.want {
			t.Errorf("Length(%v) = %d, want %d", c.way, got, c.want)
		}
	}
	way := slices.Repeat([]api.Step{{El: 31, In: 0, Out: 1}}, 5000)
	if got := Length(ladder(), way); got != 5000*api.MaxLength {
		t.Errorf("Length of 5000 steps = %d", got)
	}
}

// P9.3: Sections has each section at its first place.
func TestSections(t *testing.T) {
	for _, c := range []struct {
		way  []api.Step
		want []int
	}{
		{nil, nil},
		{[]api.Step{{El: 3, In: 0, Out: 1}}, []int{2}},
		{[]api.Step{{El: 2, In: 1, Out: 0}, {El: 1, In: 1, Out: 0}, {El: 0, In: 1, Out: 0}}, []int{2, 1, 0}},
		{[]api.Step{{El: 1, In: 0, Out: 1}, {El: 2, In: 0, Out: 1}, {El: 4, In: 0, Out: 1}}, []int{1, 2}},
		{[]api.Step{{El: 2, In: 0, Out: 1}, {El: 3, In: 0, Out: 1}, {El: 0, In: 0, Out: 1}, {El: 3, In: 0, Out: 1}}, []int{2, 0}},
		{[]api.Step{{El: 1, In: 1, Out: 2}, {El: 6, In: 9, Out: -9}}, []int{1, 0}},
		{[]api.Step{{El: -1, In: 0, Out: 1}, {El: 7, In: 0, Out: 1}}, nil},
		{[]api.Step{{El: -1, In: 0, Out: 1}, {El: 2, In: 0, Out: 1}, {El: 7, In: 0, Out: 1}, {El: 0, In: 0, Out: 1}}, []int{2, 0}},
	} {
		if got := Sections(yard(), c.way); !slices.Equal(got, c.want) {
			t.Errorf("Sections(%v) = %v, want %v", c.way, got, c.want)
		}
	}
}

// P9.3: Settings ascend, each once, and only steps that are possible need some.
func TestSettings(t *testing.T) {
	for _, c := range []struct {
		way  []api.Step
		want []api.Setting
	}{
		{nil, nil},
		{[]api.Step{{El: 0, In: 0, Out: 1}, {El: 4, In: 2, Out: 3}}, nil},
		{[]api.Step{{El: 1, In: 0, Out: 1}}, []api.Setting{{El: 1, Pos: api.PtNormal}}},
		{[]api.Step{{El: 1, In: 1, Out: 0}}, []api.Setting{{El: 1, Pos: api.PtNormal}}},
		{[]api.Step{{El: 1, In: 0, Out: 2}}, []api.Setting{{El: 1, Pos: api.PtReverse}}},
		{[]api.Step{{El: 1, In: 2, Out: 0}}, []api.Setting{{El: 1, Pos: api.PtReverse}}},
		{[]api.Step{{El: 6, In: 0, Out: 2}, {El: 0, In: 0, Out: 1}, {El: 1, In: 0, Out: 1}}, []api.Setting{{El: 1, Pos: api.PtNormal}, {El: 6, Pos: api.PtReverse}}},
		{[]api.Step{{El: 6, In: 0, Out: 1}, {El: 1, In: 0, Out: 2}}, []api.Setting{{El: 1, Pos: api.PtReverse}, {El: 6, Pos: api.PtNormal}}},
		{[]api.Step{{El: 1, In: 0, Out: 2}, {El: 1, In: 2, Out: 0}, {El: 1, In: 0, Out: 2}}, []api.Setting{{El: 1, Pos: api.PtReverse}}},
		{[]api.Step{{El: 6, In: 0, Out: 1}, {El: 1, In: 2, Out: 0}, {El: 6, In: 0, Out: 2}, {El: 1, In: 1, Out: 0}, {El: 1, In: 0, Out: 2}}, []api.Setting{{El: 1, Pos: api.PtNormal}, {El: 1, Pos: api.PtReverse}, {El: 6, Pos: api.PtNormal}, {El: 6, Pos: api.PtReverse}}},
		{[]api.Step{{El: 1, In: 1, Out: 2}, {El: 6, In: 0, Out: 0}, {El: 6, In: 3, Out: 0}}, nil},
		{[]api.Step{{El: 1, In: 1, Out: 2}, {El: 6, In: 2, Out: 0}}, []api.Setting{{El: 6, Pos: api.PtReverse}}},
		{[]api.Step{{El: -1, In: 0, Out: 1}, {El: 7, In: 0, Out: 1}, {El: 7, In: 0, Out: 2}}, nil},
	} {
		if got := Settings(yard(), c.way); !slices.Equal(got, c.want) {
			t.Errorf("Settings(%v) = %v, want %v", c.way, got, c.want)
		}
	}
}

// P9.2, P9.3: any steps, compared with the definitions.
func TestAnySteps(t *testing.T) {
	r := rand.New(rand.NewSource(9))
	for _, l := range valid() {
		all, good := someSteps(l), possibleSteps(l)
		for range 2000 {
			way := randomSteps(r, all, good)
			checkMeasures(t, l, way)
			if got, want := Valid(l, way), isWay(l, way); got != want {
				t.Errorf("%s: Valid(%v) = %v, want %v", l.Name, way, got, want)
			}
		}
	}
}

// checkMeasures compares the measures of steps with the definitions.
func checkMeasures(t *testing.T, l api.Layout, way []api.Step) {
	t.Helper()
	length := 0
	var sections []int
	needed := map[api.Setting]bool{}
	for _, s := range way {
		for i, e := range l.Elements {
			if i == s.El {
				length += e.Length
				if !slices.Contains(sections, e.Section) {
					sections = append(sections, e.Section)
				}
			}
		}
		if pos, ok := possible(l, s); ok && pos != 0 {
			needed[api.Setting{El: s.El, Pos: pos}] = true
		}
	}
	var settings []api.Setting
	for el := range l.Elements {
		for _, pos := range []int{api.PtNormal, api.PtReverse} {
			if needed[api.Setting{El: el, Pos: pos}] {
				settings = append(settings, api.Setting{El: el, Pos: pos})
			}
		}
	}
	if got := Length(l, way); got != length {
		t.Errorf("%s: Length(%v) = %d, want %d", l.Name, way, got, length)
	}
	if got := Sections(l, way); !slices.Equal(got, sections) {
		t.Errorf("%s: Sections(%v) = %v, want %v", l.Name, way, got, sections)
	}
	if got := Settings(l, way); !slices.Equal(got, settings) {
		t.Errorf("%s: Settings(%v) = %v, want %v", l.Name, way, got, settings)
	}
}

// P9.4: the reverse of a way.
func TestWalkReverses(t *testing.T) {
	for _, l := range valid() {
		for _, way := range someWays(l) {
			if !Valid(l, way) {
				t.Errorf("%s: %v is no way", l.Name, way)
			}
			checkMeasures(t, l, way)
			back := Reverse(way)
			if !Valid(l, back) || Length(l, back) != Length(l, way) || !slices.Equal(Settings(l, back), Settings(l, way)) {
				t.Errorf("%s: the reverse of %v is %v", l.Name, way, back)
			}
			if a, b := Sections(l, way), Sections(l, back); !slices.Equal(slices.Sorted(slices.Values(a)), slices.Sorted(slices.Values(b))) {
				t.Errorf("%s: sections %v and %v", l.Name, a, b)
			}
			if again := Reverse(back); !slices.Equal(again, way) {
				t.Errorf("%s: the reverse of the reverse of %v is %v", l.Name, way, again)
			}
		}
	}
}

// P9.5: the parts of a way.
func TestParts(t *testing.T) {
	for _, l := range valid() {
		for i, way := range someWays(l) {
			// The long ways of the great layouts differ little, and have many parts.
			if len(way) > 10 && i%9 > 0 {
				continue
			}
			for from := range way {
				for to := from + 1; to <= len(way); to++ {
					if !Valid(l, way[from:to]) {
						t.Errorf("%s: the part %d to %d of %v is no way", l.Name, from, to, way)
					}
					if Length(l, way[:from])+Length(l, way[from:to]) != Length(l, way[:to]) {
						t.Errorf("%s: the lengths of %v up to %d and %d do not add up", l.Name, way, from, to)
					}
				}
			}
		}
	}
}

// P9.6: a way goes on by each branch, unless the element there is in the way.
func TestGoingOn(t *testing.T) {
	for _, l := range valid() {
		for _, way := range someWays(l) {
			at, ok := Next(l, way[len(way)-1])
			if !ok {
				continue
			}
			inWay := slices.ContainsFunc(way, func(s api.Step) bool { return s.El == at.El })
			branches := Branches(l, at)
			if len(branches) == 0 {
				t.Errorf("%s: no branches behind %v", l.Name, way)
			}
			for _, b := range branches {
				if Valid(l, append(slices.Clone(way), b)) == inWay {
					t.Errorf("%s: %v and %v", l.Name, way, b)
				}
			}
		}
	}
}

// P9.7: with the points in the positions of Settings, a train passes each step.
func TestSettingsLead(t *testing.T) {
	for _, l := range valid() {
		for _, way := range someWays(l) {
			positions := map[int]int{}
			for _, s := range Settings(l, way) {
				positions[s.El] = s.Pos
			}
			for _, s := range way {
				if out, ok := outOf(l, s, positions[s.El]); out != s.Out || !ok {
					t.Errorf("%s: %v of %v leads to %d, %v", l.Name, s, way, out, ok)
				}
			}
		}
	}
}

// outOf is where a train leaves that enters as in a step, with points in a position.
func outOf(l api.Layout, s api.Step, pos int) (int, bool) {
	for sides, needs := range kindPassages(l.Elements[s.El].Kind) {
		if sides[0] == s.In && (needs == 0 || needs == pos) {
			return sides[1], true
		}
	}
	return 0, false
}

// Rule 0.1: layouts that are not valid, and numbers that are no elements or sides.
func TestNotValid(t *testing.T) {
	short := yard()
	short.Elements = short.Elements[:1]
	strange := yard()
	for i := range strange.Elements {
		strange.Elements[i] = api.Element{Kind: extremes[i], Length: math.MaxInt, Section: extremes[i]}
	}
	for i, n := range extremes {
		strange.Joints = append(strange.Joints, api.Joint{A: api.End{El: i, Side: n}, B: api.End{El: n, Side: i}})
	}
	looped := line()
	looped.Joints = []api.Joint{{A: api.End{El: 0, Side: 1}, B: api.End{El: 0, Side: 1}}, {A: api.End{El: 0, Side: 1}, B: api.End{El: 9, Side: 9}}}
	for _, l := range []api.Layout{{}, short, strange, looped, {Elements: []api.Element{{Kind: 4}, {Kind: 0}, {Kind: -1}}}} {
		for _, el := range append([]int{0, 1, 2, 9}, extremes...) {
			for _, side := range append([]int{0, 1, 2, 3}, extremes...) {
				s := api.Step{El: el, In: side, Out: side}
				way := []api.Step{s, {El: el, In: 0, Out: side}, {El: el, In: side, Out: 1}, {El: 0, In: 0, Out: 1}}
				Next(l, s)
				Branches(l, api.End{El: el, Side: side})
				Valid(l, way)
				Length(l, way)
				Sections(l, way)
				Settings(l, way)
				Reverse(way)
			}
		}
	}
}

// Rule 0.4: arguments are not changed, and results are new memory.
func TestMemory(t *testing.T) {
	l := yard()
	way := []api.Step{{El: 6, In: 0, Out: 2}, {El: 0, In: 0, Out: 1}, {El: 1, In: 0, Out: 2}, {El: 3, In: 0, Out: 1}}
	same := slices.Clone(way)
	at := api.End{El: 1, Side: 0}
	for range 2 {
		back, branches := Reverse(way), Branches(l, at)
		sections, settings := Sections(l, way), Settings(l, way)
		Next(l, way[0])
		Valid(l, way)
		Length(l, way)
		if len(back) != 4 || len(branches) != 2 || len(sections) != 3 || len(settings) != 2 {
			t.Fatal(back, branches, sections, settings)
		}
		// What is written here must not be seen in the second round.
		for i := range back {
			back[i] = api.Step{}
		}
		branches[0], branches[1] = api.Step{}, api.Step{}
		sections[0], settings[0] = 7, api.Setting{}
	}
	if !slices.Equal(way, same) || !reflect.DeepEqual(l, yard()) {
		t.Error("an argument is changed")
	}
	if b := Branches(l, at); !slices.Equal(b, []api.Step{{El: 1, In: 0, Out: 1}, {El: 1, In: 0, Out: 2}}) {
		t.Error("Branches", b)
	}
}
