package layout

import (
	"fmt"
	"math"
	"reflect"
	"slices"
	"strings"
	"testing"

	"signalling/api"
)

// numbers are what the tests take for each number of a layout: the bounds of some, their neighbors, numbers that would be valid in fewer bits, and the extremes.
var numbers = []int{
	math.MinInt, math.MinInt + 1, math.MinInt32, -1 << 31, -501, -100, -51, -50, -49, -4, -3, -2, -1, 0, 1, 2, 3, 4, 5, 49, 50, 51, 99, 100, 101,
	499, 500, 501, 1999, 2000, 2001, 9999, 10000, 10001, 999999, 1000000, 1000001, 1<<30 - 1, 1 << 30, 1<<30 + 1,
	1 << 32, 1<<32 + 1, 1<<32 + 500, 1<<32 + 1000, math.MaxInt - 1, math.MaxInt,
}

// line is the line of DOC.md.
func line() api.Layout {
	return api.Layout{
		Name:     "line",
		Sections: []string{"x", "y", "z"},
		Elements: []api.Element{
			{Name: "a", Kind: api.ElTrack, Length: 20000, Speed: 2000, Section: 0},
			{Name: "b", Kind: api.ElTrack, Length: 20000, Speed: 2000, Section: 1},
			{Name: "c", Kind: api.ElTrack, Length: 20000, Speed: 2000, Section: 2},
		},
		Joints: []api.Joint{
			{A: api.End{El: 0, Side: 1}, B: api.End{El: 1, Side: 0}},
			{A: api.End{El: 1, Side: 1}, B: api.End{El: 2, Side: 0}},
		},
		Signals: []api.Signal{
			{Name: "s1", At: api.End{El: 0, Side: 1}},
			{Name: "s2", At: api.End{El: 1, Side: 1}},
		},
	}
}

// yard has elements of all kinds: points p in front of the tracks n and r, which lead over the crossing q to each other, and a joint within the section of the crossing.
func yard() api.Layout {
	return api.Layout{
		Name:     "yard",
		Sections: []string{"x", "y", "z"},
		Elements: []api.Element{
			{Name: "a", Kind: api.ElTrack, Length: 1000, Speed: 2000, Section: 0},
			{Name: "p", Kind: api.ElPoint, Length: 700, Grade: 3, Speed: 2000, Slow: 900, Section: 1},
			{Name: "n", Kind: api.ElTrack, Length: 5000, Grade: -4, Speed: 3000, Section: 2},
			{Name: "r", Kind: api.ElTrack, Length: 6000, Speed: 1500, Section: 2},
			{Name: "q", Kind: api.ElCross, Length: 800, Speed: 1000, Section: 1},
			{Name: "e", Kind: api.ElTrack, Length: 900, Speed: 1000, Section: 1},
		},
		Joints: []api.Joint{
			{A: api.End{El: 0, Side: 1}, B: api.End{El: 1, Side: 0}},
			{A: api.End{El: 2, Side: 0}, B: api.End{El: 1, Side: 1}},
			{A: api.End{El: 1, Side: 2}, B: api.End{El: 3, Side: 0}},
			{A: api.End{El: 2, Side: 1}, B: api.End{El: 4, Side: 0}},
			{A: api.End{El: 4, Side: 2}, B: api.End{El: 3, Side: 1}},
			{A: api.End{El: 4, Side: 3}, B: api.End{El: 5, Side: 0}},
		},
		Signals: []api.Signal{
			{Name: "s", At: api.End{El: 0, Side: 1}, Overlap: 300},
			{Name: "t", At: api.End{El: 2, Side: 0}},
			{Name: "u", At: api.End{El: 4, Side: 0}, Overlap: 100},
		},
		Balises: []api.Balise{{Id: 7, El: 0, Offset: 400}, {Id: 3, El: 1, Offset: 100}, {Id: 9, El: 4}},
	}
}

// full is a layout of the greatest size: crossings in two rings, all of whose ends are joined. It has more joints than sections, elements or signals are allowed.
func full() api.Layout {
	l := api.Layout{Name: "abcdefghij_9"}
	for i := range api.MaxSections {
		l.Sections = append(l.Sections, fmt.Sprint("section", i))
	}
	for i := range api.MaxElements {
		next := (i + 1) % api.MaxElements
		l.Elements = append(l.Elements, api.Element{Name: fmt.Sprint("element", i), Kind: api.ElCross, Length: 500 + i, Grade: i, Speed: 100 + i, Section: i % api.MaxSections})
		l.Joints = append(l.Joints, api.Joint{A: api.End{El: i, Side: 1}, B: api.End{El: next, Side: 0}})
		l.Joints = append(l.Joints, api.Joint{A: api.End{El: next, Side: 2}, B: api.End{El: i, Side: 3}})
	}
	for i := range api.MaxSignals {
		l.Signals = append(l.Signals, api.Signal{Name: fmt.Sprint("signal", i), At: api.End{El: i, Side: i % 4}, Overlap: i})
	}
	for i := range api.MaxBalises {
		l.Balises = append(l.Balises, api.Balise{Id: 100 - i, El: i, Offset: i})
	}
	return l
}

// single is a layout of the least size.
func single() api.Layout {
	return api.Layout{Name: "l", Sections: []string{"s"}, Elements: []api.Element{{Name: "e", Kind: api.ElTrack, Length: 500, Speed: 100}}}
}

// valid has valid layouts of all sizes.
func valid() []api.Layout {
	return []api.Layout{line(), yard(), full(), single()}
}

// ends are the ends of a layout, and others that do not exist.
func ends(l api.Layout) []api.End {
	var list []api.End
	for _, el := range append([]int{math.MinInt, math.MinInt32, -2, -1, len(l.Elements) + 1, 1 << 32, math.MaxInt}, indexes(len(l.Elements)+1)...) {
		for _, side := range []int{math.MinInt, -1 << 32, -1, 0, 1, 2, 3, 4, 1 << 32, math.MaxInt} {
			list = append(list, api.End{El: el, Side: side})
		}
	}
	return list
}

func indexes(length int) []int {
	var list []int
	for i := range length {
		list = append(list, i)
	}
	return list
}

// sidesOf is the chapter's number of sides of a kind.
func sidesOf(kind int) int {
	return map[int]int{api.ElTrack: 2, api.ElPoint: 3, api.ElCross: 4}[kind]
}

func check(t *testing.T, what string, l api.Layout, want api.Errno) {
	t.Helper()
	if got := Check(l); got != want {
		t.Errorf("%s: Check = %d, want %d", what, got, want)
	}
}

// checkAfter changes a new yard, and checks it.
func checkAfter(t *testing.T, what string, want api.Errno, change func(l *api.Layout)) {
	t.Helper()
	l := yard()
	change(&l)
	check(t, what, l, want)
}

// P7.1
func TestCheckOfValidLayouts(t *testing.T) {
	for _, l := range valid() {
		check(t, l.Name, l, api.OK)
	}
}

// P7.1, examples 2 and 3
func TestCheckOfExamples(t *testing.T) {
	l := line()
	l.Joints = l.Joints[1:]
	check(t, "without the joint of a and b", l, api.ErrUnsafe)
	l = line()
	l.Elements[1].Section = 0
	check(t, "b in the section of a", l, api.ErrArg)
	l = line()
	l.Sections = []string{"x", "y"}
	l.Elements[1].Section, l.Elements[2].Section = 0, 1
	check(t, "a and b in one of two sections", l, api.ErrUnsafe)
}

// P7.1, condition 1: the least and the greatest numbers of parts.
func TestCheckSizes(t *testing.T) {
	check(t, "nothing", api.Layout{}, api.ErrLimit)
	check(t, "empty lists", api.Layout{Name: "l", Sections: []string{}, Elements: []api.Element{}}, api.ErrLimit)
	for what, change := range map[string]func(l *api.Layout){
		"no elements":          func(l *api.Layout) { l.Elements, l.Joints, l.Signals, l.Balises = nil, nil, nil, nil },
		"no sections":          func(l *api.Layout) { l.Sections = nil },
		"one element too many": func(l *api.Layout) { l.Elements = append(l.Elements, l.Elements[0]) },
		"one section too many": func(l *api.Layout) { l.Sections = append(l.Sections, "more") },
		"one signal too many":  func(l *api.Layout) { l.Signals = append(l.Signals, api.Signal{Name: "more", At: api.End{El: 31}}) },
		"one balise too many":  func(l *api.Layout) { l.Balises = append(l.Balises, api.Balise{Id: 1}) },
	} {
		l := full()
		change(&l)
		check(t, what, l, api.ErrLimit)
	}
	for what, change := range map[string]func(l *api.Layout){
		"no joints, signals and balises": func(l *api.Layout) { l.Joints, l.Signals, l.Balises = nil, nil, nil },
		"no signals":                     func(l *api.Layout) { l.Signals = nil },
		"no balises":                     func(l *api.Layout) { l.Balises = nil },
		"one section less": func(l *api.Layout) {
			l.Sections, l.Elements[23].Section = l.Sections[:23], 9
		},
	} {
		l := full()
		change(&l)
		check(t, what, l, api.OK)
	}
}

// allNames are the places of all names of a layout.
func allNames(l *api.Layout) []*string {
	list := []*string{&l.Name}
	for i := range l.Sections {
		list = append(list, &l.Sections[i])
	}
	for i := range l.Elements {
		list = append(list, &l.Elements[i].Name)
	}
	for i := range l.Signals {
		list = append(list, &l.Signals[i].Name)
	}
	return list
}

// P7.1, condition 2
func TestCheckNames(t *testing.T) {
	for _, l := range valid() {
		for i := range allNames(&l) {
			for _, name := range []string{"", "A", "1a", "_a", "a b", "a-b", "ä", "a\n", "a\x00", "abcdefghijklm", strings.Repeat("a", 65536)} {
				changed := copied(l)
				*allNames(&changed)[i] = name
				check(t, fmt.Sprintf("%s with the name %d %.20q", l.Name, i, name), changed, api.ErrName)
			}
			for _, name := range []string{"o", "o_", "o1", "zzzzzzzzzzz_", "abcdefghijkl"} {
				changed := copied(l)
				*allNames(&changed)[i] = name
				check(t, fmt.Sprintf("%s with the name %d %q", l.Name, i, name), changed, api.OK)
			}
		}
	}
}

// P7.1, condition 3: the same name is there twice in one list only if it is an error.
func TestCheckNamesTwice(t *testing.T) {
	for _, l := range valid() {
		places := allNames(&l)
		kindOf := func(i int) int {
			switch {
			case i == 0:
				return 0
			case i <= len(l.Sections):
				return 1
			case i <= len(l.Sections)+len(l.Elements):
				return 2
			}
			return 3
		}
		for i := range places {
			for j := range i {
				changed := copied(l)
				*allNames(&changed)[i], *allNames(&changed)[j] = "same", "same"
				want := api.OK
				if kindOf(i) == kindOf(j) {
					want = api.ErrDuplicate
				}
				check(t, fmt.Sprintf("%s with the names %d and %d", l.Name, i, j), changed, want)
			}
		}
	}
}

// P7.1, conditions 4, 8 and 11: each number of the yard is allowed within its bounds, and no other one.
func TestCheckBounds(t *testing.T) {
	for _, c := range []struct {
		what      string
		low, high int
		place     func(l *api.Layout) *int
	}{
		{"length of a track", 500, 1000000, func(l *api.Layout) *int { return &l.Elements[2].Length }},
		{"length of points", 500, 1000000, func(l *api.Layout) *int { return &l.Elements[1].Length }},
		{"length of a crossing", 500, 1000000, func(l *api.Layout) *int { return &l.Elements[4].Length }},
		{"length of the last", 500, 1000000, func(l *api.Layout) *int { return &l.Elements[5].Length }},
		{"grade of a track", -50, 50, func(l *api.Layout) *int { return &l.Elements[0].Grade }},
		{"grade of points", -50, 50, func(l *api.Layout) *int { return &l.Elements[1].Grade }},
		{"grade of a crossing", -50, 50, func(l *api.Layout) *int { return &l.Elements[4].Grade }},
		{"speed of a track", 100, 10000, func(l *api.Layout) *int { return &l.Elements[0].Speed }},
		{"speed of a crossing", 100, 10000, func(l *api.Layout) *int { return &l.Elements[4].Speed }},
		{"speed of points", 900, 10000, func(l *api.Layout) *int { return &l.Elements[1].Speed }},
		{"slow of points", 100, 2000, func(l *api.Layout) *int { return &l.Elements[1].Slow }},
		{"slow of a track", 0, 0, func(l *api.Layout) *int { return &l.Elements[0].Slow }},
		{"slow of a crossing", 0, 0, func(l *api.Layout) *int { return &l.Elements[4].Slow }},
		{"section", 0, 2, func(l *api.Layout) *int { return &l.Elements[5].Section }},
		{"overlap of the first", 0, 1000000, func(l *api.Layout) *int { return &l.Signals[0].Overlap }},
		{"overlap of the last", 0, 1000000, func(l *api.Layout) *int { return &l.Signals[2].Overlap }},
		{"element of a balise", 0, 5, func(l *api.Layout) *int { return &l.Balises[1].El }},
		{"offset on a track", 0, 1000, func(l *api.Layout) *int { l.Balises[0].El = 0; return &l.Balises[0].Offset }},
		{"offset on points", 0, 700, func(l *api.Layout) *int { return &l.Balises[1].Offset }},
		{"offset on a crossing", 0, 800, func(l *api.Layout) *int { return &l.Balises[2].Offset }},
	} {
		for _, n := range append([]int{c.low - 1, c.low, c.low + 1, c.high - 1, c.high, c.high + 1}, numbers...) {
			want := api.OK
			if n < c.low || n > c.high {
				want = api.ErrArg
			}
			checkAfter(t, fmt.Sprintf("%s %d", c.what, n), want, func(l *api.Layout) { *c.place(l) = n })
		}
	}
}

// P7.1, condition 4: slow and speed of points have bounds that depend on each other.
func TestCheckSlowOfPoints(t *testing.T) {
	for _, speed := range numbers {
		for _, slow := range numbers {
			want := api.ErrArg
			if 100 <= slow && slow <= speed && speed <= 10000 {
				want = api.OK
			}
			checkAfter(t, fmt.Sprintf("slow %d, speed %d", slow, speed), want, func(l *api.Layout) {
				l.Elements[1].Slow, l.Elements[1].Speed = slow, speed
			})
		}
	}
}

// P7.1, condition 4: the kinds, for an element whose ends are not joined.
func TestCheckKinds(t *testing.T) {
	for _, kind := range numbers {
		for _, slow := range []int{0, 100} {
			l := single()
			l.Elements[0].Kind, l.Elements[0].Slow = kind, slow
			want := api.ErrArg
			if (kind == 1 || kind == 3) && slow == 0 || kind == 2 && slow == 100 {
				want = api.OK
			}
			check(t, fmt.Sprintf("kind %d with slow %d", kind, slow), l, want)
		}
	}
}

// P7.1, condition 5: every one of the sections needs an element.
func TestCheckSectionsWithoutElements(t *testing.T) {
	for _, l := range valid() {
		if len(l.Sections) < api.MaxSections {
			for i := range len(l.Sections) + 1 {
				changed := copied(l)
				changed.Sections = slices.Insert(changed.Sections, i, "more")
				for j := range changed.Elements {
					if changed.Elements[j].Section >= i {
						changed.Elements[j].Section++
					}
				}
				check(t, fmt.Sprintf("%s with an empty section %d", l.Name, i), changed, api.ErrArg)
			}
		}
	}
}

// P7.1, conditions 6 and 8: ends of joints and signals exist.
func TestCheckEnds(t *testing.T) {
	l := yard()
	l.Joints, l.Signals = nil, nil
	for _, e := range ends(l) {
		exists := e.El >= 0 && e.El < len(l.Elements) && e.Side >= 0 && e.Side < sidesOf(l.Elements[e.El].Kind)
		other := api.End{El: 5, Side: 1}
		for _, j := range []api.Joint{{A: e, B: other}, {A: other, B: e}} {
			l.Joints, l.Signals = []api.Joint{j}, nil
			want := api.ErrArg
			if exists && e != other {
				want = api.OK
			}
			check(t, fmt.Sprint("the joint ", j), l, want)
		}
		l.Joints, l.Signals = nil, []api.Signal{{Name: "s", At: e}}
		want := api.ErrArg
		if exists {
			want = api.ErrUnsafe
		}
		check(t, fmt.Sprint("a signal at ", e), l, want)
	}
}

// P7.1, condition 6: no end is joined to itself.
func TestCheckJointOfSameEnd(t *testing.T) {
	for _, e := range []api.End{{El: 5, Side: 1}, {El: 0, Side: 0}, {El: 4, Side: 1}} {
		checkAfter(t, fmt.Sprint("joined to itself: ", e), api.ErrArg, func(l *api.Layout) {
			l.Joints = append(l.Joints, api.Joint{A: e, B: e})
		})
	}
	l := single()
	l.Joints = []api.Joint{{A: api.End{El: 0}, B: api.End{El: 0, Side: 1}}}
	check(t, "two ends of an element", l, api.OK)
}

// P7.1, condition 7: no end of a joint is in another one, on whichever side of them.
func TestCheckEndsInTwoJoints(t *testing.T) {
	free := api.End{El: 5, Side: 1}
	for i, j := range yard().Joints {
		for _, more := range []api.Joint{{A: j.A, B: free}, {A: free, B: j.A}, {A: j.B, B: free}, {A: free, B: j.B}, j, {A: j.B, B: j.A}, {A: j.A, B: api.End{El: 1, Side: 2}}} {
			want := api.ErrDuplicate
			if more.A == more.B {
				want = api.ErrArg
			}
			checkAfter(t, fmt.Sprint("joint ", i, " and behind it ", more), want, func(l *api.Layout) { l.Joints = append(l.Joints, more) })
			checkAfter(t, fmt.Sprint("joint ", i, " and before it ", more), want, func(l *api.Layout) { l.Joints = slices.Insert(l.Joints, 0, more) })
		}
	}
	checkAfter(t, "a joint of free ends", api.OK, func(l *api.Layout) {
		l.Joints = append(l.Joints, api.Joint{A: free, B: api.End{El: 0}})
	})
	checkAfter(t, "a joint many times", api.ErrDuplicate, func(l *api.Layout) {
		l.Joints = slices.Repeat(l.Joints, 10000)
	})
}

// P7.1, condition 9: every pair of signals of the yard, one moved to the end of the other.
func TestCheckSignalsAtOneEnd(t *testing.T) {
	for i := range yard().Signals {
		for j := range yard().Signals {
			if i != j {
				checkAfter(t, fmt.Sprint("signals ", i, " and ", j), api.ErrDuplicate, func(l *api.Layout) { l.Signals[i].At = l.Signals[j].At })
			}
		}
	}
	checkAfter(t, "signals at both ends of a joint", api.OK, func(l *api.Layout) {
		l.Signals = append(l.Signals, api.Signal{Name: "o", At: api.End{El: 1}})
	})
	checkAfter(t, "signals at two ends of an element", api.OK, func(l *api.Layout) {
		l.Signals = append(l.Signals, api.Signal{Name: "o", At: api.End{El: 2, Side: 1}})
	})
}

// P7.1, condition 10: a signal at each end of the yard.
func TestCheckSignalsBeforeSections(t *testing.T) {
	l := yard()
	joints := l.Joints
	for _, e := range ends(l) {
		if e.El < 0 || e.El >= len(l.Elements) || e.Side < 0 || e.Side >= sidesOf(l.Elements[e.El].Kind) {
			continue
		}
		want := api.ErrUnsafe
		for _, j := range joints {
			if (j.A == e || j.B == e) && l.Elements[j.A.El].Section != l.Elements[j.B.El].Section {
				want = api.OK
			}
		}
		l.Signals = []api.Signal{{Name: "o", At: e}}
		check(t, fmt.Sprint("a signal at ", e), l, want)
		l.Signals = []api.Signal{{Name: "s", At: api.End{El: 0, Side: 1}}, {Name: "o", At: e}}
		if e == l.Signals[0].At {
			want = api.ErrDuplicate
		}
		check(t, fmt.Sprint("a second signal at ", e), l, want)
	}
	l = single()
	l.Joints = []api.Joint{{A: api.End{El: 0}, B: api.End{El: 0, Side: 1}}}
	l.Signals = []api.Signal{{Name: "o", At: api.End{El: 0}}}
	check(t, "a signal at an element that is joined to itself", l, api.ErrUnsafe)
}

// P7.1, condition 11: the numbers of balises.
func TestCheckIds(t *testing.T) {
	for i := range yard().Balises {
		for _, n := range numbers {
			want := api.OK
			if n < 1 || n > 1<<30 {
				want = api.ErrArg
			}
			checkAfter(t, fmt.Sprintf("balise %d has the id %d", i, n), want, func(l *api.Layout) {
				for j := range l.Balises {
					l.Balises[j].Id = 1000 + j
				}
				l.Balises[i].Id = n
			})
		}
	}
}

// P7.1, condition 12: every pair of balises of the yard.
func TestCheckIdsTwice(t *testing.T) {
	for i := range yard().Balises {
		for j := range yard().Balises {
			if i != j {
				checkAfter(t, fmt.Sprint("balises ", i, " and ", j), api.ErrDuplicate, func(l *api.Layout) { l.Balises[i].Id = l.Balises[j].Id })
			}
		}
	}
	checkAfter(t, "two balises at one place", api.OK, func(l *api.Layout) {
		l.Balises = append(l.Balises, api.Balise{Id: 1, El: 0, Offset: 400})
	})
}

// breach breaks a condition of P7.1, and none before it.
type breach struct {
	condition int
	err       api.Errno
	what      string
	apply     func(l *api.Layout)
}

func addSignal(s api.Signal) func(l *api.Layout) {
	return func(l *api.Layout) { l.Signals = append(l.Signals, s) }
}

func addBalise(b api.Balise) func(l *api.Layout) {
	return func(l *api.Layout) { l.Balises = append(l.Balises, b) }
}

func addJoint(a, b api.End) func(l *api.Layout) {
	return func(l *api.Layout) { l.Joints = append(l.Joints, api.Joint{A: a, B: b}) }
}

// breaches break each condition in several ways, each at another part of the yard, so that any two of them go together.
func breaches() []breach {
	outside, free := api.End{El: 6}, api.End{El: 5, Side: 1}
	return []breach{
		{1, api.ErrLimit, "elements", func(l *api.Layout) { l.Elements = append(l.Elements, make([]api.Element, 27)...) }},
		{1, api.ErrLimit, "sections", func(l *api.Layout) { l.Sections = append(l.Sections, make([]string, 22)...) }},
		{1, api.ErrLimit, "signals", func(l *api.Layout) { l.Signals = append(l.Signals, make([]api.Signal, 18)...) }},
		{1, api.ErrLimit, "balises", func(l *api.Layout) { l.Balises = append(l.Balises, make([]api.Balise, 22)...) }},
		{2, api.ErrName, "name of the layout", func(l *api.Layout) { l.Name = "" }},
		{2, api.ErrName, "name of a section", func(l *api.Layout) { l.Sections[0] = "X" }},
		{2, api.ErrName, "name of an element", func(l *api.Layout) { l.Elements[0].Name = "0" }},
		{2, api.ErrName, "name of a signal", func(l *api.Layout) { l.Signals[0].Name = "-" }},
		{3, api.ErrDuplicate, "sections", func(l *api.Layout) { l.Sections[1] = "z" }},
		{3, api.ErrDuplicate, "elements", func(l *api.Layout) { l.Elements[1].Name = "n" }},
		{3, api.ErrDuplicate, "signals", func(l *api.Layout) { l.Signals[1].Name = "u" }},
		{4, api.ErrArg, "kind", func(l *api.Layout) { l.Elements[5].Kind = 0 }},
		{4, api.ErrArg, "length", func(l *api.Layout) { l.Elements[0].Length = 499 }},
		{4, api.ErrArg, "section", func(l *api.Layout) { l.Elements[3].Section = -1 }},
		{5, api.ErrArg, "section without element", func(l *api.Layout) { l.Sections = append(l.Sections, "w") }},
		{6, api.ErrArg, "end that does not exist", addJoint(outside, free)},
		{6, api.ErrArg, "same ends", addJoint(free, free)},
		{7, api.ErrDuplicate, "end in two joints", addJoint(api.End{El: 0}, api.End{El: 4, Side: 3})},
		{7, api.ErrDuplicate, "same joint", addJoint(api.End{El: 1}, api.End{El: 0, Side: 1})},
		{8, api.ErrArg, "signal nowhere", addSignal(api.Signal{Name: "o1", At: outside})},
		{8, api.ErrArg, "overlap", addSignal(api.Signal{Name: "o2", At: api.End{El: 3, Side: 1}, Overlap: -1})},
		{9, api.ErrDuplicate, "signals at one end", addSignal(api.Signal{Name: "o3", At: api.End{El: 2}})},
		{10, api.ErrUnsafe, "end that is not joined", addSignal(api.Signal{Name: "o4", At: api.End{El: 4, Side: 1}})},
		{10, api.ErrUnsafe, "same section", addSignal(api.Signal{Name: "o5", At: api.End{El: 4, Side: 3}})},
		{11, api.ErrArg, "id", addBalise(api.Balise{Id: 0})},
		{11, api.ErrArg, "element of a balise", addBalise(api.Balise{Id: 20, El: 6})},
		{11, api.ErrArg, "offset", addBalise(api.Balise{Id: 21, El: 0, Offset: 1001})},
		{12, api.ErrDuplicate, "ids", addBalise(api.Balise{Id: 7, El: 1})},
	}
}

// P7.1: of two conditions, the first one of the list decides, whichever part of the layout comes first.
func TestCheckOrder(t *testing.T) {
	for _, a := range breaches() {
		checkAfter(t, a.what, a.err, a.apply)
		for _, b := range breaches() {
			want := a.err
			if b.condition < a.condition {
				want = b.err
			}
			checkAfter(t, fmt.Sprintf("%d %s, %d %s", a.condition, a.what, b.condition, b.what), want, func(l *api.Layout) {
				a.apply(l)
				if b.what != a.what || b.condition != a.condition {
					b.apply(l)
				}
			})
		}
	}
}

// P7.1: all conditions from each one on are broken.
func TestCheckOrderOfAll(t *testing.T) {
	for condition := 1; condition <= 12; condition++ {
		l, want := yard(), api.OK
		for _, b := range slices.Backward(breaches()) {
			if b.condition >= condition {
				b.apply(&l)
				want = b.err
			}
		}
		check(t, fmt.Sprint("from the condition ", condition, " on"), l, want)
	}
}

func checkJoined(t *testing.T, l api.Layout, e, want api.End, ok bool) {
	t.Helper()
	if got, gotOk := Joined(l, e); got != want || gotOk != ok {
		t.Errorf("%s: Joined(%v) = %v, %t, want %v, %t", l.Name, e, got, gotOk, want, ok)
	}
}

// P7.2, example 1
func TestJoinedOfExample(t *testing.T) {
	l := line()
	checkJoined(t, l, api.End{El: 0, Side: 1}, api.End{El: 1, Side: 0}, true)
	checkJoined(t, l, api.End{El: 1, Side: 0}, api.End{El: 0, Side: 1}, true)
	checkJoined(t, l, api.End{El: 0, Side: 0}, api.End{}, false)
	checkJoined(t, l, api.End{El: 2, Side: 1}, api.End{}, false)
}

// firstOther is the other end of the first joint with an end, as P7.2 says.
func firstOther(l api.Layout, e api.End) (api.End, bool) {
	for _, j := range l.Joints {
		if j.A == e {
			return j.B, true
		}
		if j.B == e {
			return j.A, true
		}
	}
	return api.End{}, false
}

// P7.2: every end of valid layouts, and ends that do not exist.
func TestJoined(t *testing.T) {
	for _, l := range append(valid(), api.Layout{}) {
		for _, e := range ends(l) {
			other, ok := firstOther(l, e)
			checkJoined(t, l, e, other, ok)
		}
	}
}

// P7.2: an end in several joints, in each of their places.
func TestJoinedByFirstJoint(t *testing.T) {
	e, f, g := api.End{El: 0, Side: 1}, api.End{El: 1}, api.End{El: 2}
	for _, c := range []struct {
		joints []api.Joint
		want   api.End
	}{
		{[]api.Joint{{A: e, B: f}, {A: e, B: g}}, f},
		{[]api.Joint{{A: e, B: f}, {A: g, B: e}}, f},
		{[]api.Joint{{A: f, B: e}, {A: e, B: g}}, f},
		{[]api.Joint{{A: f, B: e}, {A: g, B: e}}, f},
		{[]api.Joint{{A: f, B: g}, {A: g, B: e}, {A: e, B: f}}, g},
		{[]api.Joint{{A: e, B: e}, {A: e, B: f}}, e},
		{[]api.Joint{{A: e, B: f}, {A: e, B: e}}, f},
		{[]api.Joint{{A: e, B: e}}, e},
	} {
		l := line()
		l.Joints = c.joints
		checkJoined(t, l, e, c.want, true)
		for _, other := range []api.End{f, g} {
			want, ok := firstOther(l, other)
			checkJoined(t, l, other, want, ok)
		}
	}
}

// P7.2: joints of ends that do not exist, in a layout with and without elements.
func TestJoinedOfEndsThatDoNotExist(t *testing.T) {
	outside := []api.End{{El: -1}, {El: 3}, {El: 0, Side: -1}, {El: 0, Side: 2}, {El: math.MinInt, Side: math.MaxInt}, {El: math.MaxInt, Side: math.MinInt}}
	for _, l := range []api.Layout{line(), {}} {
		l.Joints = nil
		for _, e := range outside {
			l.Joints = append(l.Joints, api.Joint{A: e, B: api.End{El: 100 + len(l.Joints)}})
		}
		for i, e := range outside {
			checkJoined(t, l, e, api.End{El: 100 + i}, true)
			checkJoined(t, l, api.End{El: 100 + i}, e, true)
		}
		checkJoined(t, l, api.End{El: 99}, api.End{}, false)
	}
}

// P7.2: each end but the first and the last one is in two of many joints.
func TestJoinedOfManyJoints(t *testing.T) {
	l := api.Layout{}
	for i := range 20000 {
		l.Joints = append(l.Joints, api.Joint{A: api.End{El: i}, B: api.End{El: i + 1}})
	}
	checkJoined(t, l, api.End{El: 10000}, api.End{El: 9999}, true)
	checkJoined(t, l, api.End{El: 0}, api.End{El: 1}, true)
	checkJoined(t, l, api.End{El: 20001}, api.End{}, false)
	check(t, "many joints", l, api.ErrLimit)
}

func checkSignal(t *testing.T, l api.Layout, e api.End, want int) {
	t.Helper()
	if got := Signal(l, e); got != want {
		t.Errorf("%s: Signal(%v) = %d, want %d", l.Name, e, got, want)
	}
}

// P7.3
func TestSignal(t *testing.T) {
	checkSignal(t, line(), api.End{El: 0, Side: 1}, 0) // example 1
	checkSignal(t, line(), api.End{El: 1, Side: 1}, 1)
	checkSignal(t, line(), api.End{El: 1, Side: 0}, -1)
	for _, l := range append(valid(), api.Layout{}) {
		for _, e := range ends(l) {
			want := -1
			for i, s := range l.Signals {
				if s.At == e {
					want = i
				}
			}
			checkSignal(t, l, e, want)
		}
	}
}

// P7.3: several signals at an end, and signals at ends that do not exist.
func TestSignalOfLayoutsThatAreNotValid(t *testing.T) {
	l := line()
	for _, e := range []api.End{{El: 1, Side: 1}, {El: -1}, {El: math.MaxInt, Side: math.MinInt}, {El: -1}, {El: 0, Side: 9}} {
		l.Signals = append(l.Signals, api.Signal{At: e})
	}
	checkSignal(t, l, api.End{El: 1, Side: 1}, 1)
	checkSignal(t, l, api.End{El: -1}, 3)
	checkSignal(t, l, api.End{El: math.MaxInt, Side: math.MinInt}, 4)
	checkSignal(t, l, api.End{El: 0, Side: 9}, 6)
	checkSignal(t, l, api.End{El: -1, Side: 1}, -1)
	l.Elements = nil
	checkSignal(t, l, api.End{El: 0, Side: 1}, 0)
	checkSignal(t, api.Layout{Signals: make([]api.Signal, 3)}, api.End{}, 0)
}

func checkInts(t *testing.T, what string, got, want []int) {
	t.Helper()
	if !slices.Equal(got, want) {
		t.Errorf("%s = %v, want %v", what, got, want)
	}
}

// P7.4
func TestPoints(t *testing.T) {
	checkInts(t, "points of the line", Points(line()), nil)
	checkInts(t, "points of the yard", Points(yard()), []int{1})
	checkInts(t, "points of nothing", Points(api.Layout{}), nil)
	l := full()
	for _, i := range []int{31, 0, 17, 16} {
		l.Elements[i].Kind = api.ElPoint
	}
	checkInts(t, "points of the greatest layout", Points(l), []int{0, 16, 17, 31})
	l = api.Layout{}
	for _, kind := range append([]int{2}, numbers...) {
		l.Elements = append(l.Elements, api.Element{Kind: kind, Slow: 100})
	}
	checkInts(t, "points of all kinds", Points(l), []int{0, slices.Index(numbers, 2) + 1})
}

// P7.4
func TestMembers(t *testing.T) {
	l := yard()
	checkInts(t, "members of x", Members(l, 0), []int{0})
	checkInts(t, "members of y", Members(l, 1), []int{1, 4, 5})
	checkInts(t, "members of z", Members(l, 2), []int{2, 3})
	checkInts(t, "members of section 7", Members(full(), 7), []int{7, 31})
	for _, section := range []int{math.MinInt, -2, -1, 3, 4, 1 << 32, math.MaxInt} {
		checkInts(t, fmt.Sprint("members of ", section), Members(l, section), nil)
	}
}

// P7.4: elements may be said to be in sections that do not exist, and sections may be empty.
func TestMembersOfLayoutsThatAreNotValid(t *testing.T) {
	l := yard()
	for _, section := range []int{math.MinInt, -1, 3, 4, math.MaxInt} {
		l.Elements[0].Section, l.Elements[4].Section = section, section
		checkInts(t, fmt.Sprint("members of ", section), Members(l, section), nil)
		checkInts(t, "members of x", Members(l, 0), nil)
		checkInts(t, "members of y", Members(l, 1), []int{1, 5})
	}
	checkInts(t, "members without sections", Members(api.Layout{Elements: make([]api.Element, 2)}, 0), nil)
	checkInts(t, "members of many", Members(api.Layout{Elements: make([]api.Element, 300), Sections: make([]string, 99)}, 0), indexes(300))
	checkInts(t, "members of none", Members(api.Layout{Sections: make([]string, 99)}, 98), nil)
}

func checkInt(t *testing.T, what string, got, want int) {
	t.Helper()
	if got != want {
		t.Errorf("%s = %d, want %d", what, got, want)
	}
}

// P7.5
func TestElement(t *testing.T) {
	l := yard()
	for i, name := range []string{"a", "p", "n", "r", "q", "e"} {
		checkInt(t, "element "+name, Element(l, name), i)
	}
	for _, name := range []string{"", "x", "s", "yard", "A", "aa", "a ", "\x00"} {
		checkInt(t, fmt.Sprintf("element %q", name), Element(l, name), -1)
	}
	l.Elements[4].Name, l.Elements[2].Name, l.Elements[0].Name, l.Elements[3].Name = "same", "same", "", "No name!"
	checkInt(t, "first element", Element(l, "same"), 2)
	checkInt(t, "element without name", Element(l, ""), 0)
	checkInt(t, "element with another name", Element(l, "No name!"), 3)
	checkInt(t, "element of nothing", Element(api.Layout{}, "a"), -1)
}

// P7.5
func TestSection(t *testing.T) {
	l := yard()
	for el, section := range []int{0, 1, 2, 2, 1, 1} {
		checkInt(t, fmt.Sprint("section of ", el), Section(l, el), section)
	}
	for _, el := range []int{math.MinInt, -2, -1, 6, 7, 1 << 32, math.MaxInt} {
		checkInt(t, fmt.Sprint("section of ", el), Section(l, el), -1)
	}
	for _, section := range numbers {
		l.Elements[3].Section = section
		checkInt(t, fmt.Sprint("section ", section), Section(l, 3), section)
	}
	checkInt(t, "section of nothing", Section(api.Layout{}, 0), -1)
}

// P7.6
func TestJoinedTwice(t *testing.T) {
	for _, l := range valid() {
		for _, e := range ends(l) {
			other, ok := Joined(l, e)
			if !ok {
				continue
			}
			if other == e {
				t.Errorf("%s: %v is joined to itself", l.Name, e)
			}
			checkJoined(t, l, other, e, true)
			if Signal(l, e) >= 0 && Section(l, other.El) == Section(l, e.El) {
				t.Errorf("%s: the section at the signal of %v and behind it is %d", l.Name, e, Section(l, e.El))
			}
		}
	}
}

// P7.7
func TestElementsHaveOneSection(t *testing.T) {
	for _, l := range valid() {
		var members []int
		for section := range l.Sections {
			for _, el := range Members(l, section) {
				members = append(members, el)
				checkInt(t, fmt.Sprint("section of ", el), Section(l, el), section)
			}
		}
		slices.Sort(members)
		checkInts(t, "members of all sections of "+l.Name, members, indexes(len(l.Elements)))
		for el, e := range l.Elements {
			checkInt(t, "element "+e.Name, Element(l, e.Name), el)
		}
	}
}

// P7.8, and the opposite for joints with signals.
func TestCheckWithoutPart(t *testing.T) {
	for _, l := range valid() {
		for i, b := range l.Balises {
			changed := copied(l)
			changed.Balises = slices.Delete(changed.Balises, i, i+1)
			check(t, fmt.Sprint(l.Name, " without the balise ", b.Id), changed, api.OK)
		}
		for i, s := range l.Signals {
			changed := copied(l)
			changed.Signals = slices.Delete(changed.Signals, i, i+1)
			check(t, fmt.Sprint(l.Name, " without the signal ", s.Name), changed, api.OK)
		}
		for i, j := range l.Joints {
			changed := copied(l)
			changed.Joints = slices.Delete(changed.Joints, i, i+1)
			want := api.OK
			if Signal(l, j.A) >= 0 || Signal(l, j.B) >= 0 {
				want = api.ErrUnsafe
			}
			check(t, fmt.Sprint(l.Name, " without the joint ", j), changed, want)
		}
	}
}

// copied is a layout that shares nothing with another one.
func copied(l api.Layout) api.Layout {
	l.Sections = slices.Clone(l.Sections)
	l.Elements = slices.Clone(l.Elements)
	l.Joints = slices.Clone(l.Joints)
	l.Signals = slices.Clone(l.Signals)
	l.Balises = slices.Clone(l.Balises)
	return l
}

// Rule 0.4: arguments stay as they are, also those that are not valid and those whose lists have room behind them; results are new memory.
func TestLayoutsAreNotChanged(t *testing.T) {
	list := append(valid(), api.Layout{})
	for _, b := range breaches() {
		l := yard()
		b.apply(&l)
		list = append(list, l)
	}
	for _, l := range list {
		whole := copied(l)
		l.Sections = append(l.Sections, "o")[:len(l.Sections)]
		l.Elements = append(l.Elements, api.Element{Name: "o"})[:len(l.Elements)]
		Check(l)
		for i := range 3 {
			Joined(l, api.End{El: i, Side: 1})
			Signal(l, api.End{El: i, Side: 1})
			clear(Members(l, i))
			Section(l, i)
		}
		clear(Points(l))
		Element(l, "a")
		if len(l.Sections) > 0 && l.Sections[:len(l.Sections)+1][len(l.Sections)] != "o" || len(l.Elements) > 0 && l.Elements[:len(l.Elements)+1][len(l.Elements)].Name != "o" {
			t.Errorf("%s: what is behind the lists is changed", l.Name)
		}
		if fmt.Sprint(l) != fmt.Sprint(whole) || len(l.Elements) > 0 && !reflect.DeepEqual(l.Elements, whole.Elements) {
			t.Errorf("%s is changed: %v, was %v", l.Name, l, whole)
		}
	}
}

// Rule 0.1: all functions end for every number in every place of a layout.
func TestAllFunctionsEnd(t *testing.T) {
	for _, n := range numbers {
		e := api.End{El: n, Side: n}
		l := api.Layout{
			Sections: make([]string, 3),
			Elements: []api.Element{{Kind: n, Length: n, Grade: n, Speed: n, Slow: n, Section: n}},
			Joints:   []api.Joint{{A: e, B: e}, {A: e}, {B: e}},
			Signals:  []api.Signal{{At: e, Overlap: n}},
			Balises:  []api.Balise{{Id: n, El: n, Offset: n}},
		}
		check(t, fmt.Sprint("a layout of ", n), l, api.ErrName)
		checkJoined(t, l, e, e, true)
		checkSignal(t, l, e, 0)
		checkInt(t, "section", Section(l, 0), n)
		Points(l)
		Members(l, n)
		Section(l, n)
	}
}
