package idset

import (
	"math"
	"slices"
	"testing"
)

// edges are numbers at the ends of the range and around 0.
var edges = []int{math.MinInt, math.MinInt + 1, -2, -1, 0, 1, 2, math.MaxInt - 1, math.MaxInt}

// samples are lists in any order, with and without repetitions.
var samples = [][]int{
	nil, {}, {0}, {0, 0, 0}, {-1}, {1, 2, 3}, {3, 2, 1}, {2, 1, 2}, {5, 1, 5, -3, 2}, {2, 9, 1},
	{math.MaxInt, math.MinInt}, {math.MinInt, math.MaxInt, math.MinInt}, {math.MaxInt, 0, -1, math.MinInt, 0},
	{1, 3, 5, 7}, {2, 4, 6, 8}, {7, 7, 1, 1, 3}, {-5, -4, -3, -2, -1}, {100, -100, 100},
}

// smallLists are all lists of at most length numbers from 0 to numbers - 1.
func smallLists(numbers, length int) [][]int {
	lists := [][]int{nil}
	for from := 0; length > 0; length-- {
		shorter := lists[from:]
		from = len(lists)
		for _, l := range shorter {
			for n := range numbers {
				lists = append(lists, append(slices.Clone(l), n))
			}
		}
	}
	return lists
}

// occurs does not use the package slices, so that it shares nothing with what it tests.
func occurs(l []int, n int) bool {
	for _, m := range l {
		if m == n {
			return true
		}
	}
	return false
}

func isSet(l []int) bool {
	for i := 1; i < len(l); i++ {
		if l[i-1] >= l[i] {
			return false
		}
	}
	return true
}

// operation is one of the functions of two lists, with the condition for a number to be in its result.
type operation struct {
	name    string
	combine func(a, b []int) []int
	wanted  func(inA, inB bool) bool
}

func operations() []operation {
	return []operation{
		{"Union", Union, func(inA, inB bool) bool { return inA || inB }},
		{"Common", Common, func(inA, inB bool) bool { return inA && inB }},
		{"Minus", Minus, func(inA, inB bool) bool { return inA && !inB }},
	}
}

// checkOperation compares the membership of each number with the one that is wanted.
func checkOperation(t *testing.T, o operation, a, b []int, numbers []int) {
	t.Helper()
	got := o.combine(a, b)
	if !isSet(got) {
		t.Errorf("%s(%v, %v) = %v is no set", o.name, a, b, got)
	}
	for _, n := range numbers {
		if occurs(got, n) != o.wanted(occurs(a, n), occurs(b, n)) {
			t.Errorf("%s(%v, %v) = %v, which is wrong about %d", o.name, a, b, got, n)
		}
	}
	for _, n := range got {
		if !occurs(a, n) && !occurs(b, n) {
			t.Errorf("%s(%v, %v) = %v, but %d is in neither list", o.name, a, b, got, n)
		}
	}
}

// P2.1
func TestMake(t *testing.T) {
	for _, c := range []struct{ l, want []int }{
		{nil, nil}, {[]int{}, nil}, {[]int{4}, []int{4}}, {[]int{2, 1, 2}, []int{1, 2}}, {[]int{1, 2, 3}, []int{1, 2, 3}},
		{[]int{3, 2, 1}, []int{1, 2, 3}}, {[]int{0, 0, 0, 0}, []int{0}}, {[]int{5, 1, 5, -3, 2}, []int{-3, 1, 2, 5}},
		{[]int{1, 2, 1, 2, 1}, []int{1, 2}}, {[]int{-1, 1, -2, 2, 0}, []int{-2, -1, 0, 1, 2}},
		{[]int{math.MaxInt, math.MinInt, 0, math.MaxInt, math.MinInt}, []int{math.MinInt, 0, math.MaxInt}},
	} {
		if got := Make(c.l); !slices.Equal(got, c.want) {
			t.Errorf("Make(%v) = %v, want %v", c.l, got, c.want)
		}
	}
}

// P2.1: every short list.
func TestMakeOfSmallLists(t *testing.T) {
	for _, l := range smallLists(4, 6) {
		got := Make(l)
		if !isSet(got) {
			t.Errorf("Make(%v) = %v is no set", l, got)
		}
		for n := -1; n <= 4; n++ {
			if occurs(got, n) != occurs(l, n) {
				t.Errorf("Make(%v) = %v, which is wrong about %d", l, got, n)
			}
		}
	}
}

// P2.1: a list that is long, without order, and full of repetitions.
func TestMakeOfLongList(t *testing.T) {
	var l []int
	for i := range 100000 {
		l = append(l, i*7919%5003-2000)
	}
	got := Make(l)
	if len(got) != 5003 {
		t.Fatalf("%d elements, want 5003", len(got))
	}
	for i, n := range got {
		if n != i-2000 {
			t.Fatalf("the element %d is %d, want %d", i, n, i-2000)
		}
	}
}

// P2.2
func TestHas(t *testing.T) {
	for _, c := range []struct {
		s    []int
		n    int
		want bool
	}{
		{nil, 0, false}, {[]int{}, 0, false}, {[]int{0}, 0, true}, {[]int{0}, 1, false}, {[]int{1, 3, 5}, 3, true}, {[]int{1, 3, 5}, 4, false},
		{[]int{1, 3, 5}, 1, true}, {[]int{1, 3, 5}, 5, true}, {[]int{1, 3, 5}, 0, false}, {[]int{1, 3, 5}, 6, false},
		{[]int{5, 4, 3, 2, 1}, 5, true}, {[]int{5, 4, 3, 2, 1}, 1, true}, {[]int{5, 4, 3, 2, 1}, 2, true}, {[]int{9, 1, 9, 0}, 9, true},
		{[]int{9, 1, 9, 0}, 0, true}, {[]int{9, 1, 9, 0}, -1, false}, {[]int{math.MaxInt, math.MinInt}, math.MinInt, true},
		{[]int{math.MaxInt, math.MinInt}, math.MaxInt, true}, {[]int{math.MaxInt}, math.MinInt, false}, {[]int{math.MinInt}, math.MaxInt, false},
	} {
		if got := Has(c.s, c.n); got != c.want {
			t.Errorf("Has(%v, %d) = %t", c.s, c.n, got)
		}
	}
}

// P2.2: every short list, most of which are no sets.
func TestHasInSmallLists(t *testing.T) {
	for _, s := range smallLists(4, 5) {
		for n := -1; n <= 4; n++ {
			if got := Has(s, n); got != occurs(s, n) {
				t.Errorf("Has(%v, %d) = %t", s, n, got)
			}
		}
	}
}

// P2.2
func TestWithin(t *testing.T) {
	for _, c := range []struct {
		a, b []int
		want bool
	}{
		{nil, nil, true}, {nil, []int{1}, true}, {[]int{}, []int{}, true}, {[]int{1}, nil, false}, {[]int{1}, []int{}, false},
		{[]int{1}, []int{1}, true}, {[]int{1}, []int{2}, false}, {[]int{1, 1, 2}, []int{5, 1, 5, -3, 2}, true},
		{[]int{2, 9, 1}, []int{5, 1, 5, -3, 2}, false}, {[]int{1, 2, 3}, []int{3, 2, 1}, true}, {[]int{3, 2, 1}, []int{1, 2}, false},
		{[]int{4, 4, 4, 4}, []int{4}, true}, {[]int{4}, []int{4, 4, 4, 4}, true}, {[]int{0, 2}, []int{0, 1}, false},
		{[]int{math.MinInt, math.MaxInt}, []int{math.MaxInt, 0, math.MinInt}, true}, {[]int{math.MinInt}, []int{math.MaxInt}, false},
	} {
		if got := Within(c.a, c.b); got != c.want {
			t.Errorf("Within(%v, %v) = %t", c.a, c.b, got)
		}
	}
}

// P2.2: every pair of short lists.
func TestWithinOfSmallLists(t *testing.T) {
	lists := smallLists(3, 4)
	for _, a := range lists {
		for _, b := range lists {
			want := true
			for _, n := range a {
				want = want && occurs(b, n)
			}
			if got := Within(a, b); got != want {
				t.Errorf("Within(%v, %v) = %t", a, b, got)
			}
		}
	}
}

// P2.3
func TestOperations(t *testing.T) {
	for _, c := range []struct{ a, b, union, common, minus []int }{
		{nil, nil, nil, nil, nil},
		{[]int{}, []int{}, nil, nil, nil},
		{nil, []int{2, 9, 1}, []int{1, 2, 9}, nil, nil},
		{[]int{2, 9, 1}, nil, []int{1, 2, 9}, nil, []int{1, 2, 9}},
		{[]int{3, 1}, []int{2, 3}, []int{1, 2, 3}, []int{3}, []int{1}},
		{[]int{2, 3}, []int{3, 1}, []int{1, 2, 3}, []int{3}, []int{2}},
		{[]int{5, 1, 5, -3, 2}, []int{2, 9, 1}, []int{-3, 1, 2, 5, 9}, []int{1, 2}, []int{-3, 5}},
		{[]int{2, 9, 1}, []int{5, 1, 5, -3, 2}, []int{-3, 1, 2, 5, 9}, []int{1, 2}, []int{9}},
		{[]int{7, 7, 7}, []int{7}, []int{7}, []int{7}, nil},
		{[]int{1, 3, 5}, []int{6, 4, 2}, []int{1, 2, 3, 4, 5, 6}, nil, []int{1, 3, 5}},
		{[]int{1, 2}, []int{8, 9}, []int{1, 2, 8, 9}, nil, []int{1, 2}},
		{[]int{8, 9}, []int{1, 2}, []int{1, 2, 8, 9}, nil, []int{8, 9}},
		{[]int{math.MaxInt, math.MinInt}, []int{0, math.MinInt}, []int{math.MinInt, 0, math.MaxInt}, []int{math.MinInt}, []int{math.MaxInt}},
	} {
		if got := Union(c.a, c.b); !slices.Equal(got, c.union) {
			t.Errorf("Union(%v, %v) = %v, want %v", c.a, c.b, got, c.union)
		}
		if got := Common(c.a, c.b); !slices.Equal(got, c.common) {
			t.Errorf("Common(%v, %v) = %v, want %v", c.a, c.b, got, c.common)
		}
		if got := Minus(c.a, c.b); !slices.Equal(got, c.minus) {
			t.Errorf("Minus(%v, %v) = %v, want %v", c.a, c.b, got, c.minus)
		}
	}
}

// P2.3, P2.4: every pair of short lists, and pairs of the samples.
func TestMembership(t *testing.T) {
	lists := smallLists(3, 4)
	for _, o := range operations() {
		for _, a := range lists {
			for _, b := range lists {
				checkOperation(t, o, a, b, []int{-1, 0, 1, 2, 3})
			}
		}
		for _, a := range samples {
			for _, b := range samples {
				checkOperation(t, o, a, b, slices.Concat(edges, a, b))
			}
		}
	}
}

// P2.3: long lists, of the multiples of two numbers.
func TestOperationsOfLongLists(t *testing.T) {
	const limit = 30000
	var twos, threes, union, common, minus []int
	for n := limit - 1; n >= 0; n-- {
		two, three := n%2 == 0, n%3 == 0
		for _, c := range []struct {
			l  *[]int
			in bool
		}{{&twos, two}, {&threes, three}, {&union, two || three}, {&common, two && three}, {&minus, two && !three}} {
			if c.in {
				*c.l = append(*c.l, n)
			}
		}
	}
	slices.Reverse(union)
	slices.Reverse(common)
	slices.Reverse(minus)
	if !slices.Equal(Union(twos, threes), union) || !slices.Equal(Common(twos, threes), common) || !slices.Equal(Minus(twos, threes), minus) {
		t.Error("an operation on long lists is wrong")
	}
}

// P2.4: order and repetitions in the arguments have no effect.
func TestOrderAndRepetitions(t *testing.T) {
	disordered := func(l []int) []int {
		turned := slices.Concat(l, l[:len(l)/2])
		slices.Reverse(turned)
		return turned
	}
	for _, a := range samples {
		if !slices.Equal(Make(a), Make(disordered(a))) {
			t.Errorf("Make(%v) depends on the order", a)
		}
		for _, b := range samples {
			for _, o := range operations() {
				if !slices.Equal(o.combine(a, b), o.combine(disordered(a), disordered(b))) {
					t.Errorf("%s(%v, %v) depends on the order", o.name, a, b)
				}
			}
			if Within(a, b) != Within(disordered(a), disordered(b)) {
				t.Errorf("Within(%v, %v) depends on the order", a, b)
			}
		}
		for _, n := range edges {
			if Has(a, n) != Has(disordered(a), n) {
				t.Errorf("Has(%v, %d) depends on the order", a, n)
			}
		}
	}
}

// withRoom is a list with room behind it, in which an append to the list would be seen.
func withRoom(l []int) (list, whole []int) {
	whole = append(slices.Clone(l), 77, 77, 77, 77)
	return whole[:len(l)], whole
}

// checkKept calls a function, overwrites its result, and looks whether that or the call changed an argument.
func checkKept(t *testing.T, name string, a, b []int, call func(a, b []int) []int) {
	t.Helper()
	x, wholeX := withRoom(a)
	y, wholeY := withRoom(b)
	beforeX, beforeY := slices.Clone(wholeX), slices.Clone(wholeY)
	result := call(x, y)
	for i := range result {
		result[i] = 99
	}
	_ = append(result, 99)
	if !slices.Equal(wholeX, beforeX) || !slices.Equal(wholeY, beforeY) {
		t.Errorf("%s(%v, %v) changed its arguments to %v and %v", name, a, b, wholeX, wholeY)
	}
}

// General rule 0.4: the arguments are not changed, and results are new memory.
func TestArgumentsAreKept(t *testing.T) {
	for _, a := range samples {
		for _, b := range samples {
			for _, o := range operations() {
				checkKept(t, o.name, a, b, o.combine)
			}
			checkKept(t, "Make", a, b, func(a, b []int) []int { return Make(a) })
			checkKept(t, "Has", a, b, func(a, b []int) []int { Has(a, 1); return nil })
			checkKept(t, "Within", a, b, func(a, b []int) []int { Within(a, b); return nil })
		}
	}
}

// General rule 0.4: one list may be both arguments.
func TestSameListTwice(t *testing.T) {
	for _, l := range samples {
		set := Make(l)
		if !slices.Equal(Union(l, l), set) || !slices.Equal(Common(l, l), set) || len(Minus(l, l)) != 0 || !Within(l, l) {
			t.Errorf("an operation on %v and itself is wrong", l)
		}
	}
}
