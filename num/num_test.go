package num

import (
	"math"
	"math/big"
	"math/bits"
	"slices"
	"testing"

	"signalling/api"
)

// edges are numbers at which rounding, signs or the range of int change something.
var edges = []int{
	math.MinInt, math.MinInt + 1, math.MinInt + 2, math.MinInt / 2, -1 << 32, -1000, -7, -6, -3, -2, -1,
	0, 1, 2, 3, 6, 7, 1000, 1<<32 - 1, 1 << 32, math.MaxInt / 2, math.MaxInt - 1, math.MaxInt,
}

type division struct {
	a, b, want int
	e          api.Errno
}

func checkDivisions(t *testing.T, name string, divide func(a, b int) (int, api.Errno), list []division) {
	t.Helper()
	for _, c := range list {
		if n, e := divide(c.a, c.b); n != c.want || e != c.e {
			t.Errorf("%s(%d, %d) = %d, %d, want %d, %d", name, c.a, c.b, n, e, c.want, c.e)
		}
	}
}

// exactFloor divides without a range, so that it does not share the mistakes of a division of ints.
func exactFloor(a, b int) *big.Int {
	q, r := new(big.Int).QuoRem(big.NewInt(int64(a)), big.NewInt(int64(b)), new(big.Int))
	if r.Sign() != 0 && (a < 0) != (b < 0) {
		q.Sub(q, big.NewInt(1))
	}
	return q
}

// P1.1
func TestFloor(t *testing.T) {
	checkDivisions(t, "Floor", Floor, []division{
		{7, 2, 3, api.OK}, {-7, 2, -4, api.OK}, {7, -2, -4, api.OK}, {-7, -2, 3, api.OK},
		{6, 3, 2, api.OK}, {-6, 3, -2, api.OK}, {6, -3, -2, api.OK}, {-6, -3, 2, api.OK},
		{0, 5, 0, api.OK}, {0, -5, 0, api.OK}, {1, 3, 0, api.OK}, {-1, 3, -1, api.OK}, {1, -3, -1, api.OK}, {-1, -3, 0, api.OK},
		{math.MaxInt, -1, -math.MaxInt, api.OK}, {math.MinInt, 1, math.MinInt, api.OK}, {math.MinInt + 1, -1, math.MaxInt, api.OK},
		{math.MinInt, math.MaxInt, -2, api.OK}, {math.MaxInt, math.MinInt, -1, api.OK}, {math.MinInt, math.MinInt, 1, api.OK},
		{math.MinInt, 2, math.MinInt / 2, api.OK}, {math.MaxInt, -2, math.MinInt / 2, api.OK}, {-1, math.MinInt, 0, api.OK},
	})
}

// P1.1: the errors, with 0 beside them.
func TestFloorErrors(t *testing.T) {
	checkDivisions(t, "Floor", Floor, []division{
		{1, 0, 0, api.ErrArg}, {0, 0, 0, api.ErrArg}, {-1, 0, 0, api.ErrArg},
		{math.MinInt, 0, 0, api.ErrArg}, {math.MaxInt, 0, 0, api.ErrArg},
		{math.MinInt, -1, 0, api.ErrOverflow},
	})
}

// P1.1: against numbers without a range.
func TestFloorExact(t *testing.T) {
	for _, a := range edges {
		for _, b := range edges {
			if b == 0 {
				continue
			}
			want := exactFloor(a, b)
			n, e := Floor(a, b)
			if !want.IsInt64() {
				if n != 0 || e != api.ErrOverflow {
					t.Errorf("Floor(%d, %d) = %d, %d, want ErrOverflow", a, b, n, e)
				}
			} else if int64(n) != want.Int64() || e != api.OK {
				t.Errorf("Floor(%d, %d) = %d, %d, want %d", a, b, n, e, want)
			}
		}
	}
}

// P1.2
func TestCeil(t *testing.T) {
	checkDivisions(t, "Ceil", Ceil, []division{
		{7, 2, 4, api.OK}, {-7, 2, -3, api.OK}, {7, -2, -3, api.OK}, {-7, -2, 4, api.OK},
		{6, 3, 2, api.OK}, {-6, 3, -2, api.OK}, {6, -3, -2, api.OK}, {-6, -3, 2, api.OK},
		{0, 5, 0, api.OK}, {0, -5, 0, api.OK}, {1, 3, 1, api.OK}, {-1, 3, 0, api.OK}, {1, -3, 0, api.OK}, {-1, -3, 1, api.OK},
		{math.MaxInt, -1, -math.MaxInt, api.OK}, {math.MinInt, 1, math.MinInt, api.OK}, {math.MinInt + 1, -1, math.MaxInt, api.OK},
		{math.MinInt, math.MaxInt, -1, api.OK}, {math.MaxInt, math.MinInt, 0, api.OK}, {math.MinInt, math.MinInt, 1, api.OK},
		{math.MaxInt, 2, math.MaxInt/2 + 1, api.OK}, {1, math.MaxInt, 1, api.OK}, {-1, math.MinInt, 1, api.OK},
	})
}

// P1.2: the errors are those of Floor, with 0 beside them.
func TestCeilErrors(t *testing.T) {
	checkDivisions(t, "Ceil", Ceil, []division{
		{1, 0, 0, api.ErrArg}, {0, 0, 0, api.ErrArg}, {-1, 0, 0, api.ErrArg},
		{math.MinInt, 0, 0, api.ErrArg}, {math.MaxInt, 0, 0, api.ErrArg},
		{math.MinInt, -1, 0, api.ErrOverflow},
	})
}

// P1.2: the least integer that is not less than a quotient is minus the greatest one that is not greater than its opposite.
func TestCeilExact(t *testing.T) {
	for _, a := range edges {
		for _, b := range edges {
			if b == 0 || a == math.MinInt {
				continue
			}
			want := new(big.Int).Neg(exactFloor(-a, b))
			if n, e := Ceil(a, b); int64(n) != want.Int64() || e != api.OK {
				t.Errorf("Ceil(%d, %d) = %d, %d, want %d", a, b, n, e, want)
			}
		}
	}
}

// P1.3
func TestRoot(t *testing.T) {
	for _, c := range [][2]int{
		{0, 0}, {1, 1}, {2, 1}, {3, 1}, {4, 2}, {8, 2}, {9, 3}, {99, 9}, {100, 10}, {101, 10},
		{999999, 999}, {1000000, 1000}, {1 << 62, 1 << 31}, {1<<62 - 1, 1<<31 - 1},
		{999999999999999999, 999999999}, {1000000000000000000, 1000000000},
		{3037000499 * 3037000499, 3037000499}, {3037000499*3037000499 - 1, 3037000498},
		{math.MaxInt - 1, 3037000499}, {math.MaxInt, 3037000499},
	} {
		if r := Root(c[0]); r != c[1] {
			t.Errorf("Root(%d) = %d, want %d", c[0], r, c[1])
		}
	}
}

// P1.3: numbers without a root.
func TestRootOfNegative(t *testing.T) {
	for _, n := range []int{-1, -4, -100, -1000000000, -1000000000000000000, math.MinInt + 1, math.MinInt} {
		if r := Root(n); r != 0 {
			t.Errorf("Root(%d) = %d, want 0", n, r)
		}
	}
}

// P1.4
func TestClamp(t *testing.T) {
	for _, c := range [][4]int{
		{5, 1, 3, 3}, {0, 1, 3, 1}, {2, 1, 3, 2}, {1, 1, 3, 1}, {3, 1, 3, 3}, {2, 2, 2, 2}, {7, 2, 2, 2},
		{-5, -3, -1, -3}, {0, -3, -1, -1}, {-2, -3, -1, -2},
		{math.MaxInt, math.MinInt, math.MaxInt, math.MaxInt}, {math.MinInt, math.MinInt, math.MaxInt, math.MinInt},
		{math.MinInt, 0, math.MaxInt, 0}, {math.MaxInt, math.MinInt, 0, 0},
	} {
		if n := Clamp(c[0], c[1], c[2]); n != c[3] {
			t.Errorf("Clamp(%d, %d, %d) = %d, want %d", c[0], c[1], c[2], n, c[3])
		}
	}
}

// P1.4: hi less than lo.
func TestClampReversed(t *testing.T) {
	for _, n := range append([]int{1, 2, 3, 4}, edges...) {
		if got := Clamp(n, 3, 1); got != 3 {
			t.Errorf("Clamp(%d, 3, 1) = %d, want 3", n, got)
		}
		if got := Clamp(n, math.MaxInt, math.MinInt); got != math.MaxInt {
			t.Errorf("Clamp(%d, MaxInt, MinInt) = %d, want MaxInt", n, got)
		}
	}
}

// repeat is a list of count times n.
func repeat(n, count int) []int {
	return slices.Repeat([]int{n}, count)
}

// P1.5
func TestSum(t *testing.T) {
	for i, c := range []struct {
		l    []int
		want int
	}{
		{nil, 0}, {[]int{}, 0}, {[]int{0}, 0}, {[]int{-4}, -4}, {[]int{3, -5}, -2}, {[]int{1, 2, 3, 4}, 10}, {[]int{-1, -2, -3}, -6},
		{[]int{math.MaxInt}, math.MaxInt}, {[]int{math.MinInt}, math.MinInt}, {[]int{math.MinInt, math.MaxInt}, -1},
		{[]int{math.MaxInt - 1, 1}, math.MaxInt}, {[]int{math.MinInt + 1, -1}, math.MinInt},
	} {
		if n := Sum(c.l); n != c.want {
			t.Errorf("%d: Sum(%v) = %d, want %d", i, c.l, n, c.want)
		}
	}
}

// P1.5: a sum beyond the range, also by more than a word.
func TestSumBeyondRange(t *testing.T) {
	for i, c := range []struct {
		l    []int
		want int
	}{
		{[]int{math.MaxInt, 1}, math.MaxInt}, {[]int{math.MinInt, -1}, math.MinInt},
		{[]int{math.MaxInt, math.MaxInt}, math.MaxInt}, {[]int{math.MinInt, math.MinInt}, math.MinInt},
		{[]int{math.MaxInt, math.MaxInt, 2}, math.MaxInt}, {[]int{math.MaxInt, math.MaxInt, 7}, math.MaxInt},
		{[]int{math.MinInt, math.MinInt, 5}, math.MinInt}, {[]int{math.MinInt, math.MinInt, -5}, math.MinInt},
		{repeat(math.MaxInt, 1000), math.MaxInt}, {repeat(math.MinInt, 1000), math.MinInt}, {repeat(math.MinInt, 1001), math.MinInt},
	} {
		if n := Sum(c.l); n != c.want {
			t.Errorf("%d: Sum = %d, want %d", i, n, c.want)
		}
	}
}

// P1.5: partial sums beyond the range, of a sum within it.
func TestSumOfPartialSums(t *testing.T) {
	for i, c := range []struct {
		l    []int
		want int
	}{
		{[]int{math.MaxInt, 1, -2}, math.MaxInt - 1}, {[]int{math.MinInt, -1, 2}, math.MinInt + 1},
		{[]int{math.MaxInt, math.MaxInt, math.MinInt, math.MinInt}, -2}, {[]int{math.MinInt, math.MinInt, math.MaxInt, math.MaxInt}, -2},
		{[]int{math.MinInt, -1, math.MaxInt, 2}, 0},
		{slices.Concat(repeat(math.MaxInt, 500), repeat(-math.MaxInt, 500), []int{5}), 5},
		{slices.Concat(repeat(math.MinInt, 500), repeat(math.MaxInt, 500), []int{7}), -493},
	} {
		if n := Sum(c.l); n != c.want {
			t.Errorf("%d: Sum = %d, want %d", i, n, c.want)
		}
	}
}

// P1.5: against numbers without a range.
func TestSumExact(t *testing.T) {
	for _, l := range mixedLists(500) {
		exact := new(big.Int)
		for _, n := range l {
			exact.Add(exact, big.NewInt(int64(n)))
		}
		want := math.MaxInt
		switch {
		case exact.IsInt64():
			want = int(exact.Int64())
		case exact.Sign() < 0:
			want = math.MinInt
		}
		if n := Sum(l); n != want {
			t.Errorf("Sum(%v) = %d, want %d", l, n, want)
		}
	}
}

// mixedLists makes lists of edges by a linear congruence, so that every run of the tests has the same ones.
func mixedLists(count int) [][]int {
	var lists [][]int
	x := uint64(1)
	for i := range count {
		var l []int
		for range i % 9 {
			x = x*6364136223846793005 + 1442695040888963407
			l = append(l, edges[x>>33%uint64(len(edges))])
		}
		lists = append(lists, l)
	}
	return lists
}

// General rule 0.4: the list is not changed.
func TestSumKeepsItsArgument(t *testing.T) {
	l := []int{math.MaxInt, 3, -9, 1}
	before := slices.Clone(l)
	Sum(l)
	if !slices.Equal(l, before) {
		t.Errorf("Sum changed its argument to %v", l)
	}
}

// P1.6
func TestRest(t *testing.T) {
	for _, a := range edges {
		for _, b := range edges {
			floor, e := Floor(a, b)
			ceil, e2 := Ceil(a, b)
			if e != e2 {
				t.Errorf("Floor(%d, %d) returns %d, Ceil %d", a, b, e, e2)
			}
			if e != api.OK {
				continue
			}
			rest := new(big.Int).Mul(big.NewInt(int64(b)), big.NewInt(int64(floor)))
			rest.Sub(big.NewInt(int64(a)), rest)
			if rest.Sign() != 0 && rest.Sign() != big.NewInt(int64(b)).Sign() || rest.CmpAbs(big.NewInt(int64(b))) >= 0 {
				t.Errorf("Floor(%d, %d) = %d leaves the rest %d", a, b, floor, rest)
			}
			want := floor
			if rest.Sign() != 0 {
				want++
			}
			if ceil != want {
				t.Errorf("Ceil(%d, %d) = %d, Floor %d, rest %d", a, b, ceil, floor, rest)
			}
		}
	}
}

// isRoot compares squares of two words, because that of the number behind Root(MaxInt) is no int.
func isRoot(r, n int) bool {
	hi, low := bits.Mul64(uint64(r), uint64(r))
	nextHi, nextLow := bits.Mul64(uint64(r+1), uint64(r+1))
	return r >= 0 && hi == 0 && low <= uint64(n) && (nextHi > 0 || nextLow > uint64(n))
}

// P1.7
func TestNumRoots(t *testing.T) {
	check := func(n int) {
		if r := Root(n); !isRoot(r, n) {
			t.Errorf("Root(%d) = %d", n, r)
		}
	}
	for n := range 20000 {
		check(n)
	}
	for r := 1; r < 3037000499; r += r/64 + 1 {
		check(r*r - 1)
		check(r * r)
		check(r*r + 2*r)
	}
	for n := range 1000 {
		check(math.MaxInt - n)
	}
}

// P1.8
func TestSumOrder(t *testing.T) {
	for _, l := range mixedLists(500) {
		want := Sum(l)
		sorted := slices.Sorted(slices.Values(l))
		if n := Sum(sorted); n != want {
			t.Errorf("Sum(%v) = %d, sorted %d", l, want, n)
		}
		slices.Reverse(sorted)
		if n := Sum(sorted); n != want {
			t.Errorf("Sum(%v) = %d, sorted down %d", l, want, n)
		}
		for i := range l {
			turned := slices.Concat(l[i:], l[:i])
			if n := Sum(turned); n != want {
				t.Errorf("Sum(%v) = %d, but Sum(%v) = %d", l, want, turned, n)
			}
		}
	}
}
