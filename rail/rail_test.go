package rail

import (
	"math"
	"slices"
	"testing"

	"signalling/api"
)

// numbers are what the tests take as kinds, sides and positions: all that exist, their neighbors, numbers that would be valid in fewer bits, and the extremes.
var numbers = []int{math.MinInt, math.MinInt + 1, math.MinInt32, -256, -4, -3, -2, -1, 0, 1, 2, 3, 4, 5, 6, 256, 257, 258, 1 << 32, 1<<32 + 1, 1<<32 + 2, math.MaxInt - 1, math.MaxInt}

// possible is the chapter's definition of passages, which shares nothing with what is tested: whether one leads from a to b, or from b to a, in a position.
func possible(kind, a, b, pos int) bool {
	low, high := min(a, b), max(a, b)
	first := low == 0 && high == 1
	switch kind {
	case api.ElTrack:
		return first
	case api.ElCross:
		return first || low == 2 && high == 3
	case api.ElPoint:
		return pos == api.PtNormal && first || pos == api.PtReverse && low == 0 && high == 2
	}
	return false
}

// exists is whether a kind has a side.
func exists(kind, side int) bool {
	return side >= 0 && (kind == api.ElTrack && side < 2 || kind == api.ElPoint && side < 3 || kind == api.ElCross && side < 4)
}

// P6.1
func TestSides(t *testing.T) {
	for _, kind := range numbers {
		want := 0
		switch kind {
		case api.ElTrack:
			want = 2
		case api.ElPoint:
			want = 3
		case api.ElCross:
			want = 4
		}
		if got := Sides(kind); got != want {
			t.Errorf("Sides(%d) = %d, want %d", kind, got, want)
		}
	}
}

// P6.1: a kind has exactly the sides from 0 to Sides - 1, and each of them leads somewhere.
func TestSidesAreThoseOfPassages(t *testing.T) {
	for _, kind := range numbers {
		for _, side := range numbers {
			numbered := side >= 0 && side < Sides(kind)
			if numbered != exists(kind, side) || numbered != (len(Legs(kind, side)) > 0) {
				t.Errorf("kind %d, side %d: Sides %d, Legs %v", kind, side, Sides(kind), Legs(kind, side))
			}
		}
	}
}

func checkOut(t *testing.T, kind, in, pos, out int, ok bool) {
	t.Helper()
	if got, gotOk := Out(kind, in, pos); got != out || gotOk != ok {
		t.Errorf("Out(%d, %d, %d) = %d, %t, want %d, %t", kind, in, pos, got, gotOk, out, ok)
	}
}

// P6.2
func TestOut(t *testing.T) {
	for _, c := range []struct {
		kind, in, pos, out int
		ok                 bool
	}{
		{api.ElPoint, 0, api.PtReverse, 2, true}, // example 1
		{api.ElPoint, 2, api.PtNormal, 0, false}, // example 1
		{api.ElPoint, 0, api.PtNormal, 1, true},
		{api.ElPoint, 1, api.PtNormal, 0, true},
		{api.ElPoint, 1, api.PtReverse, 0, false},
		{api.ElPoint, 2, api.PtReverse, 0, true},
		{api.ElPoint, 3, api.PtNormal, 0, false},
		{api.ElPoint, -1, api.PtReverse, 0, false},
		{api.ElTrack, 0, api.PtNormal, 1, true},
		{api.ElTrack, 1, api.PtReverse, 0, true},
		{api.ElTrack, 2, api.PtNormal, 0, false},
		{api.ElTrack, -1, api.PtNormal, 0, false},
		{api.ElCross, 0, 0, 1, true},
		{api.ElCross, 1, 0, 0, true},
		{api.ElCross, 2, api.PtReverse, 3, true},
		{api.ElCross, 3, api.PtNormal, 2, true},
		{api.ElCross, 4, api.PtNormal, 0, false},
		{0, 0, api.PtNormal, 0, false},
		{4, 0, api.PtNormal, 0, false},
		{-1, 0, api.PtNormal, 0, false},
	} {
		checkOut(t, c.kind, c.in, c.pos, c.out, c.ok)
	}
}

// P6.2: points that are in no position, or in an unknown one, cannot be passed.
func TestOutOfPointsWithoutPosition(t *testing.T) {
	for _, pos := range numbers {
		if pos == api.PtNormal || pos == api.PtReverse {
			continue
		}
		for _, in := range numbers {
			checkOut(t, api.ElPoint, in, pos, 0, false)
		}
	}
}

// P6.2: pos does not matter for tracks and crossings.
func TestOutInAnyPosition(t *testing.T) {
	for _, pos := range numbers {
		checkOut(t, api.ElTrack, 0, pos, 1, true)
		checkOut(t, api.ElTrack, 1, pos, 0, true)
		checkOut(t, api.ElCross, 0, pos, 1, true)
		checkOut(t, api.ElCross, 1, pos, 0, true)
		checkOut(t, api.ElCross, 2, pos, 3, true)
		checkOut(t, api.ElCross, 3, pos, 2, true)
	}
}

// P6.2: for all kinds, sides and positions, as the definition says, without a side where there is no passage.
func TestOutIsDefinition(t *testing.T) {
	for _, kind := range numbers {
		for _, in := range numbers {
			for _, pos := range numbers {
				out := slices.IndexFunc([]int{0, 1, 2, 3}, func(out int) bool { return possible(kind, in, out, pos) })
				checkOut(t, kind, in, pos, max(out, 0), out >= 0)
			}
		}
	}
}

func checkNeed(t *testing.T, kind, in, out, pos int, ok bool) {
	t.Helper()
	if got, gotOk := Need(kind, in, out); got != pos || gotOk != ok {
		t.Errorf("Need(%d, %d, %d) = %d, %t, want %d, %t", kind, in, out, got, gotOk, pos, ok)
	}
}

// P6.2
func TestNeed(t *testing.T) {
	for _, c := range []struct {
		kind, in, out, pos int
		ok                 bool
	}{
		{api.ElCross, 3, 2, 0, true},  // example 2
		{api.ElCross, 0, 2, 0, false}, // example 2
		{api.ElCross, 2, 3, 0, true},
		{api.ElCross, 1, 0, 0, true},
		{api.ElCross, 0, 0, 0, false},
		{api.ElCross, 1, 2, 0, false},
		{api.ElPoint, 0, 1, api.PtNormal, true},
		{api.ElPoint, 1, 0, api.PtNormal, true},
		{api.ElPoint, 0, 2, api.PtReverse, true},
		{api.ElPoint, 2, 0, api.PtReverse, true},
		{api.ElPoint, 1, 2, 0, false},
		{api.ElPoint, 2, 1, 0, false},
		{api.ElPoint, 0, 0, 0, false},
		{api.ElPoint, 0, 3, 0, false},
		{api.ElTrack, 0, 1, 0, true},
		{api.ElTrack, 1, 0, 0, true},
		{api.ElTrack, 0, 2, 0, false},
		{api.ElTrack, -1, 0, 0, false},
		{0, 0, 1, 0, false},
		{4, 0, 1, 0, false},
		{math.MinInt, 0, 1, 0, false},
	} {
		checkNeed(t, c.kind, c.in, c.out, c.pos, c.ok)
	}
}

// P6.2: for all kinds and sides, as the definition says, without a position where there is no passage.
func TestNeedIsDefinition(t *testing.T) {
	for _, kind := range numbers {
		for _, in := range numbers {
			for _, out := range numbers {
				normal, reverse := possible(kind, in, out, api.PtNormal), possible(kind, in, out, api.PtReverse)
				pos := 0
				if normal && !reverse {
					pos = api.PtNormal
				}
				if reverse && !normal {
					pos = api.PtReverse
				}
				checkNeed(t, kind, in, out, pos, normal || reverse)
			}
		}
	}
}

// P6.3
func TestLegs(t *testing.T) {
	for _, c := range []struct {
		kind, in int
		want     []int
	}{
		{api.ElPoint, 0, []int{1, 2}}, // example 3
		{api.ElPoint, 1, []int{0}},    // example 3
		{api.ElPoint, 2, []int{0}},
		{api.ElPoint, 3, nil},
		{api.ElPoint, -1, nil},
		{api.ElTrack, 0, []int{1}},
		{api.ElTrack, 1, []int{0}},
		{api.ElTrack, 2, nil},
		{api.ElCross, 0, []int{1}},
		{api.ElCross, 1, []int{0}},
		{api.ElCross, 2, []int{3}},
		{api.ElCross, 3, []int{2}},
		{api.ElCross, 4, nil},
		{0, 0, nil},
		{4, 0, nil},
		{math.MaxInt, 0, nil},
	} {
		if got := Legs(c.kind, c.in); !slices.Equal(got, c.want) {
			t.Errorf("Legs(%d, %d) = %v, want %v", c.kind, c.in, got, c.want)
		}
	}
}

// P6.3: for all kinds and sides, as the definition says, ascending.
func TestLegsIsDefinition(t *testing.T) {
	for _, kind := range numbers {
		for _, in := range numbers {
			var want []int
			for out := range 4 {
				if possible(kind, in, out, api.PtNormal) || possible(kind, in, out, api.PtReverse) {
					want = append(want, out)
				}
			}
			if got := Legs(kind, in); !slices.Equal(got, want) {
				t.Errorf("Legs(%d, %d) = %v, want %v", kind, in, got, want)
			}
		}
	}
}

// Rule 0.4: a result is new memory, within its capacity, too.
func TestLegsAreNew(t *testing.T) {
	for _, kind := range []int{api.ElTrack, api.ElPoint, api.ElCross} {
		for in := range Sides(kind) {
			before := Legs(kind, in)
			want := slices.Clone(before)
			before = before[:cap(before)]
			for i := range before {
				before[i] = -1
			}
			if got := Legs(kind, in); !slices.Equal(got, want) {
				t.Errorf("Legs(%d, %d) = %v after a result was changed, want %v", kind, in, got, want)
			}
		}
	}
}

// P6.3
func TestFacing(t *testing.T) {
	for _, kind := range numbers {
		for _, in := range numbers {
			want := kind == api.ElPoint && in == 0
			if got := Facing(kind, in); got != want {
				t.Errorf("Facing(%d, %d) = %t", kind, in, got)
			}
		}
	}
}

// P6.3: the passage depends on the position exactly if it leads elsewhere in the other position.
func TestFacingDependsOnPosition(t *testing.T) {
	for _, kind := range numbers {
		for _, in := range numbers {
			normal, isNormal := Out(kind, in, api.PtNormal)
			reverse, isReverse := Out(kind, in, api.PtReverse)
			elsewhere := isNormal && isReverse && normal != reverse
			if Facing(kind, in) != elsewhere {
				t.Errorf("Facing(%d, %d) = %t, but the sides are %d and %d", kind, in, !elsewhere, normal, reverse)
			}
		}
	}
}

// P6.4
func TestPassagesAreSymmetrical(t *testing.T) {
	for _, kind := range numbers {
		for _, in := range numbers {
			for _, out := range numbers {
				pos, ok := Need(kind, in, out)
				checkNeed(t, kind, out, in, pos, ok)
			}
			for _, pos := range numbers {
				if out, ok := Out(kind, in, pos); ok {
					checkOut(t, kind, out, pos, in, true)
				}
			}
		}
	}
}

// P6.5: in a given position, different sides lead to different sides.
func TestSidesLeadToDifferentSides(t *testing.T) {
	for _, kind := range numbers {
		for _, pos := range numbers {
			var outs []int
			for _, in := range numbers {
				if out, ok := Out(kind, in, pos); ok {
					outs = append(outs, out)
				}
			}
			slices.Sort(outs)
			if len(slices.Compact(slices.Clone(outs))) != len(outs) {
				t.Errorf("kind %d in the position %d leads to %v", kind, pos, outs)
			}
		}
	}
}

// P6.5: a passage is possible in a position exactly if it needs this position, or none.
func TestPassageIsPossibleAsNeeded(t *testing.T) {
	for _, kind := range numbers {
		for _, in := range numbers {
			for _, pos := range numbers {
				side, some := Out(kind, in, pos)
				for _, out := range numbers {
					need, ok := Need(kind, in, out)
					if (some && side == out) != (ok && (need == 0 || need == pos)) {
						t.Errorf("kind %d from %d to %d in the position %d: Out %d, %t, Need %d, %t", kind, in, out, pos, side, some, need, ok)
					}
				}
			}
		}
	}
}

// P6.6
func TestLegsAreWhatNeedTells(t *testing.T) {
	for _, kind := range numbers {
		for _, in := range numbers {
			legs := Legs(kind, in)
			for _, out := range numbers {
				if _, ok := Need(kind, in, out); ok != slices.Contains(legs, out) {
					t.Errorf("Legs(%d, %d) = %v, but Need(%d, %d, %d) is %t", kind, in, legs, kind, in, out, ok)
				}
			}
		}
	}
}

// P6.6
func TestNumberOfLegs(t *testing.T) {
	for _, kind := range numbers {
		for _, in := range numbers {
			want := 0
			if exists(kind, in) {
				want = 1
			}
			if Facing(kind, in) {
				want = 2
			}
			if got := len(Legs(kind, in)); got != want {
				t.Errorf("Legs(%d, %d) has %d sides, want %d", kind, in, got, want)
			}
		}
	}
}
