package wire

import (
	"encoding/binary"
	"math"
	"slices"
	"strings"
	"testing"

	"signalling/api"
)

// unsigned are numbers at which the count of groups or the range changes.
func unsigned() []uint64 {
	list := []uint64{0, 1, 2, 3, 5, 100, 300, 1000, 1 << 31, math.MaxInt - 1, math.MaxInt, math.MaxInt + 1, math.MaxUint64 - 1, math.MaxUint64}
	for bits := 6; bits < 64; bits++ {
		list = append(list, 1<<bits-1, 1<<bits, 1<<bits+1)
	}
	slices.Sort(list)
	return slices.Compact(list)
}

// signed are numbers around 0, around the powers of 2, and at the ends of the range.
func signed() []int {
	list := []int{math.MinInt, math.MinInt + 1, -300, -100, -3, -2, -1, 0, 1, 2, 3, 100, 300, math.MaxInt - 1, math.MaxInt}
	for bits := 5; bits < 63; bits++ {
		list = append(list, 1<<bits-1, 1<<bits, 1<<bits+1, -1<<bits-1, -1<<bits, -1<<bits+1)
	}
	slices.Sort(list)
	return slices.Compact(list)
}

// texts have lengths at which the count of bytes of the length changes, and bytes of all kinds.
func texts() []string {
	all := make([]byte, 256)
	for i := range all {
		all[i] = byte(i)
	}
	return []string{
		"", "a", "ab", "\x00", "\x80", "\xff\xff", "zwölf", "\x02ab", string(all),
		strings.Repeat("x", 126), strings.Repeat("x", 127), strings.Repeat("x", 128), strings.Repeat("x", 129),
		strings.Repeat("y", 1<<14-1), strings.Repeat("y", 1<<14), strings.Repeat("y", 1<<16),
	}
}

// lists have lengths at which the count of bytes of the length changes, and numbers of all sizes.
func lists() [][]int {
	return [][]int{
		nil, {}, {0}, {1}, {-1}, {1, -2}, {64, -64, -65}, {0, 0, 0}, {math.MinInt}, {math.MaxInt, math.MinInt, 0},
		signed(), make([]int, 127), make([]int, 128), slices.Repeat([]int{-5000, 7}, 9000),
	}
}

// outsides are offsets outside a text.
func outsides(s string) []int {
	return []int{-1, -2, math.MinInt, len(s) + 1, len(s) + 2, math.MaxInt}
}

// surroundings are what stands before and behind an encoding.
var surroundings = [][2]string{{"", ""}, {"x", ""}, {"", "y"}, {"\x80", "\x00"}, {"\x00\x01", "\x01\x80"}, {"\xff\xff\xff", "\xff\xff\xff"}}

// P3.1: against another implementation of the same encoding.
func TestUint(t *testing.T) {
	for _, n := range unsigned() {
		if got, want := Uint(n), string(binary.AppendUvarint(nil, n)); got != want {
			t.Errorf("Uint(%d) = %x, want %x", n, got, want)
		}
	}
}

// P3.1
func TestUintExamples(t *testing.T) {
	for _, c := range []struct {
		n    uint64
		want string
	}{
		{0, "\x00"}, {1, "\x01"}, {127, "\x7f"}, {128, "\x80\x01"}, {255, "\xff\x01"}, {256, "\x80\x02"}, {300, "\xac\x02"},
		{1<<14 - 1, "\xff\x7f"}, {1 << 14, "\x80\x80\x01"}, {1 << 56, "\x80\x80\x80\x80\x80\x80\x80\x80\x01"},
		{1<<63 - 1, "\xff\xff\xff\xff\xff\xff\xff\xff\x7f"}, {1 << 63, "\x80\x80\x80\x80\x80\x80\x80\x80\x80\x01"},
		{math.MaxUint64, "\xff\xff\xff\xff\xff\xff\xff\xff\xff\x01"},
	} {
		if got := Uint(c.n); got != c.want {
			t.Errorf("Uint(%d) = %x, want %x", c.n, got, c.want)
		}
	}
}

// P3.1: against another implementation of the same encoding.
func TestInt(t *testing.T) {
	for _, n := range signed() {
		if got, want := Int(n), string(binary.AppendVarint(nil, int64(n))); got != want {
			t.Errorf("Int(%d) = %x, want %x", n, got, want)
		}
	}
}

// P3.1
func TestIntExamples(t *testing.T) {
	for _, c := range []struct {
		n    int
		want string
	}{
		{0, "\x00"}, {-1, "\x01"}, {1, "\x02"}, {-2, "\x03"}, {2, "\x04"}, {63, "\x7e"}, {-64, "\x7f"}, {64, "\x80\x01"}, {-65, "\x81\x01"},
		{math.MaxInt, "\xfe\xff\xff\xff\xff\xff\xff\xff\xff\x01"}, {math.MinInt, "\xff\xff\xff\xff\xff\xff\xff\xff\xff\x01"},
	} {
		if got := Int(c.n); got != c.want {
			t.Errorf("Int(%d) = %x, want %x", c.n, got, c.want)
		}
	}
}

// P3.1
func TestBool(t *testing.T) {
	if got := Bool(true); got != "\x01" {
		t.Errorf("Bool(true) = %x", got)
	}
	if got := Bool(false); got != "\x00" {
		t.Errorf("Bool(false) = %x", got)
	}
}

// P3.1
func TestText(t *testing.T) {
	for _, s := range texts() {
		if got, want := Text(s), string(binary.AppendUvarint(nil, uint64(len(s))))+s; got != want {
			t.Errorf("Text of %d bytes has %d bytes, want %d, or others", len(s), len(got), len(want))
		}
	}
	if Text("") != "\x00" || Text("ab") != "\x02ab" {
		t.Errorf("%x, %x", Text(""), Text("ab"))
	}
}

// P3.1
func TestInts(t *testing.T) {
	for _, l := range lists() {
		want := binary.AppendUvarint(nil, uint64(len(l)))
		for _, n := range l {
			want = binary.AppendVarint(want, int64(n))
		}
		if got := Ints(l); got != string(want) {
			t.Errorf("Ints of %d numbers has %d bytes, want %d, or others", len(l), len(got), len(want))
		}
	}
	if Ints(nil) != "\x00" || Ints([]int{1, -2}) != "\x02\x02\x03" {
		t.Errorf("%x, %x", Ints(nil), Ints([]int{1, -2}))
	}
}

// P3.2
func TestTakeUint(t *testing.T) {
	for _, c := range []struct {
		s  string
		at int
		n  uint64
		to int
		e  api.Errno
	}{
		{"\x00", 0, 0, 1, api.OK}, {"\x01", 0, 1, 1, api.OK}, {"\x7f", 0, 127, 1, api.OK}, {"\x00\x00", 1, 0, 2, api.OK},
		{"\x80\x01", 0, 128, 2, api.OK}, {"\xac\x02", 0, 300, 2, api.OK}, {"x\xac\x02y", 1, 300, 3, api.OK}, {"\xac\x02", 1, 2, 2, api.OK},
		{"\x80\x80\x80\x80\x80\x80\x80\x80\x80\x01", 0, 1 << 63, 10, api.OK}, {"\xff\xff\xff\xff\xff\xff\xff\xff\x7f", 0, 1<<63 - 1, 9, api.OK},
		{"\xff\xff\xff\xff\xff\xff\xff\xff\xff\x01", 0, math.MaxUint64, 10, api.OK},
		{"", 0, 0, 0, api.ErrTruncated}, {"a", 1, 0, 0, api.ErrTruncated}, {"\x80", 0, 0, 0, api.ErrTruncated}, {"\x01\xff\xff", 1, 0, 0, api.ErrTruncated},
		{"\xff\xff\xff\xff\xff\xff\xff\xff\xff", 0, 0, 0, api.ErrTruncated},
		{"\x80\x00", 0, 0, 0, api.ErrSyntax}, {"\xff\x00", 0, 0, 0, api.ErrSyntax}, {"\x80\x80\x00", 0, 0, 0, api.ErrSyntax},
		{"\x80\x00\x01", 0, 0, 0, api.ErrSyntax}, {"\xff\xff\xff\xff\xff\xff\xff\xff\x00", 0, 0, 0, api.ErrSyntax},
		{"\xff\xff\xff\xff\xff\xff\xff\xff\xff\x00", 0, 0, 0, api.ErrSyntax}, {"\xff\xff\xff\xff\xff\xff\xff\xff\xff\x02", 0, 0, 0, api.ErrSyntax},
		{"\xff\xff\xff\xff\xff\xff\xff\xff\xff\x81\x01", 0, 0, 0, api.ErrSyntax}, {"\x80\x80\x80\x80\x80\x80\x80\x80\x80\x80", 0, 0, 0, api.ErrSyntax},
	} {
		if n, to, e := TakeUint(c.s, c.at); n != c.n || to != c.to || e != c.e {
			t.Errorf("TakeUint(%x, %d) = %d, %d, %d, want %d, %d, %d", c.s, c.at, n, to, e, c.n, c.to, c.e)
		}
	}
}

// P3.2: every tenth byte, with and without bytes behind it; only 1 can stand there.
func TestTenthByte(t *testing.T) {
	for b := range 256 {
		for _, behind := range []string{"", "\x00", "\x01", "\xff"} {
			s := "?" + strings.Repeat("\x80", 9) + string([]byte{byte(b)}) + behind
			wantN, wantI, wantTo, wantE := uint64(0), 0, 0, api.ErrSyntax
			if b == 1 {
				wantN, wantI, wantTo, wantE = 1<<63, 1<<62, 11, api.OK
			}
			if n, to, e := TakeUint(s, 1); n != wantN || to != wantTo || e != wantE {
				t.Errorf("TakeUint(%x, 1) = %d, %d, %d", s, n, to, e)
			}
			if n, to, e := TakeInt(s, 1); n != wantI || to != wantTo || e != wantE {
				t.Errorf("TakeInt(%x, 1) = %d, %d, %d", s, n, to, e)
			}
		}
	}
}

// P3.2: a byte 0 can stand only at the beginning of a number; every place behind it.
func TestByteZero(t *testing.T) {
	for groups := 1; groups <= 9; groups++ {
		s := strings.Repeat("\x81", groups) + "\x00"
		if n, to, e := TakeUint(s, 0); n != 0 || to != 0 || e != api.ErrSyntax {
			t.Errorf("TakeUint(%x, 0) = %d, %d, %d", s, n, to, e)
		}
		if n, to, e := TakeInt(s, 0); n != 0 || to != 0 || e != api.ErrSyntax {
			t.Errorf("TakeInt(%x, 0) = %d, %d, %d", s, n, to, e)
		}
		if n, to, e := TakeUint(s, groups); n != 0 || to != groups+1 || e != api.OK {
			t.Errorf("TakeUint(%x, %d) = %d, %d, %d", s, groups, n, to, e)
		}
	}
}

// P3.2
func TestTakeInt(t *testing.T) {
	for _, c := range []struct {
		s         string
		at, n, to int
		e         api.Errno
	}{
		{"\x00", 0, 0, 1, api.OK}, {"\x01", 0, -1, 1, api.OK}, {"\x02", 0, 1, 1, api.OK}, {"\x03", 0, -2, 1, api.OK}, {"\x80\x01", 0, 64, 2, api.OK},
		{"\x81\x01", 0, -65, 2, api.OK}, {"\x05\x80\x01\x05", 1, 64, 3, api.OK}, {"\x7f", 0, -64, 1, api.OK},
		{"\xfe\xff\xff\xff\xff\xff\xff\xff\xff\x01", 0, math.MaxInt, 10, api.OK}, {"\xff\xff\xff\xff\xff\xff\xff\xff\xff\x01", 0, math.MinInt, 10, api.OK},
		{"", 0, 0, 0, api.ErrTruncated}, {"\x81", 0, 0, 0, api.ErrTruncated}, {"\x01", 1, 0, 0, api.ErrTruncated},
		{"\x81\x00", 0, 0, 0, api.ErrSyntax}, {"\x80\x00", 0, 0, 0, api.ErrSyntax}, {"\xff\xff\xff\xff\xff\xff\xff\xff\xff\x03", 0, 0, 0, api.ErrSyntax},
	} {
		if n, to, e := TakeInt(c.s, c.at); n != c.n || to != c.to || e != c.e {
			t.Errorf("TakeInt(%x, %d) = %d, %d, %d, want %d, %d, %d", c.s, c.at, n, to, e, c.n, c.to, c.e)
		}
	}
}

// P3.2: every byte.
func TestTakeBool(t *testing.T) {
	for b := range 256 {
		s := "\x01" + string([]byte{byte(b)}) + "\x00"
		wantTo, wantE := 2, api.OK
		if b > 1 {
			wantTo, wantE = 0, api.ErrSyntax
		}
		if got, to, e := TakeBool(s, 1); got != (b == 1) || to != wantTo || e != wantE {
			t.Errorf("TakeBool(%x, 1) = %t, %d, %d", s, got, to, e)
		}
	}
	for _, s := range []string{"", "\x01", "\x01\x01"} {
		if got, to, e := TakeBool(s, len(s)); got || to != 0 || e != api.ErrTruncated {
			t.Errorf("TakeBool(%x, %d) = %t, %d, %d", s, len(s), got, to, e)
		}
	}
}

// P3.2, P3.3: an offset outside the text comes before all other errors.
func TestOutside(t *testing.T) {
	for _, s := range []string{"", "\x01", "\x80\x00", "\x02\x02\x03", "\x01\x01\x01\x01"} {
		for _, at := range outsides(s) {
			if n, to, e := TakeUint(s, at); n != 0 || to != 0 || e != api.ErrArg {
				t.Errorf("TakeUint(%x, %d) = %d, %d, %d", s, at, n, to, e)
			}
			if n, to, e := TakeInt(s, at); n != 0 || to != 0 || e != api.ErrArg {
				t.Errorf("TakeInt(%x, %d) = %d, %d, %d", s, at, n, to, e)
			}
			if b, to, e := TakeBool(s, at); b || to != 0 || e != api.ErrArg {
				t.Errorf("TakeBool(%x, %d) = %t, %d, %d", s, at, b, to, e)
			}
			for _, most := range []int{math.MinInt, -1, 0, 9, math.MaxInt} {
				checkLengths(t, s, at, most, api.ErrArg)
			}
		}
	}
}

// checkLengths expects an error of all functions that read a length.
func checkLengths(t *testing.T, s string, at, most int, want api.Errno) {
	t.Helper()
	if n, to, e := TakeCount(s, at, most); n != 0 || to != 0 || e != want {
		t.Errorf("TakeCount(%x, %d, %d) = %d, %d, %d, want %d", s, at, most, n, to, e, want)
	}
	if part, to, e := TakeText(s, at, most); part != "" || to != 0 || e != want {
		t.Errorf("TakeText(%x, %d, %d) = %q, %d, %d, want %d", s, at, most, part, to, e, want)
	}
	if l, to, e := TakeInts(s, at, most); len(l) != 0 || to != 0 || e != want {
		t.Errorf("TakeInts(%x, %d, %d) = %v, %d, %d, want %d", s, at, most, l, to, e, want)
	}
}

// P3.3
func TestTakeCount(t *testing.T) {
	for _, c := range []struct {
		s               string
		at, most, n, to int
	}{
		{"\x00", 0, 0, 0, 1}, {"\x00", 0, math.MaxInt, 0, 1}, {"\x01a", 0, 1, 1, 1}, {"\x02ab", 0, 2, 2, 1}, {"\x02ab", 0, 3, 2, 1},
		{"\x02abc", 0, 2, 2, 1}, {"??\x02ab", 2, 2, 2, 3}, {"\x02\x80\x00", 0, 9, 2, 1}, {"\x01\x00", 1, 5, 0, 2},
		{"\x80\x01" + strings.Repeat("x", 128), 0, 128, 128, 2}, {"\x80\x01" + strings.Repeat("x", 129), 0, math.MaxInt, 128, 2},
	} {
		if n, to, e := TakeCount(c.s, c.at, c.most); n != c.n || to != c.to || e != api.OK {
			t.Errorf("TakeCount(%x, %d, %d) = %d, %d, %d, want %d, %d", c.s, c.at, c.most, n, to, e, c.n, c.to)
		}
	}
}

// P3.3: the errors of lengths, which are the same for texts and lists, in their order.
func TestLengthErrors(t *testing.T) {
	for _, c := range []struct {
		s        string
		at, most int
		e        api.Errno
	}{
		{"", 0, 9, api.ErrTruncated}, {"\x02ab", 3, 9, api.ErrTruncated}, {"\x80", 0, 9, api.ErrTruncated}, {"\x80\x00", 0, 9, api.ErrSyntax},
		{"", 0, -1, api.ErrTruncated}, {"\x80", 0, -1, api.ErrTruncated}, {"\x80", 0, 0, api.ErrTruncated}, {"\x80\x00", 0, -1, api.ErrSyntax},
		{"\xff\xff\xff\xff\xff\xff\xff\xff\xff\x02", 0, 0, api.ErrSyntax},
		{"\x00", 0, -1, api.ErrLimit}, {"\x00", 0, math.MinInt, api.ErrLimit}, {"\x01a", 0, -1, api.ErrLimit}, {"\x01a", 0, math.MinInt, api.ErrLimit},
		{"\x01a", 0, 0, api.ErrLimit}, {"\x03abc", 0, 2, api.ErrLimit}, {"\x03ab", 0, 2, api.ErrLimit}, {"\x03", 0, 2, api.ErrLimit},
		{"\x03ab", 0, 3, api.ErrTruncated}, {"\x03ab", 0, 9, api.ErrTruncated}, {"\x01", 0, 1, api.ErrTruncated}, {"\x01", 0, math.MaxInt, api.ErrTruncated},
		{"abc\x03ab", 3, 9, api.ErrTruncated},
	} {
		checkLengths(t, c.s, c.at, c.most, c.e)
	}
}

// P3.3: lengths that are far greater than the text, or than any int.
func TestGreatLengths(t *testing.T) {
	for _, n := range []uint64{1 << 20, 1 << 31, 1 << 32, 1 << 62, math.MaxInt - 1, math.MaxInt} {
		s := Uint(n) + "abc"
		checkLengths(t, s, 0, int(n), api.ErrTruncated)
		checkLengths(t, s, 0, math.MaxInt, api.ErrTruncated)
		checkLengths(t, s, 0, int(n)-1, api.ErrLimit)
		checkLengths(t, s, 0, 3, api.ErrLimit)
	}
	for _, n := range []uint64{math.MaxInt + 1, math.MaxInt + 4, math.MaxUint64 - 1, math.MaxUint64} {
		for _, most := range []int{math.MinInt, -2, -1, 0, 3, math.MaxInt} {
			checkLengths(t, Uint(n)+"abc", 0, most, api.ErrLimit)
		}
	}
}

// P3.3
func TestTakeText(t *testing.T) {
	for _, c := range []struct {
		s        string
		at, most int
		want     string
		to       int
	}{
		{"\x00", 0, 0, "", 1}, {"\x00ab", 0, 9, "", 1}, {"\x02ab", 0, 2, "ab", 3}, {"\x02ab!", 0, 2, "ab", 3}, {"\x02ab!", 0, math.MaxInt, "ab", 3},
		{"!\x03\x80\x00\xff!", 1, 3, "\x80\x00\xff", 5}, {"\x01\x00", 1, 0, "", 2}, {"\x02\x01a", 1, 1, "a", 3},
	} {
		if got, to, e := TakeText(c.s, c.at, c.most); got != c.want || to != c.to || e != api.OK {
			t.Errorf("TakeText(%x, %d, %d) = %q, %d, %d, want %q, %d", c.s, c.at, c.most, got, to, e, c.want, c.to)
		}
	}
}

// P3.3: most bounds the length, and not the number of bytes that are read.
func TestMost(t *testing.T) {
	for _, s := range texts() {
		for _, most := range []int{len(s), len(s) + 1, math.MaxInt} {
			if got, to, e := TakeText(Text(s), 0, most); got != s || to != len(Text(s)) || e != api.OK {
				t.Errorf("a text of %d bytes with most %d: %d, %d", len(s), most, to, e)
			}
		}
		if got, to, e := TakeText(Text(s), 0, len(s)-1); got != "" || to != 0 || e != api.ErrLimit {
			t.Errorf("a text of %d bytes with most %d: %d, %d", len(s), len(s)-1, to, e)
		}
	}
	for _, l := range lists() {
		for _, most := range []int{len(l), len(l) + 1, math.MaxInt} {
			if got, to, e := TakeInts(Ints(l), 0, most); !slices.Equal(got, l) || to != len(Ints(l)) || e != api.OK {
				t.Errorf("a list of %d numbers with most %d: %d, %d", len(l), most, to, e)
			}
		}
		if got, to, e := TakeInts(Ints(l), 0, len(l)-1); len(got) != 0 || to != 0 || e != api.ErrLimit {
			t.Errorf("a list of %d numbers with most %d: %d, %d", len(l), len(l)-1, to, e)
		}
	}
}

// P3.3: lists, and the error of the first number that is not accepted.
func TestTakeInts(t *testing.T) {
	for _, c := range []struct {
		s        string
		at, most int
		want     []int
		to       int
		e        api.Errno
	}{
		{"\x00", 0, 0, nil, 1, api.OK}, {"\x00\x02", 0, 9, nil, 1, api.OK}, {"\x02\x02\x03", 0, 2, []int{1, -2}, 3, api.OK},
		{"\x02\x02\x03\x04", 0, 5, []int{1, -2}, 3, api.OK}, {"\x09\x01\x80\x01", 1, 5, []int{64}, 4, api.OK},
		{"\x03\x80\x01\x00\x7f", 0, 3, []int{64, 0, -64}, 5, api.OK},
		{"\x02\x80\x01", 0, 5, nil, 0, api.ErrTruncated}, {"\x01\x80", 0, 5, nil, 0, api.ErrTruncated}, {"\x02\x02\x80", 0, 5, nil, 0, api.ErrTruncated},
		{"\x01\x80\x00", 0, 5, nil, 0, api.ErrSyntax}, {"\x02\x02\x80\x00", 0, 5, nil, 0, api.ErrSyntax}, {"\x02\x80\x00\x80", 0, 5, nil, 0, api.ErrSyntax},
		{"\x03\x02\x80\x00\x80", 0, 5, nil, 0, api.ErrSyntax}, {"\x01\xff\xff\xff\xff\xff\xff\xff\xff\xff\x02", 0, 5, nil, 0, api.ErrSyntax},
		{"\x02\x80\x80", 0, 5, nil, 0, api.ErrTruncated}, {"\x02\x80\x01\x80\x00", 0, 5, nil, 0, api.ErrSyntax}, {"\x03\x80\x01\x80", 0, 5, nil, 0, api.ErrTruncated},
		// What stands behind the list is not examined.
		{"\x01\x02\x80\x00", 0, 5, []int{1}, 2, api.OK}, {"\x01\x02\x80", 0, 5, []int{1}, 2, api.OK},
	} {
		if got, to, e := TakeInts(c.s, c.at, c.most); !slices.Equal(got, c.want) || to != c.to || e != c.e {
			t.Errorf("TakeInts(%x, %d, %d) = %v, %d, %d, want %v, %d, %d", c.s, c.at, c.most, got, to, e, c.want, c.to, c.e)
		}
	}
}

// P3.4: what is encoded is decoded, whatever stands before and behind it.
func TestRoundTripsOfNumbers(t *testing.T) {
	for _, x := range surroundings {
		at := len(x[0])
		for _, n := range unsigned() {
			if got, to, e := TakeUint(x[0]+Uint(n)+x[1], at); got != n || to != at+len(Uint(n)) || e != api.OK {
				t.Errorf("%d between %x became %d, %d, %d", n, x, got, to, e)
			}
		}
		for _, n := range signed() {
			if got, to, e := TakeInt(x[0]+Int(n)+x[1], at); got != n || to != at+len(Int(n)) || e != api.OK {
				t.Errorf("%d between %x became %d, %d, %d", n, x, got, to, e)
			}
		}
		for _, b := range []bool{false, true} {
			if got, to, e := TakeBool(x[0]+Bool(b)+x[1], at); got != b || to != at+1 || e != api.OK {
				t.Errorf("%t between %x became %t, %d, %d", b, x, got, to, e)
			}
		}
	}
}

// P3.4
func TestRoundTripsOfLists(t *testing.T) {
	for _, x := range surroundings {
		at := len(x[0])
		for _, s := range texts() {
			if got, to, e := TakeText(x[0]+Text(s)+x[1], at, len(s)); got != s || to != at+len(Text(s)) || e != api.OK {
				t.Errorf("a text of %d bytes between %x: %d, %d", len(s), x, to, e)
			}
		}
		for _, l := range lists() {
			if got, to, e := TakeInts(x[0]+Ints(l)+x[1], at, len(l)); !slices.Equal(got, l) || to != at+len(Ints(l)) || e != api.OK {
				t.Errorf("a list of %d numbers between %x: %d, %d", len(l), x, to, e)
			}
		}
	}
}

// P3.4: values one after the other.
func TestSequence(t *testing.T) {
	s := Bool(true) + Uint(300) + Text("a\x80") + Ints([]int{5, -1 << 40}) + Text("") + Int(math.MinInt) + Ints(nil) + Bool(false)
	first, at, e1 := TakeBool(s, 0)
	n, at, e2 := TakeUint(s, at)
	text, at, e3 := TakeText(s, at, 2)
	l, at, e4 := TakeInts(s, at, 2)
	empty, at, e5 := TakeText(s, at, 0)
	least, at, e6 := TakeInt(s, at)
	none, at, e7 := TakeInts(s, at, 0)
	last, at, e8 := TakeBool(s, at)
	if !first || n != 300 || text != "a\x80" || !slices.Equal(l, []int{5, -1 << 40}) || empty != "" || least != math.MinInt || len(none) != 0 || last {
		t.Errorf("%t, %d, %q, %d, %q, %d, %d, %t", first, n, text, l, empty, least, none, last)
	}
	if at != len(s) || e1+e2+e3+e4+e5+e6+e7+e8 != api.OK {
		t.Error(at, len(s), e1, e2, e3, e4, e5, e6, e7, e8)
	}
}

// smallTexts are all texts of at most length of the bytes at which something changes.
func smallTexts(length int) []string {
	list := []string{""}
	for from := 0; length > 0; length-- {
		shorter := list[from:]
		from = len(list)
		for _, s := range shorter {
			for _, b := range []string{"\x00", "\x01", "\x02", "\x03", "\x7f", "\x80", "\x81", "\xff"} {
				list = append(list, s+b)
			}
		}
	}
	return list
}

// checkPart expects that a part of a text is the encoding of the value that was decoded from it, or that there is an error and an offset 0.
func checkPart(t *testing.T, name, s string, at, to int, e api.Errno, encoding string) {
	t.Helper()
	switch {
	case e != api.OK:
		if to != 0 {
			t.Errorf("%s(%x, %d) gives the offset %d with the error %d", name, s, at, to, e)
		}
	case to <= at || to > len(s) || s[at:to] != encoding:
		t.Errorf("%s(%x, %d) ends at %d, but its value has the encoding %x", name, s, at, to, encoding)
	}
}

// P3.4: nothing but encodings is accepted, in short texts.
func TestOnlyEncodings(t *testing.T) {
	for _, s := range smallTexts(5) {
		for at := range min(2, len(s)+1) {
			n, to, e := TakeUint(s, at)
			checkPart(t, "TakeUint", s, at, to, e, Uint(n))
			i, to, e := TakeInt(s, at)
			checkPart(t, "TakeInt", s, at, to, e, Int(i))
			b, to, e := TakeBool(s, at)
			checkPart(t, "TakeBool", s, at, to, e, Bool(b))
			part, to, e := TakeText(s, at, 4)
			checkPart(t, "TakeText", s, at, to, e, Text(part))
			l, to, e := TakeInts(s, at, 4)
			checkPart(t, "TakeInts", s, at, to, e, Ints(l))
			count, to, e := TakeCount(s, at, 4)
			checkPart(t, "TakeCount", s, at, to, e, Uint(uint64(count)))
		}
	}
}

// P3.4: one byte of a long number is changed; another number or none comes of it, but never the same one.
func TestChangedBytes(t *testing.T) {
	for _, n := range unsigned() {
		s := []byte(Uint(n))
		for i := range s {
			for b := range 256 {
				changed := slices.Clone(s)
				changed[i] = byte(b)
				got, to, e := TakeUint(string(changed), 0)
				checkPart(t, "TakeUint", string(changed), 0, to, e, Uint(got))
				if e == api.OK && got == n && byte(b) != s[i] {
					t.Errorf("%x and %x are both %d", s, changed, n)
				}
			}
		}
	}
}

// P3.5: the beginnings of numbers and Bools.
func TestBeginningsOfNumbers(t *testing.T) {
	for _, before := range []string{"", "\x80", "x\x00"} {
		at := len(before)
		for _, n := range unsigned() {
			for i := range len(Uint(n)) {
				if got, to, e := TakeUint(before+Uint(n)[:i], at); got != 0 || to != 0 || e != api.ErrTruncated {
					t.Errorf("%d bytes of Uint(%d): %d, %d, %d", i, n, got, to, e)
				}
			}
		}
		for _, n := range signed() {
			for i := range len(Int(n)) {
				if got, to, e := TakeInt(before+Int(n)[:i], at); got != 0 || to != 0 || e != api.ErrTruncated {
					t.Errorf("%d bytes of Int(%d): %d, %d, %d", i, n, got, to, e)
				}
			}
		}
		if b, to, e := TakeBool(before, at); b || to != 0 || e != api.ErrTruncated {
			t.Errorf("no byte of a Bool: %t, %d, %d", b, to, e)
		}
	}
}

// beginnings are some of the numbers from 0 to n - 1: all if there are few, and otherwise those near both ends.
func beginnings(n int) []int {
	var l []int
	for i := range n {
		if i < 200 || i > n-200 {
			l = append(l, i)
		}
	}
	return l
}

// P3.5: the beginnings of texts and lists.
func TestBeginningsOfLists(t *testing.T) {
	for _, s := range texts() {
		encoding := Text(s)
		for _, i := range beginnings(len(encoding)) {
			if got, to, e := TakeText(encoding[:i], 0, len(s)); got != "" || to != 0 || e != api.ErrTruncated {
				t.Errorf("%d bytes of a text of %d: %d, %d", i, len(s), to, e)
			}
			if n, to, e := TakeCount(encoding[:i], 0, len(s)); n != 0 || to != 0 || e != api.ErrTruncated {
				t.Errorf("%d bytes of a text of %d: the length %d, %d, %d", i, len(s), n, to, e)
			}
		}
	}
	for _, l := range lists() {
		encoding := Ints(l)
		for _, i := range beginnings(len(encoding)) {
			if got, to, e := TakeInts("?"+encoding[:i], 1, len(l)); len(got) != 0 || to != 0 || e != api.ErrTruncated {
				t.Errorf("%d bytes of a list of %d numbers: %d, %d", i, len(l), to, e)
			}
		}
	}
}

// P3.6
func TestLengthsOfNumbers(t *testing.T) {
	last := 1
	for _, n := range unsigned() {
		length := len(Uint(n))
		if length < last || length > 10 {
			t.Errorf("Uint(%d) has %d bytes, a smaller number has %d", n, length, last)
		}
		last = length
	}
	if last != 10 {
		t.Errorf("the greatest number has %d bytes, want 10", last)
	}
	last = 1
	for _, n := range signed() {
		if len(Int(n)) > 10 {
			t.Errorf("Int(%d) has %d bytes", n, len(Int(n)))
		}
		if n >= 0 {
			if len(Int(n)) < last {
				t.Errorf("Int(%d) has %d bytes, a smaller number has %d", n, len(Int(n)), last)
			}
			last = len(Int(n))
		}
	}
}

// General rule 0.4: the argument of Ints is kept.
func TestIntsKeepsItsArgument(t *testing.T) {
	whole := []int{3, -4, 5, 77, 77}
	Ints(whole[:3])
	if !slices.Equal(whole, []int{3, -4, 5, 77, 77}) {
		t.Errorf("the argument became %v", whole)
	}
}

// General rule 0.4: lists that are decoded from one text share no memory.
func TestListsAreNew(t *testing.T) {
	s := Ints([]int{1, 2, 3}) + Ints([]int{4, 5, 6})
	first, at, _ := TakeInts(s, 0, 3)
	second, _, _ := TakeInts(s, at, 3)
	again, _, _ := TakeInts(s, 0, 3)
	first[0] = 99
	_ = append(first, 99, 99, 99, 99)
	if !slices.Equal(second, []int{4, 5, 6}) || !slices.Equal(again, []int{1, 2, 3}) {
		t.Errorf("the other lists became %v and %v", second, again)
	}
}

// The parts that are cut from a text have no room behind them.
func TestPart(t *testing.T) {
	for _, c := range []struct {
		from, to int
		want     string
	}{{0, 0, ""}, {0, 2, "ab"}, {1, 3, "bc"}, {4, 4, ""}, {0, 4, "abcd"}} {
		got := part("abcd", c.from, c.to)
		if string(got) != c.want || cap(got) != len(got) {
			t.Errorf("part(abcd, %d, %d) = %q with the capacity %d", c.from, c.to, got, cap(got))
		}
	}
}
