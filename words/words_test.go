package words

import (
	"fmt"
	"math"
	"math/big"
	"regexp"
	"slices"
	"strings"
	"testing"

	"signalling/api"
)

// The chapter's definitions as patterns, which share nothing with what is tested.
var (
	linePattern    = regexp.MustCompile(`\A[\x21-\x7e]{1,64}( [\x21-\x7e]{1,64})*\n\z`)
	decimalPattern = regexp.MustCompile(`\A(0|-?[1-9][0-9]*)\z`)
	namePattern    = regexp.MustCompile(`\A[a-z][a-z0-9_]{0,11}\z`)
)

// wordOf is a word of so many bytes.
func wordOf(length int) string {
	return strings.Repeat("w", length)
}

// smallTexts are all texts of at most length of some parts.
func smallTexts(length int, some ...string) []string {
	list := []string{""}
	for from := 0; length > 0; length-- {
		shorter := list[from:]
		from = len(list)
		for _, s := range shorter {
			for _, part := range some {
				list = append(list, s+part)
			}
		}
	}
	return list
}

// short is a text as it is shown in the messages of tests.
func short(s string) string {
	if len(s) <= 40 {
		return fmt.Sprintf("%q", s)
	}
	return fmt.Sprintf("%q.. of %d bytes", s[:40], len(s))
}

func sameLines(a, b [][]string) bool {
	return slices.EqualFunc(a, b, slices.Equal[[]string])
}

// otherLines divides a text by other means: every line with its line feed, and what is left.
func otherLines(s string) ([][]string, int, api.Errno) {
	var lines [][]string
	for i, line := range strings.SplitAfter(s, "\n") {
		if line == "" && i == strings.Count(s, "\n") {
			break
		}
		if !linePattern.MatchString(line) {
			return nil, i + 1, api.ErrSyntax
		}
		lines = append(lines, strings.Fields(line))
	}
	return lines, 0, api.OK
}

func checkLines(t *testing.T, s string, want [][]string, number int, e api.Errno) {
	t.Helper()
	got, n, gotE := Lines(s)
	if !sameLines(got, want) || n != number || gotE != e {
		t.Errorf("Lines(%s) = %d lines, %d, %d, want %d lines, %d, %d", short(s), len(got), n, gotE, len(want), number, e)
	}
}

// P5.1
func TestLines(t *testing.T) {
	for _, c := range []struct {
		s    string
		want [][]string
	}{
		{"", nil}, {"a\n", [][]string{{"a"}}}, {"a b\nc\n", [][]string{{"a", "b"}, {"c"}}},
		{"!\n", [][]string{{"!"}}}, {"~\n", [][]string{{"~"}}}, {"! ~ !~\n~!\n", [][]string{{"!", "~", "!~"}, {"~!"}}},
		{"- 0,1 # \"x\"\n\\n %20\n", [][]string{{"-", "0,1", "#", "\"x\""}, {"\\n", "%20"}}},
		{"a\na\na a\n", [][]string{{"a"}, {"a"}, {"a", "a"}}},
		{strings.Repeat("x ", 999) + "x\n", [][]string{slices.Repeat([]string{"x"}, 1000)}},
	} {
		checkLines(t, c.s, c.want, 0, api.OK)
	}
}

// P5.1: the first line that is not as described, whatever follows.
func TestLinesErrors(t *testing.T) {
	for _, c := range []struct {
		s      string
		number int
	}{
		{"a", 1}, {"a b\nc", 2}, {"a\nb\nc", 3}, {"a\n ", 2}, {"a\n\xff", 2},
		{"\n", 1}, {"\n\n", 1}, {"a\n\n", 2}, {"a\n\nb\n", 2}, {"\na\n", 1}, {"a\nb\n\n", 3}, {"a\n\nb", 2}, {"\nb", 1},
		{" ", 1}, {" \n", 1}, {"  \n", 1}, {" a\n", 1}, {"a \n", 1}, {"a  b\n", 1}, {"a b  c\n", 1}, {"a\n b\n", 2}, {"a\nb \n", 2},
		{"a\tb\n", 1}, {"\ta\n", 1}, {"a\r\n", 1}, {"a\nb\r\nc\n", 2}, {"a\x00\n", 1}, {"a\vb\n", 1}, {"a\x7f\n", 1},
		{"zwölf\n", 1}, {"a\nb \u00a0\n", 2}, {"a\u2028b\n", 1}, {"\xe2\x80\n", 1}, {"\U0001f682\n", 1}, {"a\u0085b\n", 1},
		{"a\nb\nc d \ne  f\n\n", 3}, {"a b\n \n\xff\nc", 2},
	} {
		checkLines(t, c.s, nil, c.number, api.ErrSyntax)
	}
}

// P5.1: every byte at every place of a word; of the bytes from 128 on also such that follow each other.
func TestLinesBytes(t *testing.T) {
	for b := range 256 {
		c := string([]byte{byte(b)})
		for _, word := range []string{c, c + "x", "x" + c, "x" + c + "y", c + c} {
			for _, line := range []string{word, "a " + word, word + " b", "a " + word + " b"} {
				want, number, e := otherLines("a\n" + line + "\nb\n")
				if b > ' ' && b < 0x7f && e != api.OK || (b < ' ' && b != '\n' || b > '~') && e == api.OK {
					t.Fatalf("the test is wrong about the byte %d", b)
				}
				checkLines(t, "a\n"+line+"\nb\n", want, number, e)
			}
		}
	}
}

// P5.1: words of 1 to 70 bytes, at each place of a line.
func TestLinesWordLengths(t *testing.T) {
	for length := 1; length <= 70; length++ {
		word := wordOf(length)
		for _, line := range [][]string{{word}, {word, "b"}, {"a", word}, {"a", word, "b"}, {word, word}, {wordOf(64), word}} {
			s := "a\n" + strings.Join(line, " ") + "\nb\n"
			if length <= 64 {
				checkLines(t, s, [][]string{{"a"}, line, {"b"}}, 0, api.OK)
			} else {
				checkLines(t, s, nil, 2, api.ErrSyntax)
			}
		}
	}
}

// P5.1: all small texts, against the pattern of a line.
func TestLinesExact(t *testing.T) {
	for _, s := range smallTexts(7, "a", "~", " ", "\n", "\x7f") {
		want, number, e := otherLines(s)
		checkLines(t, s, want, number, e)
	}
	for _, s := range smallTexts(6, "b", " ", "\n", wordOf(63), wordOf(64), "ü") {
		want, number, e := otherLines(s)
		checkLines(t, s, want, number, e)
	}
}

// P5.1: texts of MaxText bytes and of one more; the limit comes before the form.
func TestLinesLimit(t *testing.T) {
	full := strings.Repeat("a\n", api.MaxText/2)
	checkLines(t, full, slices.Repeat([][]string{{"a"}}, api.MaxText/2), 0, api.OK)
	checkLines(t, full[:api.MaxText-2]+"a ", nil, api.MaxText/2, api.ErrSyntax)
	checkLines(t, full[:api.MaxText-1]+"b", nil, api.MaxText/2, api.ErrSyntax)
	checkLines(t, strings.Repeat("\n", api.MaxText), nil, 1, api.ErrSyntax)
	checkLines(t, strings.Repeat("x", api.MaxText), nil, 1, api.ErrSyntax)
	for _, s := range []string{"a" + full, full + "a", full + "\n", full + full, strings.Repeat("\n", api.MaxText+1), strings.Repeat("x", api.MaxText+1), strings.Repeat("\xff", 2*api.MaxText)} {
		checkLines(t, s, nil, 0, api.ErrLimit)
	}
}

// General rule 0.4: the lines of a result share no memory with each other, nor with those of another result.
func TestLinesAreNew(t *testing.T) {
	s := "a b\nc d\ne\n"
	first, _, _ := Lines(s)
	again, _, _ := Lines(s)
	first[0][0], first[1][1] = "x", "y"
	for i := range first {
		_ = append(first[i], "z", "z")
	}
	_ = append(first[:1], []string{"z"})
	if !sameLines(again, [][]string{{"a", "b"}, {"c", "d"}, {"e"}}) {
		t.Errorf("another result became %q", again)
	}
	other, _, _ := Lines(s)
	for i := range other {
		_ = append(other[i], "z", "z")
	}
	if !sameLines(other, [][]string{{"a", "b"}, {"c", "d"}, {"e"}}) {
		t.Errorf("after appending to its lines the result is %q", other)
	}
}

func checkJoin(t *testing.T, l [][]string, want string, e api.Errno) {
	t.Helper()
	if got, gotE := Join(l); got != want || gotE != e {
		t.Errorf("Join of %d lines = %s, %d, want %s, %d", len(l), short(got), gotE, short(want), e)
	}
}

// P5.2
func TestJoin(t *testing.T) {
	for _, c := range []struct {
		l    [][]string
		want string
	}{
		{nil, ""}, {[][]string{}, ""}, {[][]string{{"a"}}, "a\n"}, {[][]string{{"a", "b"}, {"c"}}, "a b\nc\n"},
		{[][]string{{"!"}, {"~", "!~"}}, "!\n~ !~\n"}, {[][]string{{"a"}, {"a"}, {"a", "a", "a"}}, "a\na\na a a\n"},
		{[][]string{{wordOf(64), wordOf(64)}, {wordOf(1)}}, wordOf(64) + " " + wordOf(64) + "\nw\n"},
	} {
		checkJoin(t, c.l, c.want, api.OK)
	}
}

// P5.2: lines without words, and what is no word, at every place.
func TestJoinErrors(t *testing.T) {
	for _, l := range [][][]string{{{}}, {nil}, {{}, {"a"}}, {{"a"}, nil}, {{"a"}, {}, {"b"}}, {nil, nil}} {
		checkJoin(t, l, "", api.ErrArg)
	}
	for _, word := range []string{
		"", " ", "\n", "a b", " a", "a ", "a\n", "\na", "a\nb", "\t", "a\r", "\x00", "\x7f", "\x80", "\xff", "a\xffb", "zwölf", "\u00a0", wordOf(65), wordOf(66), wordOf(1000),
	} {
		for _, l := range [][][]string{{{word}}, {{word, "b"}}, {{"a", word}}, {{"a", word, "b"}}, {{"a"}, {word}}, {{word}, {"b"}}, {{"a"}, {"b", word}, {"c"}}} {
			checkJoin(t, l, "", api.ErrArg)
		}
	}
}

// P5.2: every byte at every place of a word.
func TestJoinBytes(t *testing.T) {
	for b := range 256 {
		c := string([]byte{byte(b)})
		for _, word := range []string{c, c + "x", "x" + c, "x" + c + "y", c + c} {
			if b > ' ' && b < 0x7f {
				checkJoin(t, [][]string{{"a", word}}, "a "+word+"\n", api.OK)
			} else {
				checkJoin(t, [][]string{{"a", word}}, "", api.ErrArg)
			}
		}
	}
}

// P5.2: texts of MaxText bytes and of one more; a word that is not as described comes before the limit.
func TestJoinLimit(t *testing.T) {
	single := slices.Repeat([][]string{{"a"}}, api.MaxText/2)
	checkJoin(t, single, strings.Repeat("a\n", api.MaxText/2), api.OK)
	checkJoin(t, append(slices.Clone(single[1:]), []string{"ab"}), "", api.ErrLimit)
	checkJoin(t, append(slices.Clone(single), []string{"a"}), "", api.ErrLimit)
	line := slices.Repeat([]string{wordOf(63)}, api.MaxText/64)
	checkJoin(t, [][]string{line}, strings.Repeat(wordOf(63)+" ", api.MaxText/64-1)+wordOf(63)+"\n", api.OK)
	checkJoin(t, [][]string{append(slices.Clone(line[1:]), wordOf(64))}, "", api.ErrLimit)
	checkJoin(t, [][]string{line, {"a"}}, "", api.ErrLimit)
	checkJoin(t, [][]string{line, line, {}}, "", api.ErrArg)
	checkJoin(t, [][]string{line, line, {"a", ""}}, "", api.ErrArg)
	checkJoin(t, [][]string{{wordOf(65)}, line, line}, "", api.ErrArg)
	checkJoin(t, append(slices.Clone(single), single...), "", api.ErrLimit)
}

// General rule 0.4: the lines are kept.
func TestJoinKeepsItsArgument(t *testing.T) {
	l := [][]string{{"a", "b"}, {"c"}, {"d", ""}}
	Join(l)
	Join(l[:2])
	if !sameLines(l, [][]string{{"a", "b"}, {"c"}, {"d", ""}}) {
		t.Errorf("the argument became %q", l)
	}
}

// numbers are numbers around 0, around the powers of 2 and of 10, and at the ends of the range.
func numbers() []int {
	list := []int{math.MinInt, math.MinInt + 1, math.MaxInt - 1, math.MaxInt}
	for n := range 1200 {
		list = append(list, n, -n)
	}
	for bits := range 63 {
		list = append(list, 1<<bits, 1<<bits-1, -1<<bits, -1<<bits-1)
	}
	for n := 1; n <= math.MaxInt/10; n *= 10 {
		list = append(list, n*10, n*10-1, -n*10, 1-n*10)
	}
	return list
}

func checkInt(t *testing.T, s string, want int, e api.Errno) {
	t.Helper()
	if n, gotE := Int(s); n != want || gotE != e {
		t.Errorf("Int(%s) = %d, %d, want %d, %d", short(s), n, gotE, want, e)
	}
}

// P5.3
func TestInt(t *testing.T) {
	for _, c := range []struct {
		s    string
		want int
	}{
		{"0", 0}, {"1", 1}, {"7", 7}, {"9", 9}, {"10", 10}, {"-1", -1}, {"-12", -12}, {"100", 100}, {"-1000", -1000}, {"1234567890", 1234567890},
		{"9223372036854775807", math.MaxInt}, {"9223372036854775806", math.MaxInt - 1},
		{"-9223372036854775808", math.MinInt}, {"-9223372036854775807", math.MinInt + 1},
	} {
		checkInt(t, c.s, c.want, api.OK)
	}
}

// P5.3: other forms, also of integers that are no int.
func TestIntSyntax(t *testing.T) {
	for _, s := range []string{
		"", "-", "--", "-0", "+0", "+1", "+", "00", "01", "007", "-01", "-00", "--1", "-+1", "1-", "1-2", "-1-", " 1", "1 ", "- 1", "1\n", "\n", "\x001", "1\x00",
		"1e3", "1.0", "1.", ".1", "0x10", "0b1", "0o7", "1_000", "1,000", "a", "-a", "1a", "a1", "inf", "NaN", "/", ":", "1/", "1:",
		"\u0661", "\uff11", "1\u0661", "-\u0661", "\u22121", "\xff", "1\xff", "\xb2", "-\x80",
		"09223372036854775807", "+9223372036854775807", "9223372036854775808x", "99999999999999999999x", "099999999999999999999", "-099999999999999999999", "9999999999_9999999999",
	} {
		checkInt(t, s, 0, api.ErrSyntax)
	}
}

// P5.3: integers that are no int.
func TestIntOverflow(t *testing.T) {
	for _, s := range []string{
		"9223372036854775808", "-9223372036854775809", "9223372036854775810", "-9223372036854775810", "10000000000000000000", "-10000000000000000000",
		"18446744073709551615", "18446744073709551616", "18446744073709551617", "-18446744073709551616", "99999999999999999999", "-99999999999999999999",
		"340282366920938463463374607431768211456", strings.Repeat("9", 5000), "-1" + strings.Repeat("0", api.MaxText),
	} {
		checkInt(t, s, 0, api.ErrOverflow)
	}
}

// exactInt reads a number without a range.
func exactInt(s string) (int, api.Errno) {
	if !decimalPattern.MatchString(s) {
		return 0, api.ErrSyntax
	}
	n, _ := new(big.Int).SetString(s, 10)
	if !n.IsInt64() {
		return 0, api.ErrOverflow
	}
	return int(n.Int64()), api.OK
}

// P5.3: small texts, every byte, and the integers around the ends of the range.
func TestIntExact(t *testing.T) {
	list := smallTexts(5, "-", "0", "1", "9", "+", "_", " ")
	for b := range 256 {
		c := string([]byte{byte(b)})
		list = append(list, c, "-"+c, c+"1", "1"+c, "1"+c+"1", "-1"+c, "-"+c+"1")
	}
	for offset := range int64(2000) {
		near := big.NewInt(offset - 1000)
		list = append(list, new(big.Int).Add(near, big.NewInt(math.MaxInt)).String(), new(big.Int).Add(near, big.NewInt(math.MinInt)).String())
	}
	for _, s := range list {
		want, e := exactInt(s)
		checkInt(t, s, want, e)
	}
}

// P5.3
func TestFormat(t *testing.T) {
	for _, c := range []struct {
		n    int
		want string
	}{
		{0, "0"}, {1, "1"}, {9, "9"}, {10, "10"}, {-1, "-1"}, {-12, "-12"}, {100, "100"}, {-100, "-100"},
		{math.MaxInt, "9223372036854775807"}, {math.MinInt, "-9223372036854775808"}, {math.MinInt + 1, "-9223372036854775807"},
	} {
		if got := Format(c.n); got != c.want {
			t.Errorf("Format(%d) = %q, want %q", c.n, got, c.want)
		}
	}
	for _, n := range numbers() {
		got := Format(n)
		if got != big.NewInt(int64(n)).String() || !decimalPattern.MatchString(got) {
			t.Errorf("Format(%d) = %q", n, got)
		}
	}
}

// P5.4
func TestName(t *testing.T) {
	for _, s := range []string{"a", "z", "s1", "s_1", "a_", "a__", "a0", "z9_z", "abcdefghijkl", "a12345678901", "a___________"} {
		if !Name(s) {
			t.Errorf("%q should be a name", s)
		}
	}
	for _, s := range []string{
		"", "1", "0a", "9", "_", "_a", "A", "aB", "Ab", "aZ", "a-b", "a b", " a", "a ", "a\n", "a.", "-", "ü", "aü", "a\xff", "\xe1", "a\x00", "\u0430", "a\u0661",
		"abcdefghijklm", "a123456789012", "a____________", strings.Repeat("a", 1000), "abcdefghijkü",
	} {
		if Name(s) {
			t.Errorf("%q should be no name", s)
		}
	}
}

// P5.4: every byte at every place, every length, and small texts, against the pattern.
func TestNameExact(t *testing.T) {
	list := smallTexts(5, "a", "z", "0", "_", "A", " ", "é")
	for b := range 256 {
		c := string([]byte{byte(b)})
		list = append(list, c, c+"a", "a"+c, "a"+c+"a", c+c, "a"+c+c, "abcdefghijk"+c, "abcdefghijkl"+c, c+"abcdefghijk")
	}
	for length := range 20 {
		for _, c := range []string{"a", "z", "0", "_", "A"} {
			list = append(list, "a"+strings.Repeat(c, length))
		}
	}
	for _, s := range list {
		if got := Name(s); got != namePattern.MatchString(s) {
			t.Errorf("Name(%q) = %t", s, got)
		}
	}
}

// lists have no numbers, one, equal ones, those at the ends of the range, and more than a word or a text can hold.
func lists() [][]int {
	return [][]int{
		nil, {}, {0}, {-1}, {5}, {3, -1, 3}, {0, 0, 0}, {3, -1, 0}, {math.MinInt}, {math.MaxInt, math.MinInt, 0},
		numbers(), slices.Repeat([]int{-5000, 7}, 9000), make([]int, api.MaxText),
	}
}

func checkList(t *testing.T, s string, want []int, e api.Errno) {
	t.Helper()
	if got, gotE := List(s); !slices.Equal(got, want) || gotE != e {
		t.Errorf("List(%s) = %d numbers, %d, want %d numbers, %d", short(s), len(got), gotE, len(want), e)
	}
}

// P5.5
func TestList(t *testing.T) {
	for _, c := range []struct {
		s    string
		want []int
	}{
		{"-", nil}, {"0", []int{0}}, {"5", []int{5}}, {"-7", []int{-7}}, {"3,-1,3", []int{3, -1, 3}}, {"0,0", []int{0, 0}}, {"9,10,-10,1", []int{9, 10, -10, 1}},
		{"9223372036854775807,-9223372036854775808", []int{math.MaxInt, math.MinInt}},
		{strings.Repeat("12,", api.MaxText) + "12", slices.Repeat([]int{12}, api.MaxText+1)},
	} {
		checkList(t, c.s, c.want, api.OK)
	}
}

// P5.5: the error of the first part that has one, and no numbers beside it.
func TestListErrors(t *testing.T) {
	for _, s := range []string{
		"", ",", ",,", ",1", "1,", "3,,1", "1,2,", ",-", "-,", "-,-", "-,1", "1,-", "--", " -", "- ", "1, 2", "1 ,2", " 1", "1\n", "1;2", "1.2", "x", "1,x", "1,2,x,3",
		"01", "1,01", "-0", "1,-0", "+1", "1,+1", "x,99999999999999999999", "1,,99999999999999999999", "1,-\n", "\xff", "1\xff,2",
	} {
		checkList(t, s, nil, api.ErrSyntax)
	}
	for _, s := range []string{
		"99999999999999999999", "9223372036854775808", "1,-9223372036854775809", "1,99999999999999999999,x", "99999999999999999999,", "2,99999999999999999999,,3",
	} {
		checkList(t, s, nil, api.ErrOverflow)
	}
}

// exactList reads the parts one by one, without a range.
func exactList(s string) ([]int, api.Errno) {
	if s == "-" {
		return nil, api.OK
	}
	var l []int
	for _, part := range strings.Split(s, ",") {
		n, e := exactInt(part)
		if e != api.OK {
			return nil, e
		}
		l = append(l, n)
	}
	return l, api.OK
}

// P5.5: small texts.
func TestListExact(t *testing.T) {
	for _, s := range smallTexts(6, "-", ",", "0", "7", "9223372036854775807") {
		want, e := exactList(s)
		checkList(t, s, want, e)
	}
}

// P5.5
func TestFormatList(t *testing.T) {
	for _, c := range []struct {
		l    []int
		want string
	}{
		{nil, "-"}, {[]int{}, "-"}, {[]int{0}, "0"}, {[]int{-7}, "-7"}, {[]int{3, -1, 0}, "3,-1,0"}, {[]int{3, -1, 3}, "3,-1,3"}, {[]int{0, 0}, "0,0"},
		{[]int{math.MaxInt, math.MinInt}, "9223372036854775807,-9223372036854775808"},
		{make([]int, api.MaxText), strings.Repeat("0,", api.MaxText-1) + "0"},
	} {
		if got := FormatList(c.l); got != c.want {
			t.Errorf("FormatList of %d numbers = %s, want %s", len(c.l), short(got), short(c.want))
		}
	}
}

// General rule 0.4: FormatList keeps its argument, and results of List share no memory.
func TestListsAreNew(t *testing.T) {
	whole := []int{3, -4, 5, 77, 77}
	FormatList(whole[:3])
	if !slices.Equal(whole, []int{3, -4, 5, 77, 77}) {
		t.Errorf("the argument became %v", whole)
	}
	first, _ := List("1,2,3")
	again, _ := List("1,2,3")
	first[0] = 99
	_ = append(first, 99)
	if !slices.Equal(again, []int{1, 2, 3}) {
		t.Errorf("another result became %v", again)
	}
}

// P5.6: the lines of a joined text.
func TestJoinedLines(t *testing.T) {
	parts := []string{"", "a", "!~", "a b", "\n", wordOf(64), wordOf(65), "ü"}
	var lines [][]string
	for _, a := range parts {
		lines = append(lines, []string{a})
		for _, b := range parts {
			lines = append(lines, []string{a, b})
		}
	}
	lines = append(lines, nil, slices.Repeat([]string{"x"}, 500))
	list := [][][]string{nil, lines, slices.Repeat([][]string{{"a", "b"}}, api.MaxText/4), slices.Repeat([][]string{{"a", "b"}}, api.MaxText/4+1)}
	for _, first := range lines {
		list = append(list, [][]string{first})
		for _, second := range lines {
			list = append(list, [][]string{first, second})
		}
	}
	joined := 0
	for _, l := range list {
		s, e := Join(l)
		if e != api.OK {
			continue
		}
		joined++
		if got, n, e := Lines(s); !sameLines(got, l) || n != 0 || e != api.OK {
			t.Errorf("the lines of %s are %d lines, %d, %d, want %d lines", short(s), len(got), n, e, len(l))
		}
	}
	if joined < 100 {
		t.Errorf("only %d texts are joined", joined)
	}
}

// P5.6: the joined lines of a text.
func TestLinesAreJoined(t *testing.T) {
	list := append(smallTexts(7, "a", "~", " ", "\n"), strings.Repeat("ab c\n", api.MaxText/5), strings.Repeat("a\n", api.MaxText/2), strings.Repeat(wordOf(63)+"\n", api.MaxText/64))
	accepted := 0
	for _, s := range list {
		l, _, e := Lines(s)
		if e != api.OK {
			continue
		}
		accepted++
		checkJoin(t, l, s, api.OK)
	}
	if accepted < 100 {
		t.Errorf("only %d texts are accepted", accepted)
	}
}

// P5.6: numbers and lists are restored from their forms.
func TestFormsAreRead(t *testing.T) {
	for _, n := range numbers() {
		checkInt(t, Format(n), n, api.OK)
	}
	for _, l := range lists() {
		checkList(t, FormatList(l), l, api.OK)
	}
}

// P5.6: what is accepted is the form of the result.
func TestOnlyFormsAreRead(t *testing.T) {
	list := smallTexts(6, "-", ",", "0", "1", "+", "9223372036854775808")
	for b := range 256 {
		c := string([]byte{byte(b)})
		list = append(list, c, c+"1", "1"+c, "1"+c+"1", "-1"+c, "1,"+c, c+",1")
	}
	for _, s := range list {
		if n, e := Int(s); e == api.OK && Format(n) != s {
			t.Errorf("Int(%q) = %d, which is formatted as %q", s, n, Format(n))
		}
		if l, e := List(s); e == api.OK && FormatList(l) != s {
			t.Errorf("List(%q) = %d, which is formatted as %q", s, l, FormatList(l))
		}
	}
}
