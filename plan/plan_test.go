package plan

import (
	"fmt"
	"math"
	"math/rand"
	"reflect"
	"regexp"
	"slices"
	"strconv"
	"strings"
	"testing"

	"signalling/api"
	"signalling/layout"
)

// lineText is the text of the example 1.
const lineText = `layout line
section a
section b
track a a 20000 0 1000
track b b 20000 0 1000
joint a 1 b 0
signal s1 a 1 0
`

func line() api.Layout {
	return api.Layout{
		Name:     "line",
		Sections: []string{"a", "b"},
		Elements: []api.Element{
			{Name: "a", Kind: api.ElTrack, Length: 20000, Speed: 1000, Section: 0},
			{Name: "b", Kind: api.ElTrack, Length: 20000, Speed: 1000, Section: 1},
		},
		Joints:  []api.Joint{{A: api.End{El: 0, Side: 1}, B: api.End{El: 1, Side: 0}}},
		Signals: []api.Signal{{Name: "s1", At: api.End{El: 0, Side: 1}}},
	}
}

// yardText has all forms of lines, and elements of all kinds in no order.
const yardText = `layout yard
section x
section y
section z
cross q y 800 0 1000
track a x 1000 -50 2000
points p y 700 3 2000 900
track n z 5000 50 3000
points r z 6000 -1 1500 1500
track e y 900 0 1000
joint a 1 p 0
joint n 0 p 1
joint p 2 r 0
joint n 1 q 0
joint q 2 r 1
joint q 3 e 0
signal s a 1 300
signal t n 0 0
signal u q 0 100
balise 7 a 400
balise 3 p 0
balise 9 q 800
`

func yard() api.Layout {
	return api.Layout{
		Name:     "yard",
		Sections: []string{"x", "y", "z"},
		Elements: []api.Element{
			{Name: "q", Kind: api.ElCross, Length: 800, Speed: 1000, Section: 1},
			{Name: "a", Kind: api.ElTrack, Length: 1000, Grade: -50, Speed: 2000, Section: 0},
			{Name: "p", Kind: api.ElPoint, Length: 700, Grade: 3, Speed: 2000, Slow: 900, Section: 1},
			{Name: "n", Kind: api.ElTrack, Length: 5000, Grade: 50, Speed: 3000, Section: 2},
			{Name: "r", Kind: api.ElPoint, Length: 6000, Grade: -1, Speed: 1500, Slow: 1500, Section: 2},
			{Name: "e", Kind: api.ElTrack, Length: 900, Speed: 1000, Section: 1},
		},
		Joints: []api.Joint{
			{A: api.End{El: 1, Side: 1}, B: api.End{El: 2, Side: 0}},
			{A: api.End{El: 3, Side: 0}, B: api.End{El: 2, Side: 1}},
			{A: api.End{El: 2, Side: 2}, B: api.End{El: 4, Side: 0}},
			{A: api.End{El: 3, Side: 1}, B: api.End{El: 0, Side: 0}},
			{A: api.End{El: 0, Side: 2}, B: api.End{El: 4, Side: 1}},
			{A: api.End{El: 0, Side: 3}, B: api.End{El: 5, Side: 0}},
		},
		Signals: []api.Signal{
			{Name: "s", At: api.End{El: 1, Side: 1}, Overlap: 300},
			{Name: "t", At: api.End{El: 3, Side: 0}},
			{Name: "u", At: api.End{El: 0, Side: 0}, Overlap: 100},
		},
		Balises: []api.Balise{{Id: 7, El: 1, Offset: 400}, {Id: 3, El: 2}, {Id: 9, El: 0, Offset: 800}},
	}
}

// full is a layout at all limits: crossings in two rings, all of whose ends are joined, with the longest names and numbers.
func full() api.Layout {
	l := api.Layout{Name: "abcdefghij_9"}
	for i := range api.MaxSections {
		l.Sections = append(l.Sections, fmt.Sprintf("section___%02d", i))
	}
	for i := range api.MaxElements {
		next := (i + 1) % api.MaxElements
		l.Elements = append(l.Elements, api.Element{Name: fmt.Sprintf("element___%02d", i), Kind: api.ElCross, Length: api.MaxLength, Grade: -api.MaxGrade, Speed: api.MaxSpeed, Section: i % api.MaxSections})
		l.Joints = append(l.Joints, api.Joint{A: api.End{El: i, Side: 1}, B: api.End{El: next, Side: 0}})
		l.Joints = append(l.Joints, api.Joint{A: api.End{El: next, Side: 2}, B: api.End{El: i, Side: 3}})
	}
	for i := range api.MaxSignals {
		l.Signals = append(l.Signals, api.Signal{Name: fmt.Sprintf("signal____%02d", i), At: api.End{El: i, Side: i % 4}, Overlap: api.MaxLength})
	}
	for i := range api.MaxBalises {
		l.Balises = append(l.Balises, api.Balise{Id: api.MaxCount - i, El: i, Offset: api.MaxLength})
	}
	return l
}

// single is a layout of the least size, with the least numbers.
func single() api.Layout {
	return api.Layout{Name: "l", Sections: []string{"s"}, Elements: []api.Element{{Name: "e", Kind: api.ElPoint, Length: 500, Grade: -50, Speed: 100, Slow: 100}}}
}

// valid has valid layouts of all sizes.
func valid() []api.Layout {
	return []api.Layout{line(), yard(), full(), single()}
}

// same compares layouts; a nil list and an empty one are equal.
func same(a, b api.Layout) bool {
	return a.Name == b.Name && slices.Equal(a.Sections, b.Sections) && slices.Equal(a.Elements, b.Elements) &&
		slices.Equal(a.Joints, b.Joints) && slices.Equal(a.Signals, b.Signals) && slices.Equal(a.Balises, b.Balises)
}

// short is a text as it is shown in the messages of tests.
func short(s string) string {
	if len(s) <= 300 {
		return fmt.Sprintf("%q", s)
	}
	return fmt.Sprintf("%q.. of %d bytes", s[:300], len(s))
}

func checkPrint(t *testing.T, what string, l api.Layout, want string, err api.Errno) {
	t.Helper()
	if got, e := Print(l); got != want || e != err {
		t.Errorf("%s: Print = %s, %d, want %s, %d", what, short(got), e, short(want), err)
	}
}

func checkParse(t *testing.T, s string, want api.Layout, at int, err api.Errno) {
	t.Helper()
	got, line, e := Parse(s)
	if !same(got, want) || line != at || e != err {
		t.Errorf("Parse(%s) = %v, %d, %d, want %v, %d, %d", short(s), got, line, e, want, at, err)
	}
}

func checkError(t *testing.T, s string, at int, err api.Errno) {
	t.Helper()
	checkParse(t, s, api.Layout{}, at, err)
}

// linesOf are the lines of a text, each with its line feed.
func linesOf(s string) []string {
	lines := strings.SplitAfter(s, "\n")
	return lines[:len(lines)-1]
}

// withLine is a text with another line, counted from 1.
func withLine(s string, at int, line string) string {
	lines := linesOf(s)
	lines[at-1] = line + "\n"
	return strings.Join(lines, "")
}

// patterns are the table of the chapter: a form a row, in the order of the lines. N is a name, S a section, E an element, and I a number.
var patterns = []struct {
	place int
	form  string
}{
	{0, "layout N"}, {1, "section N"}, {2, "track N S I I I"}, {2, "points N S I I I I"}, {2, "cross N S I I I"},
	{3, "joint E I E I"}, {4, "signal N E I I"}, {5, "balise I E I"},
}

// The chapter's lines as regular expressions, which share nothing with what is tested.
var (
	anyLine     = regexp.MustCompile(`\A[!-~]{1,64}( [!-~]{1,64})*\n\z`)
	expressions = func() []*regexp.Regexp {
		var list []*regexp.Regexp
		for _, p := range patterns {
			pattern := regexp.MustCompile("[NSE]").ReplaceAllString(p.form, `([!-~]{1,64})`)
			list = append(list, regexp.MustCompile(`\A`+strings.ReplaceAll(pattern, "I", `(0|-?[1-9][0-9]*)`)+`\n\z`))
		}
		return list
	}()
)

// fieldsOf tells the form of a line, and what its words stand for; there is no form -1.
func fieldsOf(line string) (int, []string) {
	for i, p := range patterns {
		found := expressions[i].FindStringSubmatch(line)
		if found == nil {
			continue
		}
		for k, letter := range strings.Fields(p.form)[1:] {
			if _, err := strconv.ParseInt(found[k+1], 10, strconv.IntSize); letter == "I" && err != nil {
				return -1, nil
			}
		}
		return i, found[1:]
	}
	return -1, nil
}

// otherParse reads a text as the chapter says, by other means. A line whose words are not as described has no form either.
func otherParse(s string) (api.Layout, int, api.Errno) {
	if len(s) > api.MaxText {
		return api.Layout{}, 0, api.ErrLimit
	}
	if s == "" {
		return api.Layout{}, 1, api.ErrSyntax
	}
	lines := strings.SplitAfter(s, "\n")
	if lines[len(lines)-1] == "" {
		lines = lines[:len(lines)-1]
	}
	if i := slices.IndexFunc(lines, func(line string) bool { return !anyLine.MatchString(line) }); i >= 0 {
		return api.Layout{}, i + 1, api.ErrSyntax
	}
	var l api.Layout
	var places []int
	for i, line := range lines {
		form, words := fieldsOf(line)
		if form < 0 || (patterns[form].place == 0) != (i == 0) || i > 0 && patterns[form].place < slices.Max(places) {
			return api.Layout{}, i + 1, api.ErrSyntax
		}
		places = append(places, patterns[form].place)
		if !addLine(&l, form, words) {
			return api.Layout{}, i + 1, api.ErrNotFound
		}
	}
	if e := layout.Check(l); e != api.OK {
		return api.Layout{}, 0, e
	}
	return l, 0, api.OK
}

// addLine adds what a line says to a layout, unless something is not found.
func addLine(l *api.Layout, form int, words []string) bool {
	var elements []string
	for _, e := range l.Elements {
		elements = append(elements, e.Name)
	}
	name, numbers := "", []int{}
	for k, letter := range strings.Fields(patterns[form].form)[1:] {
		switch letter {
		case "N":
			name = words[k]
		case "S":
			numbers = append(numbers, slices.Index(l.Sections, words[k]))
		case "E":
			numbers = append(numbers, slices.Index(elements, words[k]))
		case "I":
			n, _ := strconv.Atoi(words[k])
			numbers = append(numbers, n)
		}
		if n := len(numbers); (letter == "S" || letter == "E") && numbers[n-1] < 0 {
			return false
		}
	}
	numbers = append(numbers, 0)
	v := numbers
	switch form {
	case 0:
		l.Name = name
	case 1:
		l.Sections = append(l.Sections, name)
	case 2, 3, 4:
		kind := []int{api.ElTrack, api.ElPoint, api.ElCross}[form-2]
		l.Elements = append(l.Elements, api.Element{Name: name, Kind: kind, Section: v[0], Length: v[1], Grade: v[2], Speed: v[3], Slow: v[4]})
	case 5:
		l.Joints = append(l.Joints, api.Joint{A: api.End{El: v[0], Side: v[1]}, B: api.End{El: v[2], Side: v[3]}})
	case 6:
		l.Signals = append(l.Signals, api.Signal{Name: name, At: api.End{El: v[0], Side: v[1]}, Overlap: v[2]})
	case 7:
		l.Balises = append(l.Balises, api.Balise{Id: v[0], El: v[1], Offset: v[2]})
	}
	return true
}

// checkByOther compares Parse with otherParse, and what it accepts with its text (P8.3).
func checkByOther(t *testing.T, s string) {
	t.Helper()
	want, at, err := otherParse(s)
	checkParse(t, s, want, at, err)
	if err == api.OK {
		checkPrint(t, "layout of the text", want, s, api.OK)
	}
}

// P8.1: the examples; every form of line, and the elements mixed in any order of their kinds.
func TestPrint(t *testing.T) {
	checkPrint(t, "line", line(), lineText, api.OK)
	checkPrint(t, "yard", yard(), yardText, api.OK)
	checkPrint(t, "single", single(), "layout l\nsection s\npoints e s 500 -50 100 100\n", api.OK)
}

// P8.1: the longest lines.
func TestPrintFull(t *testing.T) {
	s, e := Print(full())
	if e != api.OK {
		t.Fatalf("error %d", e)
	}
	lines := linesOf(s)
	for at, want := range map[int]string{
		1:   "layout abcdefghij_9\n",
		25:  "section section___23\n",
		26:  "cross element___00 section___00 1000000 -50 10000\n",
		57:  "cross element___31 section___07 1000000 -50 10000\n",
		58:  "joint element___00 1 element___01 0\n",
		121: "joint element___00 2 element___31 3\n",
		122: "signal signal____00 element___00 0 1000000\n",
		141: "signal signal____19 element___19 3 1000000\n",
		142: "balise 1073741824 element___00 1000000\n",
		165: "balise 1073741801 element___23 1000000\n",
	} {
		if lines[at-1] != want {
			t.Errorf("line %d is %q, want %q", at, lines[at-1], want)
		}
	}
}

// breach makes a layout break a condition of layout.Check.
type breach struct {
	what  string
	err   api.Errno
	apply func(*api.Layout)
}

// breaches have one or more for each condition, by their numbers.
func breaches() []breach {
	return []breach{
		{"1 no elements", api.ErrLimit, func(l *api.Layout) { l.Elements = nil }},
		{"1 elements", api.ErrLimit, func(l *api.Layout) { l.Elements = append(l.Elements, make([]api.Element, 27)...) }},
		{"1 sections", api.ErrLimit, func(l *api.Layout) { l.Sections = append(l.Sections, make([]string, 22)...) }},
		{"1 signals", api.ErrLimit, func(l *api.Layout) { l.Signals = append(l.Signals, make([]api.Signal, 18)...) }},
		{"1 balises", api.ErrLimit, func(l *api.Layout) { l.Balises = append(l.Balises, make([]api.Balise, 22)...) }},
		{"2 layout", api.ErrName, func(l *api.Layout) { l.Name = "Yard" }},
		{"2 section", api.ErrName, func(l *api.Layout) { l.Sections[0] = "a b" }},
		{"2 element", api.ErrName, func(l *api.Layout) { l.Elements[5].Name = "" }},
		{"2 signal", api.ErrName, func(l *api.Layout) { l.Signals[2].Name = "abcdefghijklm" }},
		{"3 sections", api.ErrDuplicate, func(l *api.Layout) { l.Sections[2] = "x" }},
		{"3 elements", api.ErrDuplicate, func(l *api.Layout) { l.Elements[5].Name = "q" }},
		{"3 signals", api.ErrDuplicate, func(l *api.Layout) { l.Signals[2].Name = "s" }},
		{"4 kind 0", api.ErrArg, func(l *api.Layout) { l.Elements[5].Kind = 0 }},
		{"4 kind 4", api.ErrArg, func(l *api.Layout) { l.Elements[5].Kind = 4 }},
		{"4 slow", api.ErrArg, func(l *api.Layout) { l.Elements[5].Slow = 500 }},
		{"4 section", api.ErrArg, func(l *api.Layout) { l.Elements[5].Section = 3 }},
		{"5", api.ErrArg, func(l *api.Layout) { l.Sections = append(l.Sections, "w") }},
		{"6", api.ErrArg, func(l *api.Layout) { l.Joints[5].B.El = 6 }},
		{"7", api.ErrDuplicate, func(l *api.Layout) { l.Joints[5].B = api.End{El: 1, Side: 1} }},
		{"8", api.ErrArg, func(l *api.Layout) { l.Signals[2].At.Side = 4 }},
		{"9", api.ErrDuplicate, func(l *api.Layout) { l.Signals[2].At = api.End{El: 3} }},
		{"10", api.ErrUnsafe, func(l *api.Layout) { l.Signals[2].At = api.End{El: 5, Side: 1} }},
		{"11 element", api.ErrArg, func(l *api.Layout) { l.Balises[2].El = -1 }},
		{"11 offset", api.ErrArg, func(l *api.Layout) { l.Balises[2].Offset = 801 }},
		{"12", api.ErrDuplicate, func(l *api.Layout) { l.Balises[2].Id = 7 }},
	}
}

// P8.1: layouts that layout.Check refuses have its error and no text.
func TestPrintErrors(t *testing.T) {
	checkPrint(t, "no layout", api.Layout{}, "", api.ErrLimit)
	for _, b := range breaches() {
		l := yard()
		b.apply(&l)
		checkPrint(t, b.what, l, "", b.err)
	}
}

// P8.2: the examples 1 to 3, and every form of line.
func TestParse(t *testing.T) {
	checkParse(t, lineText, line(), 0, api.OK)
	checkParse(t, yardText, yard(), 0, api.OK)
	checkError(t, withLine(lineText, 6, "joint a 1 x 0"), 6, api.ErrNotFound)
	checkError(t, withLine(lineText, 6, "joint a 1 b"), 6, api.ErrSyntax)
	lines := linesOf(lineText)
	lines[1], lines[3] = lines[3], lines[1]
	checkError(t, strings.Join(lines, ""), 2, api.ErrNotFound)
	checkError(t, "layout line\n", 0, api.ErrLimit)
}

// P8.2: the errors of words.Lines with their lines come before all others, no lines before errors of lines.
func TestParseLines(t *testing.T) {
	checkError(t, "", 1, api.ErrSyntax)
	checkError(t, "\n", 1, api.ErrSyntax)
	checkError(t, " ", 1, api.ErrSyntax)
	checkError(t, "layout line", 1, api.ErrSyntax)
	checkError(t, "section x\nlayout  l\n", 2, api.ErrSyntax)
	checkError(t, "layout l\ntrack a x 500 0 100\nsection \n", 3, api.ErrSyntax)
	checkError(t, "x\ny\nz\nlayout", 4, api.ErrSyntax)
	checkError(t, withLine(yardText, 1, "section s")+"\n", 23, api.ErrSyntax)
	checkError(t, yardText[:len(yardText)-1], 22, api.ErrSyntax)
	checkError(t, strings.TrimSpace(withLine(yardText, 11, "joint a 1 w 0")), 22, api.ErrSyntax)
	checkError(t, withLine(yardText, 11, "joint a 1 \x80 0"), 11, api.ErrSyntax)
	checkError(t, withLine(yardText, 11, "joint a 1 p 0\r"), 11, api.ErrSyntax)
	checkError(t, withLine(yardText, 2, "section "+strings.Repeat("x", 65)), 2, api.ErrSyntax)
	checkError(t, withLine(yardText, 2, "section "+strings.Repeat("x", 64)), 6, api.ErrNotFound)
}

// P8.2: texts of the greatest length, and of a byte more.
func TestParseLongTexts(t *testing.T) {
	lines := strings.Repeat("section x\n", (api.MaxText-9)/10)
	text := "layout l\n" + lines
	text += strings.Repeat("s", api.MaxText-len(text)-1) + "\n"
	checkError(t, text, 2+strings.Count(lines, "\n"), api.ErrSyntax)
	checkError(t, "x"+text, 0, api.ErrLimit)
	checkError(t, strings.Repeat("x", api.MaxText+1), 0, api.ErrLimit)
	checkError(t, strings.Repeat("\n", api.MaxText+1), 0, api.ErrLimit)
	checkError(t, strings.Repeat("\n", api.MaxText), 1, api.ErrSyntax)
	checkError(t, strings.Repeat("x\n", api.MaxText/2), 1, api.ErrSyntax)
	checkError(t, "layout l\n"+lines, 0, api.ErrLimit)
	checkError(t, "layout l\n"+lines+"track", 2+strings.Count(lines, "\n"), api.ErrSyntax)
}

// P8.2: all texts of up to six lines of the different forms, some with names that are not there.
func TestParsePlaces(t *testing.T) {
	some := []string{
		"layout l\n", "section s\n", "section t\n", "track a s 500 0 100\n", "points b t 500 0 100 100\n", "cross c s 500 0 100\n",
		"joint a 1 b 0\n", "signal x a 1 0\n", "balise 1 a 0\n", "layout\n", "layouts l\n",
	}
	texts := []string{""}
	for range 6 {
		var longer []string
		for _, s := range texts {
			for _, line := range some {
				checkByOther(t, s+line)
				// Only what Parse has read so far can be in the way of what follows.
				if _, at, _ := otherParse(s + line); at == 0 {
					longer = append(longer, s+line)
				}
			}
		}
		texts = longer
	}
}

// P8.2: each line of a text stands in each place of the text: before, behind and instead of the others.
func TestParseMovedLines(t *testing.T) {
	lines := linesOf(yardText)
	for i, line := range lines {
		rest := slices.Delete(slices.Clone(lines), i, i+1)
		checkByOther(t, strings.Join(rest, ""))
		for k := range lines {
			checkByOther(t, strings.Join(slices.Insert(slices.Clone(lines), k, line), ""))
			checkByOther(t, strings.Join(slices.Insert(slices.Clone(rest), k, line), ""))
			checkByOther(t, withLine(yardText, k+1, strings.TrimSuffix(line, "\n")))
		}
		checkByOther(t, yardText+line)
	}
}

// P8.2: a line of each form at the front, between the lines of the other forms, and at the end: the line of the error, with s for ErrSyntax and n for ErrNotFound.
func TestParsePlacesOfForms(t *testing.T) {
	text := "layout l\nsection s\ntrack a s 500 0 100\njoint a 0 a 1\nsignal x a 1 0\nbalise 1 a 0\n"
	for _, c := range []struct{ line, want string }{
		{"layout l", "2s 2s 3s 4s 5s 6s 7s"},
		{"section t", "1s 0 0 4s 5s 6s 7s"},
		{"track b s 500 0 100", "1s 2n 0 0 5s 6s 7s"},
		{"points b s 500 0 100 100", "1s 2n 0 0 5s 6s 7s"},
		{"cross b s 500 0 100", "1s 2n 0 0 5s 6s 7s"},
		{"joint a 1 a 0", "1s 2n 3n 0 0 6s 7s"},
		{"signal y a 0 0", "1s 2n 3n 5s 0 0 7s"},
		{"balise 2 a 0", "1s 2n 3n 5s 6s 0 0"},
	} {
		for i, want := range strings.Fields(c.want) {
			_, at, e := Parse(strings.Join(slices.Insert(linesOf(text), i, c.line+"\n"), ""))
			got := fmt.Sprint(at)
			if at > 0 {
				got += map[api.Errno]string{api.ErrSyntax: "s", api.ErrNotFound: "n"}[e]
			}
			if got != want {
				t.Errorf("%q as the line %d: %s (error %d), want %s", c.line, i+1, got, e, want)
			}
		}
	}
}

// P8.2: too few and too many words, in all forms; no two forms differ only by the number of their words.
func TestParseWordCounts(t *testing.T) {
	for i, line := range linesOf(yardText) {
		words := strings.Fields(line)
		for k := range words {
			less := slices.Delete(slices.Clone(words), k, k+1)
			if len(less) > 0 {
				checkError(t, withLine(yardText, i+1, strings.Join(less, " ")), i+1, api.ErrSyntax)
			}
			checkError(t, withLine(yardText, i+1, strings.Join(words[:k+1], " ")+" "+line[:len(line)-1]), i+1, api.ErrSyntax)
			for _, word := range []string{"0", "1", "a", "x", "500", "layout", "-"} {
				more := slices.Insert(slices.Clone(words), k+1, word)
				checkError(t, withLine(yardText, i+1, strings.Join(more, " ")), i+1, api.ErrSyntax)
			}
		}
	}
}

// P8.2: first words that begin no form.
func TestParseOtherWords(t *testing.T) {
	for i, line := range linesOf(yardText) {
		words := strings.Fields(line)
		for _, word := range []string{"Layout", "layouts", "layou", "element", "point", "tracks", "crossing", "crosses", "joints", "balises", "yard", "0", "#", "signals", "sections", "POINTS"} {
			words[0] = word
			checkError(t, withLine(yardText, i+1, strings.Join(words, " ")), i+1, api.ErrSyntax)
		}
	}
}

// P8.2: every number of every form, at both ends of what words.Int accepts and beyond, and in other forms.
func TestParseNumbers(t *testing.T) {
	for i, line := range linesOf(yardText) {
		form, _ := fieldsOf(line)
		for k, letter := range strings.Fields(patterns[form].form) {
			if letter != "I" {
				continue
			}
			words := strings.Fields(line)
			for _, n := range []int{math.MinInt, math.MinInt + 1, math.MinInt32, -501, -51, -2, -1, 0, 1, 2, 3, 4, 99, 100, 499, 500, 1000000, 1000001, 1 << 30, 1<<30 + 1, 1 << 32, math.MaxInt - 1, math.MaxInt} {
				words[k] = strconv.Itoa(n)
				s := withLine(yardText, i+1, strings.Join(words, " "))
				checkByOther(t, s)
				if _, at, e := Parse(s); at != 0 {
					t.Errorf("%d is not accepted in %q: error %d", n, line, e)
				}
			}
			for _, word := range []string{"9223372036854775808", "-9223372036854775809", "99999999999999999999", strings.Repeat("1", 64), "-0", "+1", "00", "01", "-01", "1.0", "1e3", "0x1", "1_0", "1,0", "x", "a", "-", "--1", "1-", "one"} {
				words[k] = word
				checkError(t, withLine(yardText, i+1, strings.Join(words, " ")), i+1, api.ErrSyntax)
			}
		}
	}
}

// P8.2: a number has its own place in the layout, and keeps its sign.
func TestParseNumbersInOrder(t *testing.T) {
	want := yard()
	want.Elements[2] = api.Element{Name: "p", Kind: api.ElPoint, Length: 1000000, Grade: -49, Speed: 10000, Slow: 101, Section: 1}
	checkParse(t, withLine(yardText, 7, "points p y 1000000 -49 10000 101"), want, 0, api.OK)
	want = yard()
	want.Signals[0].Overlap = 1000000
	checkParse(t, withLine(yardText, 17, "signal s a 1 1000000"), want, 0, api.OK)
	want = yard()
	want.Balises[1] = api.Balise{Id: 1073741824, El: 2, Offset: 700}
	checkParse(t, withLine(yardText, 21, "balise 1073741824 p 700"), want, 0, api.OK)
	want = yard()
	want.Joints[5] = api.Joint{A: api.End{El: 5, Side: 1}, B: api.End{El: 0, Side: 3}}
	checkParse(t, withLine(yardText, 16, "joint e 1 q 3"), want, 0, api.OK)
}

// P8.2: names of sections and elements that no earlier line has.
func TestParseNotFound(t *testing.T) {
	for _, c := range []struct {
		at   int
		line string
	}{
		{5, "cross q w 800 0 1000"}, {5, "cross q q 800 0 1000"}, {5, "cross q yard 800 0 1000"}, {5, "cross q section 800 0 1000"}, {5, "cross q 1 800 0 1000"},
		{5, "cross q Y 800 0 1000"}, {5, "cross q yy 800 0 1000"}, {5, "cross q - 800 0 1000"}, {5, "cross q a 0 0 0"},
		{6, "track a q 1000 -50 2000"}, {6, "track x a 1000 -50 2000"}, {7, "points p a 700 3 2000 900"},
		{11, "joint w 1 p 0"}, {11, "joint a 1 w 0"}, {11, "joint w 1 v 0"}, {11, "joint x 1 p 0"}, {11, "joint a 1 y 0"}, {11, "joint A 1 p 0"}, {11, "joint 1 1 p 0"}, {11, "joint a 1 2 0"},
		{11, "joint s 1 p 0"}, {11, "joint a 1 t 0"}, {11, "joint yard 1 p 0"},
		{17, "signal s w 1 300"}, {17, "signal s s 1 300"}, {17, "signal a x 1 300"}, {17, "signal s 1 1 300"},
		{20, "balise 7 w 400"}, {20, "balise 7 x 400"}, {20, "balise 7 s 400"}, {20, "balise 7 1 400"}, {20, "balise 7 7 400"},
	} {
		checkError(t, withLine(yardText, c.at, c.line), c.at, api.ErrNotFound)
	}
}

// P8.2: names that only a later line has, those of the line itself among them.
func TestParseLaterNames(t *testing.T) {
	lines := linesOf(yardText)
	for _, c := range []struct{ from, to int }{{2, 6}, {3, 5}, {4, 8}, {2, 22}, {3, 22}} {
		moved := slices.Insert(slices.Delete(slices.Clone(lines), c.from-1, c.from), c.to-1, lines[c.from-1])
		_, at, e := Parse(strings.Join(moved, ""))
		if e != api.ErrNotFound || at >= c.to {
			t.Errorf("the line %d moved to %d: %d in the line %d", c.from, c.to, e, at)
		}
	}
	checkError(t, "layout l\ntrack a a 500 0 100\nsection a\n", 2, api.ErrNotFound)
	checkError(t, "layout l\nsection s\njoint a 0 a 1\ntrack a s 500 0 100\n", 3, api.ErrNotFound)
	checkError(t, "layout l\nsection s\nsignal a a 0 0\ntrack a s 500 0 100\n", 3, api.ErrNotFound)
	checkError(t, "layout l\nsection s\nbalise 1 a 0\ntrack a s 500 0 100\n", 3, api.ErrNotFound)
}

// P8.2: names that two lines have are no errors of these lines, but of the layout; sections, elements and signals can share one.
func TestParseSameNames(t *testing.T) {
	for _, c := range []struct {
		at   int
		line string
	}{{4, "section z\nsection x"}, {3, "section y\nsection y"}, {6, "track q x 1000 -50 2000\ntrack a x 1000 -50 2000"}, {6, "track a x 1000 -50 2000\ntrack e x 1000 -50 2000"}, {18, "signal s n 0 0"}} {
		checkError(t, withLine(yardText, c.at, c.line), 0, api.ErrDuplicate)
	}
	s := "layout a\nsection a\nsection b\ntrack a b 500 0 100\ntrack b a 600 0 100\njoint a 1 b 0\nsignal a b 0 0\nbalise 1 a 5\n"
	l, _, e := Parse(s)
	if e != api.OK || l.Elements[0].Section != 1 || l.Elements[1].Section != 0 || l.Signals[0].At.El != 1 || l.Balises[0].El != 0 {
		t.Errorf("Parse(%s) = %v, %d", short(s), l, e)
	}
	checkPrint(t, "same names", l, s, api.OK)
}

// P8.2: words that begin lines can be names, and words that are no names have a form.
func TestParseNames(t *testing.T) {
	s := "layout layout\nsection section\nsection track\ntrack points section 500 0 100\npoints track track 600 0 100 100\njoint points 1 track 0\nsignal balise points 1 0\nbalise 1 track 5\n"
	l, _, e := Parse(s)
	if e != api.OK {
		t.Errorf("Parse(%s): error %d", short(s), e)
	}
	checkPrint(t, "first words as names", l, s, api.OK)
	for _, name := range []string{"X", "1", "-1", "-", "~", "!", ",", "a-b", "abcdefghijklm", strings.Repeat("~", 64)} {
		for at, line := range map[int]string{1: "layout " + name, 4: "section z\nsection " + name, 10: "track e y 900 0 1000\ntrack " + name + " x 500 0 100", 19: "signal " + name + " q 0 100"} {
			checkError(t, withLine(yardText, at, line), 0, api.ErrName)
		}
	}
	checkError(t, strings.ReplaceAll(yardText, " p ", " P "), 0, api.ErrName)
	checkError(t, strings.ReplaceAll(yardText, " y ", " 5 "), 5, api.ErrNotFound)
}

// P8.2: of the errors of a line, ErrSyntax comes first, wherever it is in the line; of those of two lines, that of the first one; those of the layout come last.
func TestParseOrder(t *testing.T) {
	for _, c := range []struct {
		at   int
		line string
	}{
		{5, "cross q w x 0 1000"}, {5, "cross q w 800 0 99999999999999999999"}, {5, "cross q w 800 0"}, {5, "cross q w 800 0 1000 1000"},
		{7, "points p w 700 3 2000"}, {7, "points p w 700 3 2000 09"}, {11, "joint w x p 0"}, {11, "joint w 1 v x"}, {11, "joint w 1 p"}, {11, "joint w 1 p 0 0"},
		{17, "signal s w one 300"}, {17, "signal s w 1 300m"}, {17, "signal s w 1"}, {20, "balise x w 400"}, {20, "balise 7 w +400"}, {20, "balise 7 w"},
		{5, "joint w 1 v 0\njoint w 1 v 0\nsection y"}, {12, "signal s w 1 300\njoint n 0 p 1"},
	} {
		want := c.at
		err := api.ErrSyntax
		if strings.Contains(c.line, "\n") {
			err = api.ErrNotFound
		}
		checkError(t, withLine(yardText, c.at, c.line), want, err)
	}
	// Out of place, and with a name that is not there.
	checkError(t, withLine(yardText, 12, "cross w w 800 0 1000"), 12, api.ErrSyntax)
	checkError(t, withLine(yardText, 18, "joint w 1 v 0"), 18, api.ErrSyntax)
	checkError(t, withLine(yardText, 21, "signal w w 1 0"), 21, api.ErrSyntax)
	checkError(t, withLine(yardText, 1, "track w w 800 0 1000"), 1, api.ErrSyntax)
	// Two lines, in both orders; and the first line of a layout that has other errors.
	checkError(t, withLine(withLine(yardText, 11, "joint w 1 p 0"), 12, "joint n 0 p"), 11, api.ErrNotFound)
	checkError(t, withLine(withLine(yardText, 11, "joint a 1 p"), 12, "joint w 0 p 1"), 11, api.ErrSyntax)
	checkError(t, withLine(withLine(yardText, 1, "layout Yard"), 22, "balise 9 w 800"), 22, api.ErrNotFound)
	checkError(t, withLine(withLine(yardText, 1, "layout Yard"), 22, "balise 9 q 801"), 0, api.ErrName)
	checkError(t, "layout l\nsection s\nsection s\nx\n", 4, api.ErrSyntax)
}

// P8.2: every condition of layout.Check that a text can break.
func TestParseCheck(t *testing.T) {
	longest := "layout l\n"
	for i := range api.MaxSections + 1 {
		longest += fmt.Sprintf("section s%d\n", i)
	}
	checkError(t, longest+"track a s0 500 0 100\n", 0, api.ErrLimit)
	for _, c := range []struct {
		at   int
		line string
		err  api.Errno
	}{
		{1, "layout yard\nsection w", api.ErrArg}, {5, "cross q y 499 0 1000", api.ErrArg}, {5, "cross q y 800 51 1000", api.ErrArg}, {5, "cross q y 800 0 99", api.ErrArg},
		{7, "points p y 700 3 2000 2001", api.ErrArg}, {7, "points p y 700 3 2000 99", api.ErrArg}, {7, "points p y 700 3 2000 0", api.ErrArg}, {11, "joint a 2 p 0", api.ErrArg}, {11, "joint a 1 a 1", api.ErrArg}, {11, "joint a -1 p 0", api.ErrArg},
		{11, "joint a 1 p 1", api.ErrDuplicate}, {17, "signal s a 2 300", api.ErrArg}, {17, "signal s a 1 -1", api.ErrArg}, {17, "signal s n 0 300", api.ErrDuplicate},
		{17, "signal s a 0 300", api.ErrUnsafe}, {17, "signal s q 3 300", api.ErrUnsafe}, {20, "balise 0 a 400", api.ErrArg}, {20, "balise 7 a 1001", api.ErrArg}, {20, "balise 3 a 400", api.ErrDuplicate},
	} {
		checkError(t, withLine(yardText, c.at, c.line), 0, c.err)
	}
}

// P8.2: as many sections, elements, signals and balises as there can be, and one more; what else is wrong with the layout has another error.
func TestParseLimits(t *testing.T) {
	for _, c := range []struct {
		text, line string
		limit      int
		err        api.Errno
	}{
		{"layout l\n", "section s%d\n", api.MaxSections, api.ErrLimit},
		{"layout l\nsection s\n", "track a%d s 500 0 100\n", api.MaxElements, api.OK},
		{"layout l\nsection s\ntrack a s 500 0 100\n", "signal s%d a 0 0\n", api.MaxSignals, api.ErrDuplicate},
		{"layout l\nsection s\ntrack a s 500 0 100\n", "balise %d a 0\n", api.MaxBalises, api.OK},
	} {
		s := c.text
		for i := range c.limit {
			s += fmt.Sprintf(c.line, i+1)
		}
		checkByOther(t, s)
		if _, at, e := Parse(s); at != 0 || e != c.err {
			t.Errorf("Parse(%s): error %d in the line %d, want %d", short(s), e, at, c.err)
		}
		checkError(t, s+fmt.Sprintf(c.line, c.limit+1), 0, api.ErrLimit)
	}
	// Sections at the limit need elements, one each.
	s, _ := Print(full())
	checkParse(t, s, full(), 0, api.OK)
	checkError(t, strings.Replace(s, "section", "section s\nsection", 1), 0, api.ErrLimit)
}

// P8.3: from layouts to texts and back; the text has a line more than the layout has parts.
func TestLayoutsAreRestored(t *testing.T) {
	for _, l := range append(valid(), randomLayouts()...) {
		s, e := Print(l)
		if e != api.OK {
			t.Errorf("%v has no text: error %d", l, e)
		}
		checkByOther(t, s)
		checkParse(t, s, l, 0, api.OK)
		parts := len(l.Sections) + len(l.Elements) + len(l.Joints) + len(l.Signals) + len(l.Balises)
		if got := strings.Count(s, "\n"); got != parts+1 {
			t.Errorf("%s has %d lines, want %d", short(s), got, parts+1)
		}
	}
}

// randomLayouts are valid ones whose parts stand in any order.
func randomLayouts() []api.Layout {
	r := rand.New(rand.NewSource(8))
	var list []api.Layout
	for len(list) < 200 {
		l := api.Layout{Name: fmt.Sprint("l", r.Intn(1000))}
		for i := range 1 + r.Intn(5) {
			l.Sections = append(l.Sections, fmt.Sprint("n", i))
		}
		var ends []api.End
		for i := range len(l.Sections) + r.Intn(6) {
			e := api.Element{Name: fmt.Sprint("n", i), Kind: 1 + r.Intn(3), Length: 500 + r.Intn(999501), Grade: r.Intn(101) - 50, Speed: 100 + r.Intn(9901), Section: i % len(l.Sections)}
			if e.Kind == api.ElPoint {
				e.Slow = 100 + r.Intn(e.Speed-99)
			}
			l.Elements = append(l.Elements, e)
			for side := range e.Kind + 1 {
				ends = append(ends, api.End{El: i, Side: side})
			}
			l.Balises = append(l.Balises, api.Balise{Id: 1 + r.Intn(1<<30), El: i, Offset: r.Intn(e.Length + 1)})
		}
		r.Shuffle(len(l.Elements), func(i, k int) {
			l.Elements[i].Section, l.Elements[k].Section = l.Elements[k].Section, l.Elements[i].Section
		})
		r.Shuffle(len(ends), func(i, k int) { ends[i], ends[k] = ends[k], ends[i] })
		for i := 0; i+1 < len(ends)-r.Intn(6); i += 2 {
			l.Joints = append(l.Joints, api.Joint{A: ends[i], B: ends[i+1]})
			if a, b := ends[i].El, ends[i+1].El; l.Elements[a].Section != l.Elements[b].Section {
				l.Signals = append(l.Signals, api.Signal{Name: fmt.Sprint("n", i), At: ends[i+r.Intn(2)], Overlap: r.Intn(1000001)})
			}
		}
		r.Shuffle(len(l.Signals), func(i, k int) { l.Signals[i], l.Signals[k] = l.Signals[k], l.Signals[i] })
		if layout.Check(l) == api.OK {
			list = append(list, l)
		}
	}
	return list
}

// P8.2, P8.3: texts with a change of a byte or two; those that are accepted are the texts of their layouts.
func TestTextsAreRestored(t *testing.T) {
	for _, text := range []string{lineText, "layout l\nsection s\npoints e s 500 -50 100 100\nbalise 1 e 0\n"} {
		for i := range len(text) + 1 {
			for _, b := range []string{"", " ", "\n", "a", "b", "s", "0", "1", "2", "9", "-", "+", "_", "\x00", "\r", "\t", "\x7f", "\xff", "é", " 0", " a", "\n\n", "layout"} {
				checkByOther(t, text[:i]+b+text[i:])
				if i < len(text) {
					checkByOther(t, text[:i]+b+text[i+1:])
				}
			}
			checkByOther(t, text[:i])
			checkByOther(t, text[i:])
		}
	}
	r := rand.New(rand.NewSource(9))
	for range 5000 {
		s := []byte(yardText)
		for range 1 + r.Intn(2) {
			s[r.Intn(len(s))] = yardText[r.Intn(len(yardText))]
		}
		checkByOther(t, string(s))
	}
}

// copied is a layout that shares nothing with another one.
func copied(l api.Layout) api.Layout {
	l.Sections = slices.Clone(l.Sections)
	l.Elements = slices.Clone(l.Elements)
	l.Joints = slices.Clone(l.Joints)
	l.Signals = slices.Clone(l.Signals)
	l.Balises = slices.Clone(l.Balises)
	return l
}

// Rule 0.4: layouts stay as they are, also what is behind their lists; results are new memory.
func TestArgumentsAreNotChanged(t *testing.T) {
	list := append(valid(), api.Layout{})
	for _, b := range breaches() {
		l := yard()
		b.apply(&l)
		list = append(list, l)
	}
	for _, l := range list {
		whole := copied(l)
		l.Sections = append(l.Sections, "o")[:len(l.Sections)]
		l.Elements = append(l.Elements, api.Element{Name: "o"})[:len(l.Elements)]
		first, _ := Print(l)
		second, _ := Print(l)
		if first != second {
			t.Errorf("two texts of %v: %s and %s", l, short(first), short(second))
		}
		if !same(l, whole) || l.Sections[:len(l.Sections)+1][len(l.Sections)] != "o" || l.Elements[:len(l.Elements)+1][len(l.Elements)].Name != "o" {
			t.Errorf("%v is changed, was %v", l, whole)
		}
	}
	first, _, _ := Parse(yardText)
	clear(first.Sections)
	clear(first.Elements)
	clear(first.Joints)
	clear(first.Signals)
	clear(first.Balises)
	checkParse(t, yardText, yard(), 0, api.OK)
}

// Rule 0.3, with errors: every list of the layout is its zero value.
func TestNoLayoutWithErrors(t *testing.T) {
	for _, s := range []string{yardText + "x\n", yardText + "balise 1 w 0\n", yardText + "balise 1 a -1\n", yardText + "\n", yardText + strings.Repeat("x", api.MaxText)} {
		l, _, e := Parse(s)
		if e == api.OK || !reflect.DeepEqual(l, api.Layout{}) {
			t.Errorf("Parse(%s) = %v, %d", short(s), l, e)
		}
	}
}

// Rule 0.1: Print ends for every number in every place of a layout.
func TestPrintEnds(t *testing.T) {
	for _, n := range []int{math.MinInt, math.MinInt32, -1, 0, 1, 2, 3, 4, 1 << 32, math.MaxInt} {
		e := api.End{El: n, Side: n}
		l := api.Layout{
			Name:     "l",
			Sections: []string{"s"},
			Elements: []api.Element{{Name: "e", Kind: n, Length: n, Grade: n, Speed: n, Slow: n, Section: n}},
			Joints:   []api.Joint{{A: e, B: e}},
			Signals:  []api.Signal{{Name: "s", At: e, Overlap: n}},
			Balises:  []api.Balise{{Id: n, El: n, Offset: n}},
		}
		checkPrint(t, fmt.Sprint("a layout of ", n), l, "", api.ErrArg)
		l.Elements[0] = single().Elements[0]
		checkPrint(t, fmt.Sprint("joints of ", n), l, "", api.ErrArg)
		l.Joints = nil
		checkPrint(t, fmt.Sprint("signals of ", n), l, "", layout.Check(l))
		l.Signals = nil
		checkPrint(t, fmt.Sprint("balises of ", n), l, "", api.ErrArg)
	}
}
