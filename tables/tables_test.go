package tables_test

import (
	"math/rand"
	"regexp"
	"slices"
	"strings"
	"testing"
	"unicode/utf8"

	"bindery/api"
	"bindery/samples"
	"bindery/spans"
	"bindery/tables"
)

// few texts of unlike widths; of some the bytes are more than the signs.
var few = []string{"", "a", "é", "bb", "c\xff d", "€😀!"}

func list(l ...string) []string { return l }

func rows(l ...[]string) [][]string { return l }

// counted makes a row of as many cells as each number says.
func counted(l ...int) []api.Row {
	var out []api.Row
	for _, n := range l {
		out = append(out, api.Row{Cells: make([]api.Cell, n)})
	}
	return out
}

func checkRow(t *testing.T, s string, want []string, e api.Errno) {
	t.Helper()
	if got, gotE := tables.Row(s); !slices.Equal(got, want) || gotE != e {
		t.Errorf("Row(%.90q) = %.90q, %v, not %.90q, %v", s, got, gotE, want, e)
	}
}

// P9.1: the document's examples, and others of their kind.
func TestRow(t *testing.T) {
	for _, c := range []struct {
		s    string
		want []string
	}{
		{"| a | b c |", list("a", "b c")},
		{"|a||", list("a", "")},
		{"|", list("")},
		{"||", list("")},
		{"|||", list("", "")},
		{"||||", list("", "", "")},
		{"|a", list("a")},
		{"|a|", list("a")},
		{"|a|b", list("a", "b")},
		{"|a|b|", list("a", "b")},
		{"|a|b||", list("a", "b", "")},
		{"||a", list("", "a")},
		{"||a|", list("", "a")},
		{"|a||b", list("a", "", "b")},
		{"| |", list("")},
		{"| | |", list("", "")},
		{"|a| ", list("a")},
		{"|a| \t| \t", list("a", "")},
		{" \t |a|b", list("a", "b")},
		{"\t| a\t| \tb \t", list("a", "b")},
		{" | ", list("")},
		{"|a  b\tc|", list("a  b\tc")},
		{"|===", list("===")},
		{"| a\n| b\n|\n", list("a\n", "b\n", "\n")},
		{"| a\r|", list("a\r")},
		{"| *a | b* | `c|d`", list("*a", "b*", "`c", "d`")},
		{`|a\|b`, list(`a\`, "b")},
		{"|é|€😀| \xff |\x00", list("é", "€😀", "\xff", "\x00")},
		{"|\u00a0a\u2003|\u3000", list("\u00a0a\u2003", "\u3000")},
		{"|¦ ｜", list("¦ ｜")},
	} {
		checkRow(t, c.s, c.want, api.OK)
	}
}

// P9.1: what does not begin with a bar.
func TestRowOfWrong(t *testing.T) {
	for _, s := range []string{"", " ", "\t", " \t ", "a", "a|", "a|b|", " a | b |", "\n|a|", "\r|a", "\x00|", "\u00a0|a|", "\ufeff|a", "\\|a", "¦a", "｜a｜", "\xff|", "!|", strings.Repeat(" ", 100) + "a|"} {
		checkRow(t, s, nil, api.ErrForm)
	}
}

// P9.1: each byte ahead of the bar, behind it, and about a cell: blanks alone are passed over, a bar alone parts.
func TestRowOfBytes(t *testing.T) {
	for n := range 256 {
		c := string([]byte{byte(n)})
		blank, bar := c == " " || c == "\t", c == "|"
		switch {
		case blank:
			checkRow(t, c+"|a", list("a"), api.OK)
			checkRow(t, "|"+c+"a"+c+"|b"+c, list("a", "b"), api.OK)
			checkRow(t, "|a|"+c, list("a"), api.OK)
		case bar:
			checkRow(t, c+"|a", list("", "a"), api.OK)
			checkRow(t, "|"+c+"a"+c+"|b"+c, list("", "a", "", "b"), api.OK)
			checkRow(t, "|a|"+c, list("a", ""), api.OK)
		default:
			checkRow(t, c+"|a", nil, api.ErrForm)
			checkRow(t, "|"+c+"a"+c+"|b"+c, list(c+"a"+c, "b"+c), api.OK)
			checkRow(t, "|a|"+c, list("a", c), api.OK)
		}
		if !bar {
			checkRow(t, "|a"+c+"b|", list("a"+c+"b"), api.OK)
		}
	}
}

var (
	rowForm  = regexp.MustCompile(`(?s)\A[ \t]*\|.*\z`)
	cellForm = regexp.MustCompile(`(?s)\|[ \t]*((?:[^|]*[^| \t])?)[ \t]*`)
)

// read says P9.1 once more, another way: a cell is a bar and what it has up to the next one.
func read(s string) ([]string, api.Errno) {
	if !rowForm.MatchString(s) {
		return nil, api.ErrForm
	}
	var out []string
	for _, c := range cellForm.FindAllStringSubmatch(s, -1) {
		out = append(out, c[1])
	}
	if n := len(out); n > 1 && out[n-1] == "" {
		out = out[:n-1]
	}
	return out, api.OK
}

// P9.1: all short lines, held against the promise said once more.
func TestRowOfAll(t *testing.T) {
	for _, s := range slices.Concat(
		samples.Texts([]string{"|", " ", "\t", "a"}, 8),
		samples.Texts([]string{"|", " ", "a", "\n", "é", "\xff", "\\", "`"}, 5),
	) {
		want, e := read(s)
		checkRow(t, s, want, e)
		if t.Failed() {
			return
		}
	}
}

// P9.1, R1: long lines.
func TestRowOfLong(t *testing.T) {
	const times = 1 << 20
	for _, c := range []struct {
		s    string
		n    int
		e    api.Errno
		last string
	}{
		{strings.Repeat("|", times), times - 1, api.OK, ""},
		{strings.Repeat("|a", times), times, api.OK, "a"},
		{strings.Repeat(" ", times) + "|a" + strings.Repeat(" ", times), 1, api.OK, "a"},
		{"|" + strings.Repeat(" ", times) + "a", 1, api.OK, "a"},
		{strings.Repeat("| ", times), times - 1, api.OK, ""},
		{strings.Repeat("a", times) + "|", 0, api.ErrForm, ""},
		{strings.Repeat(" ", times), 0, api.ErrForm, ""},
	} {
		got, e := tables.Row(c.s)
		if len(got) != c.n || e != c.e || c.n > 0 && got[c.n-1] != c.last {
			t.Errorf("Row(%.20q), of %d bytes: %d cells, %v", c.s, len(c.s), len(got), e)
		}
	}
}

// P9.2: the document's examples, and others of their kind.
func TestEven(t *testing.T) {
	for _, c := range []struct {
		l    []api.Row
		want bool
	}{
		{nil, true},
		{[]api.Row{}, true},
		{counted(2, 2), true},
		{counted(2, 1), false},
		{counted(1, 2), false},
		{counted(0), true},
		{counted(1), true},
		{counted(7), true},
		{counted(0, 0), true},
		{counted(0, 1), false},
		{counted(1, 0), false},
		{counted(3, 3, 3, 3), true},
		{counted(3, 3, 3, 2), false},
		{counted(3, 3, 3, 4), false},
		{counted(2, 3, 3, 3), false},
		{counted(3, 2, 3), false},
		{counted(1, 3, 2), false},
		{counted(2, 1, 3), false},
		{counted(0, 2, 2), false},
		{[]api.Row{{}, {Cells: []api.Cell{}}}, true},
		{[]api.Row{{Cells: []api.Cell{{Spans: []api.Span{{Text: "a"}}}}}, {Cells: []api.Cell{{}}}}, true},
		{[]api.Row{{Cells: []api.Cell{{Spans: []api.Span{{Text: "a"}, {Text: "b"}}}}}, {Cells: []api.Cell{{}, {}}}}, false},
	} {
		if got := tables.Even(c.l); got != c.want {
			t.Errorf("Even(%v) = %v", c.l, got)
		}
	}
}

// P9.2: all lists of few rows: each row has as many as the first one.
func TestEvenOfAll(t *testing.T) {
	for _, s := range samples.Texts([]string{"0", "1", "2", "3"}, 6) {
		var l []int
		for _, c := range []byte(s) {
			l = append(l, int(c-'0'))
		}
		want := s == "" || strings.Count(s, s[:1]) == len(s)
		if got := tables.Even(counted(l...)); got != want {
			t.Fatalf("Even of rows of %v = %v", l, got)
		}
	}
}

// P9.2, R1: many rows, and long ones; what stands in the cells says nothing.
func TestEvenOfMany(t *testing.T) {
	const times = 1 << 18
	many := counted(slices.Repeat([]int{1}, times)...)
	for _, c := range []struct {
		l    []api.Row
		want bool
	}{
		{many, true},
		{append(slices.Clone(many), counted(times)...), false},
		{append(counted(times), many...), false},
		{append(slices.Clone(many), counted(0)...), false},
		{counted(times, times), true},
		{counted(times, times-1), false},
	} {
		if got := tables.Even(c.l); got != c.want {
			t.Errorf("Even of %d rows, the first one of %d = %v", len(c.l), len(c.l[0].Cells), got)
		}
	}
	deep := []api.Span{{Text: "a"}}
	for range 1<<16 - 4 {
		deep = []api.Span{{Kind: api.SpBold, Kids: deep}}
	}
	if !tables.Even([]api.Row{{Cells: []api.Cell{{Spans: deep}}}, {Cells: []api.Cell{{}}}}) {
		t.Error("Even of deep spans = false")
	}
}

// P9.3: the document's examples, and others of their kind.
func TestWidths(t *testing.T) {
	for _, c := range []struct {
		l    [][]string
		want []int
	}{
		{rows(list("a", "bb"), list("ccc")), []int{3, 2}},
		{rows(list("é")), []int{1}},
		{nil, nil},
		{rows(), nil},
		{rows(nil), nil},
		{rows(nil, list(), nil), nil},
		{rows(list("")), []int{0}},
		{rows(list("", "", "")), []int{0, 0, 0}},
		{rows(list("a"), list("bb"), list("c")), []int{2}},
		{rows(list("ccc"), list("a", "bb")), []int{3, 2}},
		{rows(nil, list("a", "bb"), nil), []int{1, 2}},
		{rows(list("a"), list("", "b"), list("", "", "c")), []int{1, 1, 1}},
		{rows(list("", "", "c"), list("", "b"), list("a")), []int{1, 1, 1}},
		{rows(list("aaa", ""), list("", "bbb")), []int{3, 3}},
		{rows(list("éé", "a"), list("aaa", "€€")), []int{3, 2}},
		{rows(list("ééé", "a"), list("aaaa", "€€")), []int{4, 2}},
		{rows(list(" a ", "\tb\n")), []int{3, 3}},
		{rows(list(strings.Repeat("a", 70000))), []int{70000}},
	} {
		if got := tables.Widths(c.l); !slices.Equal(got, c.want) {
			t.Errorf("Widths(%.90q) = %v, not %v", c.l, got, c.want)
		}
	}
}

// P9.3: what one sign is.
func TestSigns(t *testing.T) {
	for _, c := range []struct {
		s    string
		want int
	}{
		{"", 0},
		{"\x00", 1},
		{"\n", 1},
		{"\x7f", 1},
		{"\u0080", 1},
		{"\u07ff", 1},
		{"\u0800", 1},
		{"\ud7ff", 1},
		{"\ue000", 1},
		{"\ufeff", 1},
		{"\ufffd", 1},
		{"\uffff", 1},
		{"\U00010000", 1},
		{"\U0010ffff", 1},
		{"e\u0301", 2}, // two code points, though one letter is seen
		{"日本", 2},
		{"👨\u200d👩", 3},
		{"\x80", 1},
		{"\xff", 1},
		{"\xff\xff", 2},
		{"a\xffé\xfe", 4},
		{"\xc3", 1},
		{"\xc3a", 2},
		{"\xc3\xc3\xa9", 2},
		{"é\xa9", 2},
		{"\xe2\x82", 2},
		{"\xe2\x82a", 3},
		{"\xf0\x9f\x98", 3},
		{"\xf0\x9f\x98\x80", 1},
		{"\xc0\x80", 2},         // longer than need be
		{"\xe0\x80\x80", 3},     // longer than need be
		{"\xed\xa0\x80", 3},     // half of a pair
		{"\xf4\x90\x80\x80", 4}, // above the last one
		{"\xf8\x88\x80\x80\x80", 5},
	} {
		if got := tables.Widths(rows(list(c.s))); !slices.Equal(got, []int{c.want}) {
			t.Errorf("Widths of %q = %v, not %d", c.s, got, c.want)
		}
		want := list(c.s+strings.Repeat(" ", 6-c.want)+" | x", "aaaaaa | y")
		if got := tables.Lines(rows(list(c.s, "x"), list("aaaaaa", "y"))); !slices.Equal(got, want) {
			t.Errorf("Lines beside %q = %q, not %q", c.s, got, want)
		}
	}
}

// P9.3: the document's example, and others of their kind.
func TestLines(t *testing.T) {
	for _, c := range []struct {
		l    [][]string
		want []string
	}{
		{rows(list("a", "bb"), list("ccc", "d")), list("a   | bb", "ccc | d")},
		{nil, nil},
		{rows(), nil},
		{rows(nil), list("")},
		{rows(nil, list()), list("", "")},
		{rows(list("")), list("")},
		{rows(list("a")), list("a")},
		{rows(list("a"), list("bbb")), list("a", "bbb")},
		{rows(list("", "")), list(" | ")},
		{rows(list("", "", "")), list(" |  | ")},
		{rows(list("a", "")), list("a | ")},
		{rows(list("", "a")), list(" | a")},
		{rows(list("a", "b", "c")), list("a | b | c")},
		{rows(list("a", "bb"), list("ccc")), list("a   | bb", "ccc")},
		{rows(list("ccc"), list("a", "bb")), list("ccc", "a   | bb")},
		{rows(list("a"), list("ccc", "dd"), list("b", "e", "f")), list("a", "ccc | dd", "b   | e  | f")},
		{rows(nil, list("a", "b"), nil), list("", "a | b", "")},
		{rows(list("é", "a"), list("bb", "c")), list("é  | a", "bb | c")},
		{rows(list("\xff\xfe", "a"), list("b", "c")), list("\xff\xfe | a", "b  | c")},
		{rows(list("a|b", " c "), list("d", "e")), list("a|b |  c ", "d   | e")},
		{rows(list("a\n", "b"), list("ccc", "d")), list("a\n  | b", "ccc | d")},
		{rows(list("", "a"), list("bbbb", "")), list("     | a", "bbbb | ")},
		{rows(list(strings.Repeat("a", 300), "b"), list("c", "d")), list(strings.Repeat("a", 300)+" | b", "c"+strings.Repeat(" ", 299)+" | d")},
	} {
		if got := tables.Lines(c.l); !slices.Equal(got, c.want) {
			t.Errorf("Lines(%.90q) = %.90q, not %.90q", c.l, got, c.want)
		}
	}
}

// widths says it once more, another way: column by column.
func widths(l [][]string) []int {
	var out []int
	for column := 0; ; column++ {
		widest := -1
		for _, row := range l {
			if column < len(row) {
				widest = max(widest, utf8.RuneCountInString(row[column]))
			}
		}
		if widest < 0 {
			return out
		}
		out = append(out, widest)
	}
}

// lines says it once more, another way: texts are as wide as their columns, and the last one is put in the place of its own.
func lines(l [][]string) []string {
	var out []string
	for _, row := range l {
		var texts []string
		for i, s := range row {
			w := widths(l)[i]
			if i == len(row)-1 {
				w = 0
			}
			for utf8.RuneCountInString(s) < w {
				s += " "
			}
			texts = append(texts, s)
		}
		out = append(out, strings.Join(texts, " | "))
	}
	return out
}

// lists: all of few rows of few texts, and random ones.
func lists() [][][]string {
	single := rows(nil)
	for _, a := range few {
		single = append(single, list(a))
		for _, b := range few {
			single = append(single, list(a, b))
		}
	}
	all := [][][]string{nil}
	for _, a := range single {
		all = append(all, rows(a))
		for _, b := range single {
			all = append(all, rows(a, b), rows(b, nil, a))
		}
	}
	random := rand.New(rand.NewSource(9))
	for range 5000 {
		l := make([][]string, random.Intn(6))
		for i := range l {
			for range random.Intn(6) {
				l[i] = append(l[i], few[random.Intn(len(few))])
			}
		}
		all = append(all, l)
	}
	return all
}

// P9.3: held against the promise said once more.
func TestWidthsAndLinesOfAll(t *testing.T) {
	for _, l := range lists() {
		if got, want := tables.Widths(l), widths(l); !slices.Equal(got, want) {
			t.Fatalf("Widths(%q) = %v, not %v", l, got, want)
		}
		if got, want := tables.Lines(l), lines(l); !slices.Equal(got, want) {
			t.Fatalf("Lines(%q) = %q, not %q", l, got, want)
		}
	}
}

// P9.3, R1: many rows and many columns; each row column by column would hardly end.
func TestOfMany(t *testing.T) {
	const times = 1 << 18
	long := slices.Repeat(list("é"), times)
	for _, l := range [][][]string{
		append(slices.Repeat(rows(list("a")), times), long),
		append(rows(long), slices.Repeat(rows(list("a")), times)...),
		slices.Repeat(rows(list("a", "bb")), times),
	} {
		got := tables.Widths(l)
		told := tables.Lines(l)
		if len(told) != len(l) || len(got) != max(len(l[0]), len(l[len(l)-1])) || got[0] != 1 {
			t.Errorf("%d columns, %d lines", len(got), len(told))
		}
		for i, s := range told {
			if strings.Count(s, " | ") != len(l[i])-1 {
				t.Fatalf("line %d is %.60q", i, s)
			}
		}
	}
}

// withoutEnd is a row without the empty texts at its end.
func withoutEnd(row []string) []string {
	for len(row) > 0 && row[len(row)-1] == "" {
		row = row[:len(row)-1]
	}
	return row
}

// P9.4: lines are read as the rows again.
func TestLinesAreRead(t *testing.T) {
	odd := rows(list("*a*", "`b`", ""), list("", "\n", "c d"), list(`\`, "\xe2\x82", "=", ""))
	for _, l := range append(lists(), odd) {
		for i, s := range tables.Lines(l) {
			got, e := tables.Row("|" + s)
			if e != api.OK || !slices.Equal(withoutEnd(got), withoutEnd(l[i])) {
				t.Fatalf("Row of a bar and %q = %q, %v, not %q", s, got, e, l[i])
			}
		}
	}
}

// P9.4: one empty text at the end is lost, those ahead of it are not.
func TestEmptyTextsAreRead(t *testing.T) {
	for n := range 5 {
		row := append(list("a", ""), make([]string, n)...)
		checkRow(t, "|"+tables.Lines(rows(row))[0], row[:len(row)-1], api.OK)
	}
	checkRow(t, "|"+tables.Lines(rows(nil))[0], list(""), api.OK)
}

// roomy is the same list with spare room, in which something stands.
func roomy[T any](l []T, spare T) []T {
	out := append(slices.Clone(l), spare, spare)
	return out[:len(l)]
}

// P9.2, P9.3, R4: what is handed in stays, its spare room too.
func TestNothingIsChanged(t *testing.T) {
	spare := list("spare")
	l := rows(roomy(list("a", "bb"), "spare"), roomy(list("ccc", "d", "é"), "spare"), roomy(nil, "spare"))
	l = roomy(l, spare)
	want := rows(list("a", "bb", "spare", "spare"), list("ccc", "d", "é", "spare", "spare"), list("spare", "spare"))
	tables.Widths(l)
	tables.Lines(l)
	for i, w := range want {
		if got := l[i][:len(w)]; !slices.Equal(got, w) {
			t.Errorf("row %d became %q", i, got)
		}
	}
	for _, row := range l[3:5] {
		if !slices.Equal(row, spare) {
			t.Errorf("spare room became %q", row)
		}
	}
	first, _ := spans.Parse("*a* b")
	cells := roomy([]api.Cell{{Spans: first}, {}}, api.Cell{Spans: first})
	table := roomy([]api.Row{{Cells: cells}, {Cells: cells}}, api.Row{Cells: cells})
	tables.Even(table)
	for _, r := range table[:4] {
		if len(r.Cells) != 2 {
			t.Fatalf("a row has %d cells", len(r.Cells))
		}
		for i, c := range r.Cells[:4] {
			if got := spans.Plain(c.Spans); got != list("a b", "", "a b", "a b")[i] {
				t.Errorf("cell %d became %q", i, got)
			}
		}
	}
}

// checkNew asks for an answer, overwrites it and its spare room, and asks for it again.
func checkNew[T comparable](t *testing.T, what string, answer func() []T, other T) {
	t.Helper()
	first, second := answer(), answer()
	want := slices.Clone(first)
	room := first[:cap(first)]
	for i := range room {
		room[i] = other
	}
	if !slices.Equal(second, want) || !slices.Equal(answer(), want) {
		t.Errorf("answers of %s share their room: %v, not %v", what, second, want)
	}
}

// R4, R5: answers are new, and the same again.
func TestAnswersAreNew(t *testing.T) {
	l := rows(list("a", "bb"), list("ccc"))
	for _, s := range []string{"| a | b c |", "|a||", "|", "|||", "|a|b|c|d"} {
		checkNew(t, "Row", func() []string { got, _ := tables.Row(s); return got }, "other")
	}
	checkNew(t, "Widths", func() []int { return tables.Widths(l) }, -1)
	checkNew(t, "Lines", func() []string { return tables.Lines(l) }, "other")
	if !slices.Equal(l[0], list("a", "bb")) || !slices.Equal(l[1], list("ccc")) {
		t.Errorf("what was handed in became %q", l)
	}
	one := rows(list("a"))
	tables.Lines(one)[0] = "other"
	if one[0][0] != "a" {
		t.Error("an answer of Lines shares its room with what was handed in")
	}
	table := counted(2, 2)
	for range 3 {
		if !tables.Even(table) || tables.Even(counted(2, 1)) {
			t.Error("Even answers otherwise when it is asked again")
		}
	}
}
