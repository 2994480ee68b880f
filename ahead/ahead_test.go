package ahead_test

import (
	"math/rand/v2"
	"regexp"
	"slices"
	"strconv"
	"strings"
	"testing"

	"bindery/ahead"
	"bindery/api"
	"bindery/samples"
)

// book makes sources: of each the name, then the text.
func book(l ...string) []api.Source {
	var out []api.Source
	for i := 0; i < len(l); i += 2 {
		out = append(out, api.Source{Name: l[i], Text: l[i+1]})
	}
	return out
}

// attrs is short, for tests that make attributes on nearly every line.
var attrs = samples.Attrs

// told is what Read answers.
type told struct {
	lines        []api.Line
	diags        []api.Diag
	files, asked []string
}

func read(l []api.Source, a []api.Attr, name string) told {
	lines, diags, files, asked := ahead.Read(l, a, name)
	return told{lines, diags, files, asked}
}

func (t told) equal(other told) bool {
	return slices.Equal(t.lines, other.lines) && slices.Equal(t.diags, other.diags) &&
		slices.Equal(t.files, other.files) && slices.Equal(t.asked, other.asked)
}

func (t told) clone() told {
	return told{slices.Clone(t.lines), slices.Clone(t.diags), slices.Clone(t.files), slices.Clone(t.asked)}
}

// texts are the lines' texts alone.
func (t told) texts() []string {
	var out []string
	for _, l := range t.lines {
		out = append(out, l.Text)
	}
	return out
}

// String writes it in four parts: lines and faults (where, and what), files, asked.
func (t told) String() string {
	names := map[api.Fault]string{api.FaSource: "source", api.FaCircle: "circle", api.FaWord: "word", api.FaEnd: "end", api.FaDeep: "deep", api.FaLong: "long"}
	var lines, diags []string
	for _, l := range t.lines {
		lines = append(lines, l.File+strconv.Itoa(l.No)+":"+l.Text)
	}
	for _, d := range t.diags {
		diags = append(diags, d.File+strconv.Itoa(d.Line)+":"+names[d.Fault]+":"+d.Text)
	}
	return strings.Join(lines, ",") + " / " + strings.Join(diags, ",") + " / " + strings.Join(t.files, ",") + " / " + strings.Join(t.asked, ",")
}

// example is a Read of the first one of its sources, and what it tells, as String writes it.
type example struct {
	sources []api.Source
	attrs   []api.Attr
	want    string
}

func check(t *testing.T, l []example) {
	t.Helper()
	for _, c := range l {
		if got := read(c.sources, c.attrs, c.sources[0].Name).String(); got != c.want {
			t.Errorf("Read(%q, %q):\n%q, not\n%q", c.sources, c.attrs, got, c.want)
		}
	}
}

// P5.2.
func TestLines(t *testing.T) {
	for _, c := range []struct {
		s    string
		want []string
	}{
		{"a\nb", []string{"a", "b"}},
		{"", nil},
		{"\n", []string{""}},
		{"\n\n", []string{"", ""}},
		{"a", []string{"a"}},
		{"a\n", []string{"a"}},
		{"a\n\n", []string{"a", ""}},
		{"\na", []string{"", "a"}},
		{"a\n\nb\n", []string{"a", "", "b"}},
		{" ", []string{" "}},
		{"a\n ", []string{"a", " "}},
		{" a\t\n\tb ", []string{" a\t", "\tb "}},
		{"a\r\nb\r", []string{"a\r", "b\r"}},
		{"a\vb\fc\x00d\x85e\u2028f", []string{"a\vb\fc\x00d\x85e\u2028f"}},
		{"\xff\n\xc3", []string{"\xff", "\xc3"}},
	} {
		if got := ahead.Lines(c.s); !slices.Equal(got, c.want) {
			t.Errorf("Lines(%q) = %q, not %q", c.s, got, c.want)
		}
	}
	if n := len(ahead.Lines(strings.Repeat("ab\n", 100000))); n != 100000 {
		t.Errorf("%d lines of 100000", n)
	}
}

// P5.2: byte by byte, said once more.
func TestLinesOfAll(t *testing.T) {
	for _, s := range samples.Texts([]string{"a", " ", "\r", "\xff", "\n"}, 6) {
		var want []string
		line := ""
		for i := range len(s) {
			if s[i] == 10 {
				want = append(want, line)
				line = ""
			} else {
				line += s[i : i+1]
			}
		}
		if line != "" {
			want = append(want, line)
		}
		if got := ahead.Lines(s); !slices.Equal(got, want) {
			t.Fatalf("Lines(%q) = %q, not %q", s, got, want)
		}
	}
}

// P5.2.
func TestFind(t *testing.T) {
	l := book("a", "1", "b", "2", "a", "3", "", "4", "c d", "", "\xff", "5")
	for _, c := range []struct {
		l     []api.Source
		name  string
		want  string
		there bool
	}{
		{l, "a", "1", true},
		{l, "b", "2", true},
		{l, "", "4", true},
		{l, "c d", "", true},
		{l, "\xff", "5", true},
		{l, "A", "", false},
		{l, "aa", "", false},
		{l, "c", "", false},
		{l, "1", "", false},
		{l[1:], "a", "3", true},
		{nil, "a", "", false},
		{nil, "", "", false},
		{[]api.Source{}, "a", "", false},
	} {
		if got, there := ahead.Find(c.l, c.name); got != c.want || there != c.there {
			t.Errorf("Find(%q, %q) = %q, %v", c.l, c.name, got, there)
		}
	}
}

// P5.1: the document's examples.
func TestRead(t *testing.T) {
	taking := book("m", "a\n@include n\n@if x\nb\n@else\nc\n@end", "n", "{x}")
	check(t, []example{
		{taking, attrs("x=1"), "m1:a,n1:1,m4:b /  / m,n / x"},
		{taking, nil, "m1:a,n1:{x},m6:c /  / m,n / x"},
		{book("m", "@include m\n@foo\n@end\n@if x"), nil, " / m1:circle:m,m2:word:@foo,m3:end:@end,m4:end: / m / x"},
		{book("m", "@set x 1\n{x}{y}\n\\@a"), nil, "m2:1{y},m3:@a /  / m / y"},
	})
}

// P5.1: a source that is not there, and sources of any name.
func TestReadOfNames(t *testing.T) {
	for _, name := range []string{"k", "", "a b", "M", "m\n", "\xff"} {
		want := told{diags: []api.Diag{{File: name, Line: 0, Fault: api.FaSource, Text: name}}}
		for _, l := range [][]api.Source{nil, {}, book("m", "a\n@foo\n{x}"), book("m", "", "k.k", "a")} {
			if got := read(l, attrs("x=1"), name); !got.equal(want) {
				t.Errorf("Read(%q, %q) = %s", l, name, got)
			}
		}
	}
	check(t, []example{
		{book("", "a\n@foo"), nil, "1:a / 2:word:@foo /  / "},
		{book("a b", "a\n@include a b"), nil, "a b1:a / a b2:word:@include a b / a b / "},
		{book("m", "", "n", "a"), nil, " /  / m / "},
		{book("m", "a", "m", "b"), nil, "m1:a /  / m / "},
		{book("m", "@include n", "n", "a", "n", "b"), nil, "n1:a /  / m,n / "},
	})
	if got := read(book("m", "a", "n", "b", "m", "c"), nil, "n").String(); got != "n1:b /  / n / " {
		t.Errorf("n: %s", got)
	}
}

// P5.1: which lines have a word, and which word they have.
func TestWords(t *testing.T) {
	check(t, []example{
		{book("m", "@"), nil, " / m1:word:@ / m / "},
		{book("m", "@ "), nil, " / m1:word:@  / m / "},
		{book("m", "@ if x"), nil, " / m1:word:@ if x / m / "},
		{book("m", "@@if x"), nil, " / m1:word:@@if x / m / "},
		{book("m", "@If x\n@IF x\n@iff x\n@i x"), nil, " / m1:word:@If x,m2:word:@IF x,m3:word:@iff x,m4:word:@i x / m / "},
		{book("m", "@end.\n@end;\n@else:"), nil, " / m1:word:@end.,m2:word:@end;,m3:word:@else: / m / "},
		{book("m", "@foo {x}"), attrs("x=1"), " / m1:word:@foo {x} / m / "},
		{book("m", "@{x} y 1"), attrs("x=set"), " / m1:word:@{x} y 1 / m / "},
		{book("m", "@set\ry 1\n@set\u00a0y 1"), nil, " / m1:word:@set\ry 1,m2:word:@set\u00a0y 1 / m / "},
		{book("m", " @if x\n\t@end\na @foo\nif x"), nil, "m1: @if x,m2:\t@end,m3:a @foo,m4:if x /  / m / "},
		{book("m", "{x}if y\n{y}"), attrs("x=@", "y=\\@a"), "m1:@if y,m2:\\@a /  / m / x,y"},
		{book("m", "\\@if x\n\\@\n\\@@a\n\\@foo {x}"), attrs("x=1"), "m1:@if x,m2:@,m3:@@a,m4:@foo 1 /  / m / x"},
		{book("m", "\\\\@a\n \\@a\n\\a\n\\\na\\@b\n\\{x}"), attrs("x=@b"), "m1:\\\\@a,m2: \\@a,m3:\\a,m4:\\,m5:a\\@b,m6:\\@b /  / m / x"},
		{book("m", "@include\tn\t\n@include   n  \n@include \t n", "n", "a"), nil, "n1:a,n1:a,n1:a /  / m,n / "},
		{book("m", "@if \t x \t\na\n@end \t x {y}\n@if\ty\nb\n@else x {z}\nc\n@end\t"), attrs("x=1"), "m2:a,m7:c /  / m / x,y"},
		{book("m", "@set \t x \t a  b \t\n[{x}]\n@unset \t x\t \n[{x}]"), nil, "m2:[a  b],m4:[{x}] /  / m / "},
		{book("m", "", "n", "@"), nil, " /  / m / "},
		{book("m", "\n\n \na\n"), nil, "m1:,m2:,m3: ,m4:a /  / m / "},
	})
}

// P5.1: a word is parted from its rest by a byte 32 or 9, and by no other one.
func TestWordsOfBytes(t *testing.T) {
	for n := range 256 {
		c := string([]byte{byte(n)})
		if n == 10 {
			continue
		}
		got := read(book("m", "@include"+c+"n", "n", "a"), nil, "m")
		want := told{diags: []api.Diag{{File: "m", Line: 1, Fault: api.FaWord, Text: "@include" + c + "n"}}, files: []string{"m"}}
		if n == 32 || n == 9 {
			want = told{lines: []api.Line{{File: "n", No: 1, Text: "a"}}, files: []string{"m", "n"}}
		}
		if !got.equal(want) {
			t.Errorf("%q between a word and its rest: %s", c, got)
		}
		for _, s := range []string{"@set x" + c + "y\n{x}", "@set x " + c + "y\n{x}", "@set x y" + c + "\n{x}"} {
			got := read(book("m", s), nil, "m")
			if parts := n == 32 || n == 9; parts && !slices.Equal(got.texts(), []string{"y"}) || !parts && slices.Equal(got.texts(), []string{"y"}) {
				t.Errorf("%q: %s", s, got)
			}
		}
	}
}

// P5.1: which parts of conditions are in force.
func TestConditions(t *testing.T) {
	check(t, []example{
		{book("m", "@if x\na\n@end\nb"), attrs("x="), "m2:a,m4:b /  / m / x"},
		{book("m", "@if x\na\n@end\nb"), nil, "m4:b /  / m / x"},
		{book("m", "@if !x\na\n@else\nb\n@end"), nil, "m2:a /  / m / x"},
		{book("m", "@if x=1\na\n@else\nb\n@end"), attrs("x=2"), "m4:b /  / m / x"},
		{book("m", "@if x!=a b\na\n@else\nb\n@end"), attrs("x=a b"), "m4:b /  / m / x"},
		{book("m", "@if x=\na\n@else\nb\n@end"), attrs("x="), "m2:a /  / m / x"},
		{book("m", "@if x={y}\na\n@else\nb\n@end"), attrs("x=1", "y=1"), "m4:b /  / m / x"},
		{book("m", "@if x\n@else\na\n@end\n@if x\n@end\nb"), nil, "m3:a,m7:b /  / m / x"},
		{book("m", "@if x\n@if y\na\n@else\nb\n@end\nc\n@else\nd\n@if y\ne\n@else\nf\n@end\ng\n@end\nh"), attrs("x=1"), "m5:b,m7:c,m17:h /  / m / x,y"},
		{book("m", "@if x\n@if y\na\n@else\nb\n@end\nc\n@else\nd\n@if y\ne\n@else\nf\n@end\ng\n@end\nh"), attrs("y=1"), "m9:d,m11:e,m15:g,m17:h /  / m / x,y"},
		// What is not in force says nothing but how conditions are open.
		{book("m", "@if x\n@include n\n@include m\n@foo\n@set y 1\n@set 1\n@unset 1\n{z}\n@if !\n@end\n@end\n{y}", "n", "a"), nil, "m12:{y} /  / m / x,y"},
		{book("m", "@if x\n@if y\n@if !y\na\n@else\nb\n@end\n@else\nc\n@end\n@else\nd\n@end"), nil, "m12:d /  / m / x"},
		// An @else and an @end too many are told of in force or not, and an @else only once.
		{book("m", "@else\n@end\n@else a\n@end b"), nil, " / m1:end:@else,m2:end:@end,m3:end:@else a,m4:end:@end b / m / "},
		{book("m", "@if x\n@else\n@else\na\n@else {y}\nb\n@end\n@end"), nil, "m4:a,m6:b / m3:end:@else,m5:end:@else {y},m8:end:@end / m / x"},
		{book("m", "@if x\n@else\n@else\na\n@else\nb\n@end"), attrs("x=1"), " / m3:end:@else,m5:end:@else / m / x"},
		{book("m", "@if x\n@if y\n@else\n@else\n@end\n@else\na\n@end"), nil, "m7:a / m4:end:@else / m / x"},
		{book("m", "@if x\n@if y\n@end\n@else\na\n@if y\n@else\n@end\n@else\n@end"), nil, "m5:a / m9:end:@else / m / x,y"},
		// Of a condition that may not be neither part holds.
		{book("m", "@if\na\n@else\nb\n@end\nc"), nil, "m6:c / m1:word:@if / m / "},
		{book("m", "@if x y\na\n@else\nb\n@end\nc"), attrs("x=1"), "m6:c / m1:word:@if x y / m / "},
		{book("m", "@if !x=1\na\n@if y\n@else\nb\n@if !\n@end\n@end\n@else\nc\n@end\nd"), nil, "m12:d / m1:word:@if !x=1 / m / "},
		{book("m", "@if 1"), nil, " / m1:word:@if 1,m1:end: / m / "},
		// Those that do not end are told of behind the last line, in the order of their @if.
		{book("m", "@if x\n@if y\n@end\n@if z\na\n@else\nb\n@if u"), nil, " / m1:end:,m4:end:,m8:end: / m / x"},
		{book("m", "@if x\n@if y\n@end\n@if z\na\n@else\nb\n@if u\nc"), attrs("x=1", "z=1"), "m5:a / m1:end:,m4:end:,m8:end: / m / x,y,z"},
	})
}

// P5.1: conditions belong to their source.
func TestConditionsOfSources(t *testing.T) {
	check(t, []example{
		{book("m", "@if x\n@include n\na\n@end", "n", "@end\nb\n@else"), attrs("x=1"), "n2:b,m3:a / n1:end:@end,n3:end:@else / m,n / x"},
		{book("m", "@include n\na\n@end", "n", "@if x\nb"), nil, "m2:a / n1:end:,m3:end:@end / m,n / x"},
		{book("m", "@if x\n@include n\n@else\na\n@end", "n", "@if !x\n@if y\n@else\nb"), attrs("x=1"), " / n1:end:,n2:end: / m,n / x"},
		{book("m", "@if y\n@include n\n@foo", "n", "@if x\n@foo"), attrs("x=1", "y=1"), " / n2:word:@foo,n1:end:,m3:word:@foo,m1:end: / m,n / x,y"},
		{book("m", "@if x\n@else\n@include n\na\n@end", "n", "@if x\n@else\n@include o\nb\n@end", "o", "@if x\n@else\nc\n@end"), nil, "o3:c,n4:b,m4:a /  / m,n,o / x"},
		{book("m", "@include n\n@include n", "n", "@if x\n@set x 1\na\n@else\n@set x 1\nb\n@end"), nil, "n6:b,n3:a /  / m,n / x"},
	})
}

// nested: so many conditions that hold, what stands in them, and their ends.
func nested(many int, within string) string {
	return strings.Repeat("@if !x\n", many) + within + strings.Repeat("\n@end", many)
}

// P5.1: how many conditions may stand within one another.
func TestDeepConditions(t *testing.T) {
	const most = api.MaxNest
	check(t, []example{
		{book("m", nested(most, "a")+"\nb"), nil, "m17:a,m34:b /  / m / x"},
		{book("m", nested(most, "@if y\na\n@else\nb\n@end\nc")+"\nd"), nil, "m22:c,m39:d / m17:deep:@if y / m / x"},
		{book("m", nested(most, "@if  !y\t")), nil, " / m17:deep:@if  !y\t,m1:end: / m / x"},
		{book("m", nested(most, "@if y\n@if z\n@if !\na\n@end\n@else\n@end\n@else\nb\n@end\nc")), nil, "m27:c / m17:deep:@if y / m / x"},
		{book("m", nested(most, "@if y\n@end\n@if z\n@end\na")), nil, "m21:a / m17:deep:@if y,m19:deep:@if z / m / x"},
		{book("m", nested(most, "@if !\n@end")), nil, " / m17:word:@if ! / m / x"},
		{book("m", nested(most-1, "@if y\n@end\n@if y\n@else\na\n@end")), nil, "m20:a /  / m / x,y"},
		{book("m", nested(1, "@if x\n"+nested(2*most, "a")+"\n@end")), nil, " /  / m / x"},
		// Those of other sources do not count.
		{book("m", nested(most, "@include n\n@if y\n@end"), "n", nested(most, "a\n@if z\n@end")), nil, "n17:a / n18:deep:@if z,m18:deep:@if y / m,n / x"},
	})
	many := 8000
	got := read(book("m", strings.Repeat("@if x\n", many)+strings.Repeat("@else\na\n", 1)+strings.Repeat("@end\n", many)+"b"), nil, "m").String()
	if want := "m" + strconv.Itoa(2*many+3) + ":b /  / m / x"; got != want {
		t.Errorf("%d conditions: %q, not %q", many, got, want)
	}
}

// P5.1: what is taken in, and what is not.
func TestInclude(t *testing.T) {
	check(t, []example{
		{book("m", "a\n@include n\nb\n@include n\nc", "n", "1\n2"), nil, "m1:a,n1:1,n2:2,m3:b,n1:1,n2:2,m5:c /  / m,n / "},
		{book("m", "@include o\n@include n\n@include o.p", "n", "@include o\n1", "o", "2", "o.p", "3"), nil, "o1:2,o1:2,n2:1,o.p1:3 /  / m,o,n,o.p / "},
		{book("m", "@include n\na", "n", ""), nil, "m2:a /  / m,n / "},
		{book("m", "@include n\na", "n", "\n"), nil, "n1:,m2:a /  / m,n / "},
		// No file's name: the line is told.
		{book("m", "@include"), nil, " / m1:word:@include / m / "},
		{book("m", "@include  "), nil, " / m1:word:@include   / m / "},
		{book("m", "@include a b\n@include 1\n@include a.\n@include a/b\n@include {x}", "a b", "1", "1", "1", "{x}", "1", "y", "2"), attrs("x=y"), " / m1:word:@include a b,m2:word:@include 1,m3:word:@include a.,m4:word:@include a/b,m5:word:@include {x} / m / "},
		{book("m", "@include "+strings.Repeat("n", api.MaxName+1), strings.Repeat("n", api.MaxName+1), "a"), nil, " / m1:word:@include " + strings.Repeat("n", api.MaxName+1) + " / m / "},
		{book("m", "@include "+strings.Repeat("n", api.MaxName), strings.Repeat("n", api.MaxName), "a"), nil, strings.Repeat("n", api.MaxName) + "1:a /  / m," + strings.Repeat("n", api.MaxName) + " / "},
		// No such source, and one that is open: the name is told.
		{book("m", "@include  n \na\n@include N", "n.n", "b"), nil, "m2:a / m1:source:n,m3:source:N / m / "},
		{book("m", "a\n@include\tm\t\nb"), nil, "m1:a,m3:b / m2:circle:m / m / "},
		{book("m", "@include n\na", "n", "@include o\nb", "o", "@include n\n@include m\n@include o\nc"), nil, "o4:c,n2:b,m2:a / o1:circle:n,o2:circle:m,o3:circle:o / m,n,o / "},
		{book("m", "@include n\n@include n", "n", "a\n@include m"), nil, "n1:a,n1:a / n2:circle:m,n2:circle:m / m,n / "},
	})
}

// row: so many sources, each of which takes in the next one; the last one has that text.
func row(many int, last string) []api.Source {
	var out []api.Source
	for i := range many - 1 {
		out = append(out, api.Source{Name: "s" + strconv.Itoa(i+1), Text: "@include s" + strconv.Itoa(i+2)})
	}
	return append(out, api.Source{Name: "s" + strconv.Itoa(many), Text: last})
}

// P5.1: how many sources may be open, and what is told first.
func TestDeepSources(t *testing.T) {
	names := func(many int) string {
		var l []string
		for _, s := range row(many, "") {
			l = append(l, s.Name)
		}
		return strings.Join(l, ",")
	}
	check(t, []example{
		{row(api.MaxNest, "a"), nil, "s161:a /  / " + names(16) + " / "},
		{row(api.MaxNest+1, "a"), nil, " / s161:deep:s17 / " + names(16) + " / "},
		{row(api.MaxNest+1, "a")[1:], nil, "s171:a /  / " + strings.TrimPrefix(names(17), "s1,") + " / "},
		{append(row(api.MaxNest, "@include  b \na\n@include c"), book("b", "1", "c", "2")...), nil, "s162:a / s161:deep:b,s163:deep:c / " + names(16) + " / "},
		{row(api.MaxNest, "@include s1\n@include s16\n@include none\n@include ?"), nil, " / s161:circle:s1,s162:circle:s16,s163:deep:none,s164:word:@include ? / " + names(16) + " / "},
		{row(api.MaxNest-1, "@include none\n@include s15\n@include s1"), nil, " / s151:source:none,s152:circle:s15,s153:circle:s1 / " + names(15) + " / "},
	})
	// Those that have ended do not count.
	var many strings.Builder
	var l []api.Source
	for i := range 3 * api.MaxNest {
		many.WriteString("@include n" + strconv.Itoa(i) + "\n")
		l = append(l, api.Source{Name: "n" + strconv.Itoa(i), Text: strconv.Itoa(i)})
	}
	got := read(append(l, api.Source{Name: "m", Text: many.String()}), nil, "m")
	if len(got.lines) != len(l) || len(got.files) != len(l)+1 || len(got.diags) != 0 {
		t.Errorf("one behind the other: %s", got)
	}
}

// P5.1: what is set, and from where on.
func TestSet(t *testing.T) {
	value := strings.Repeat("v", api.MaxValue)
	name := strings.Repeat("n", api.MaxName)
	check(t, []example{
		{book("m", "{x}\n@set x 1\n{x}\n@set x 2\n{x}\n@unset x\n{x}"), nil, "m1:{x},m3:1,m5:2,m7:{x} /  / m / x"},
		{book("m", "{x}\n@set x 1\n{x}\n@unset x\n{x}\n@set x 3\n{x}"), attrs("x=0"), "m1:0,m3:1,m5:{x},m7:3 /  / m / x"},
		{book("m", "@set x\n[{x}]\n@if x=\na\n@end"), attrs("x=0"), "m2:[],m4:a /  / m / "},
		{book("m", "@set x y z\n{x}\n@if x=y z\na\n@end"), nil, "m2:y z,m4:a /  / m / "},
		{book("m", "@unset x\n@unset x\n@if x\n@else\na\n@end"), attrs("x=1"), "m5:a /  / m / "},
		// A value is filled where it is set, and has its blanks from what is filled in alone.
		{book("m", "@set x {y}\n@set y 2\n{x}"), attrs("y=1"), "m3:1 /  / m / y"},
		{book("m", "@set x {y}\n@set y 2\n{x}"), nil, "m3:{y} /  / m / y"},
		{book("m", "@set x {x}{x}\n@set x {x}{x}\n{x}"), attrs("x=1"), "m3:1111 /  / m / x"},
		{book("m", "@set x  {y}a{y} \n[{x}]"), attrs("y= "), "m2:[ a ] /  / m / y"},
		{book("m", "@set x \\@{y}\n{x}"), nil, "m2:\\@{y} /  / m / y"},
		{book("m", "@set x @if\n{x} y"), nil, "m2:@if y /  / m / "},
		// What is refused changes nothing.
		{book("m", "@set x 0\n@set\n@set 1 a\n@set x_ a\n@set {y} a\n@set x a\tb\n@set x \x7f\n@set x a\x00\n{x}"), attrs("y=x"), "m9:0 / m2:word:@set,m3:word:@set 1 a,m4:word:@set x_ a,m5:word:@set {y} a,m6:word:@set x a\tb,m7:word:@set x \x7f,m8:word:@set x a\x00 / m / "},
		{book("m", "@set "+name+" 1\n@set n"+name+" 2\n@unset n"+name+"\n{"+name+"}"), nil, "m4:1 / m2:word:@set n" + name + " 2,m3:word:@unset n" + name + " / m / "},
		{book("m", "@set x "+value+"\n{x}"), nil, "m2:" + value + " /  / m / "},
		{book("m", "@set x "+value+"v\n{x}"), nil, "m2:{x} / m1:word:@set x " + value + "v / m / x"},
		{book("m", "@set x {y}{y}\n{x}"), attrs("y=" + value[1:]), "m2:{x} / m1:word:@set x {y}{y} / m / x,y"},
		{book("m", "@set x "+value+"{y}\n@if x="+value+"\na\n@end"), attrs("y="), "m3:a /  / m / y"},
		{book("m", "@unset\n@unset 1\n@unset x y\n@unset x=\n@unset {y}\n{x}"), attrs("x=1", "y=x"), "m6:1 / m1:word:@unset,m2:word:@unset 1,m3:word:@unset x y,m4:word:@unset x=,m5:word:@unset {y} / m / x"},
		// Attributes are those of all sources.
		{book("m", "@set x 1\n@include n\n{x}{y}", "n", "{x}\n@set x 2\n@set y 3"), nil, "n1:1,m3:23 /  / m,n / "},
		{book("m", "@include n\n{x}", "n", "@unset x"), attrs("x=1"), "m2:{x} /  / m,n / "},
		{book("m", "@if x\n@unset x\na\n@include n\n@else\nb\n@end", "n", "@if x\nc\n@else\nd\n@end"), attrs("x=1"), "m3:a,n4:d /  / m,n / x"},
	})
}

// P5.1: there may be more attributes than api.MaxAttrs.
func TestSetMany(t *testing.T) {
	var handed []api.Attr
	for i := range api.MaxAttrs {
		handed = append(handed, api.Attr{Name: "n" + strconv.Itoa(100+i), Value: strconv.Itoa(i)})
	}
	var text, all strings.Builder
	var want []string
	for i := range 8000 {
		n := strconv.Itoa(i)
		text.WriteString("@set x" + n + " " + n + "\n{x" + n + "}\n")
		all.WriteString("{x" + n + "}")
		want = append(want, n)
	}
	want = append(want, strings.Join(want, "")+"63", "{x5}")
	got := read(book("m", text.String()+all.String()+"{n163}\n@unset x5\n{x5}"), handed, "m")
	if !slices.Equal(got.texts(), want) || len(got.diags) != 0 || !slices.Equal(got.asked, []string{"n163"}) {
		t.Errorf("%d lines, faults %v, asked %q", len(got.lines), got.diags, got.asked)
	}
}

// P5.1: attributes that may not be are none.
func TestAttributesThatMayNotBe(t *testing.T) {
	var many []api.Attr
	for i := range api.MaxAttrs + 1 {
		many = append(many, api.Attr{Name: "a" + strconv.Itoa(100+i)})
	}
	most := many[:api.MaxAttrs]
	l := book("m", "{a100}\n@if b\nc\n@else\nd\n@end")
	const none, set = "m1:{a100},m5:d /  / m / a100,b", "m1:,m5:d /  / m / a100,b"
	check(t, []example{
		{l, most, set},
		{l, many, none},
		{l, append(slices.Clone(most[:3]), most[0]), none},
		{l, attrs("a100=", "b=1"), "m1:,m3:c /  / m / a100,b"},
		{l, attrs("b=1", "a100="), none},
		{l, attrs("a100=", "a100="), none},
		{l, attrs("a100=", "b=\n"), none},
		{l, attrs("a100=", "b="+strings.Repeat("v", api.MaxValue+1)), none},
		{l, attrs("=", "a100="), none},
		{l, []api.Attr{}, none},
	})
}

// P5.1: which names were asked for.
func TestAsked(t *testing.T) {
	check(t, []example{
		{book("m", "{c}{a}{b}{a}\n{B}{a}"), attrs("a=1"), "m1:{c}1{b}1,m2:{B}1 /  / m / B,a,b,c"},
		{book("m", "@if b\n@end\n@if !a\n@end\n@if d=1\n@end\n@if c!=\n@end"), attrs("b=1"), " /  / m / a,b,c,d"},
		{book("m", "@if a={b}\n@end"), nil, " /  / m / a"},
		{book("m", "@if a\n@if b\n@else\n{c}\n@end\n@else\n{d}\n@if e"), nil, "m7:{d} / m1:end:,m8:end: / m / a,d,e"},
		{book("m", "@if a b\n@if c\n{d}\n@else\n{e}"), nil, " / m1:word:@if a b,m1:end:,m2:end: / m / "},
		{book("m", "@include {a}\n@foo {b}\n@unset {c}\n@else {d}\n@end {e}\n@set {f} {g}"), nil, " / m1:word:@include {a},m2:word:@foo {b},m3:word:@unset {c},m4:end:@else {d},m5:end:@end {e},m6:word:@set {f} {g} / m / g"},
		{book("m", "@set a {b}{a}\n{a}"), nil, "m2:{b}{a} /  / m / a,b"},
		{book("m", "@set 1 {a}\n@set b {c}\x01\n@set d \x01\n{d}"), nil, "m4:{d} / m1:word:@set 1 {a},m2:word:@set b {c}\x01,m3:word:@set d \x01 / m / a,c,d"},
		{book("m", "@set\n@set {a}"), nil, " / m1:word:@set,m2:word:@set {a} / m / "},
		// Not behind an @set or @unset that was done.
		{book("m", "@set a 1\n@unset b\n{a}{b}{c}\n@if a\n@end\n@if b\n@end\n@unset a\n{a}"), attrs("b=1"), "m3:1{b}{c},m9:{a} /  / m / c"},
		{book("m", "@set a {a}\n@set b 1\n@set c {b}{a}\n{a}{b}{c}"), nil, "m4:{a}11{a} /  / m / a"},
		{book("m", "{a}\n@set a 1\n{a}"), nil, "m1:{a},m3:1 /  / m / a"},
		{book("m", "@if x\n@set a 1\n@unset b\n@end\n{a}{b}"), nil, "m5:{a}{b} /  / m / a,b,x"},
		{book("m", "@set a 1 {\n@unset b c\n{a}{b}"), nil, "m3:1 {{b} / m2:word:@unset b c / m / b"},
		{book("m", "@include n\n{a}{b}", "n", "@set a 1\n{b}"), nil, "n2:{b},m2:1{b} /  / m,n / b"},
		{book("m", "{a", "n", "{b}"), attrs("c=1"), "m1:{a /  / m / "},
		{book("m", "{a b}{}{1}{a}}\n{-}{{a}"), attrs("a=x"), "m1:{a b}{}{1}x},m2:{-}{x /  / m / a"},
	})
}

// P5.1: how many lines may be read.
func TestLong(t *testing.T) {
	const most = api.MaxLines
	lines := func(many int, line string) string { return strings.Repeat(line+"\n", many) }
	for _, c := range []struct {
		about   string
		sources []api.Source
		lines   int
		want    string // without the lines
	}{
		{"as many as may be", book("m", lines(most, "a")), most, " /  / m / "},
		{"without the last line's end", book("m", lines(most-1, "a")+"a"), most, " /  / m / "},
		{"one more", book("m", lines(most+1, "a")), most, " / m16385:long: / m / "},
		{"one more, which is empty", book("m", lines(most, "a")+"\n"), most, " / m16385:long: / m / "},
		{"many more", book("m", lines(3*most, "a")), most, " / m16385:long: / m / "},
		{"lines that tell nothing", book("m", lines(most, "@set x 1")+"a"), 0, " / m16385:long: / m / "},
		{"lines that are not in force", book("m", "@if x\n"+lines(most-3, "a")+"@end\n{y}\n{z}"), 1, " / m16385:long: / m / x,y"},
		{"a fault at the last line that may be", book("m", lines(most-1, "a")+"@foo\n@foo"), most - 1, " / m16384:word:@foo,m16385:long: / m / "},
		{"a fault behind it", book("m", lines(most, "a")+"@end"), most, " / m16385:long: / m / "},
		{"conditions that are open", book("m", "@if x\n@else\n@if y\n"+lines(most, "a")), 0, " / m16385:long: / m / x,y"},
		{"conditions that are open and end", book("m", "@if x\n@else\n"+lines(most-2, "a")), most - 2, " / m1:end: / m / x"},
		{"in a source that is taken in", book("m", "@if x\n@else\n@include n\na\n@end", "n", "@if x\n@else\n"+lines(most, "a")), most - 5, " / n16382:long: / m,n / x"},
		{"behind one", book("m", "@include n\na\nb\nc", "n", lines(most-3, "a")), most - 1, " / m4:long: / m,n / "},
		{"behind one, as many as may be", book("m", "@include n\na\nb", "n", lines(most-3, "a")), most - 1, " /  / m,n / "},
		{"the first line of one", book("m", lines(most-1, "a")+"@include n\n", "n", "{x}\nb"), most - 1, " / n1:long: / m,n / "},
		{"one without lines", book("m", lines(most-1, "a")+"@include n\n", "n", ""), most - 1, " /  / m,n / "},
		{"one that may not be", book("m", lines(most, "a")+"@include m\n"), most, " / m16385:long: / m / "},
		{"many", book("m", lines(100, "@include n"), "n", lines(163, "@include o"), "o", "a"), 8166, " / o1:long: / m,n,o / "},
	} {
		got := read(c.sources, nil, "m")
		n := len(got.lines)
		got.lines = nil
		if s := got.String(); n != c.lines || s != c.want {
			t.Errorf("%s: %d lines, not %d; %q, not %q", c.about, n, c.lines, s, c.want)
		}
	}
}

// P5.1, R5: nothing of a Read that ended early is left for the next one.
func TestLongAgain(t *testing.T) {
	long := book("m", strings.Repeat("@set x 1\n@if x\n", api.MaxLines))
	short := book("m", "{x}\n@end")
	before := read(short, nil, "m")
	read(long, nil, "m")
	if got := read(short, nil, "m"); !got.equal(before) || before.String() != "m1:{x} / m2:end:@end / m / x" {
		t.Errorf("%s; then %s", before, got)
	}
}

// P5.3: what has no words, no braces and no backslashes tells its lines.
func TestPlainLines(t *testing.T) {
	for _, s := range samples.Texts([]string{"a", " @", "\n", "}", "\xff"}, 5) {
		if strings.HasPrefix(s, "@") {
			continue
		}
		var want told
		for i, text := range ahead.Lines(s) {
			want.lines = append(want.lines, api.Line{File: "m", No: i + 1, Text: text})
		}
		want.files = []string{"m"}
		if got := read(book("m", s), attrs("a=1"), "m"); !got.equal(want) {
			t.Fatalf("Read of %q = %s", s, got)
		}
	}
}

// P5.3: what is not in force may be any lines, if they begin and end conditions alike.
func TestNotInForce(t *testing.T) {
	r := rand.New(rand.NewPCG(5, 3))
	within := []string{"a", "{b}", "@foo", "@set x 1", "@set 1", "@unset x", "@include n", "@include m", "@if x\n@end", "@if\n{x}\n@else\n@foo\n@end", "@if b\n@if !\n@end\n@else\n@end"}
	frames := []string{"@if y\n?\n@end\n{x}", "@if !y\nb\n@else\n?\n@end\n{x}", "@if !\n?\n@else\n?\n@end", "@if y\n@if y\n?\n@else\n?\n@end\n@end", "@if y\n?"}
	for range 2000 {
		var some []string
		for range 1 + r.IntN(6) {
			some = append(some, within[r.IntN(len(within))])
		}
		with := strings.Join(some, "\n")
		// Empty lines in the place of the others: what stands behind keeps its number.
		without := regexp.MustCompile(`(?m)^.*$`).ReplaceAllStringFunc(with, func(s string) string {
			if word := word.FindStringSubmatch(s); word != nil && strings.Contains("@if @else @end", word[1]) {
				return word[1]
			}
			return ""
		})
		for _, f := range frames {
			one := read(book("m", "{x}\n"+strings.ReplaceAll(f, "?", with), "n", "{c}"), nil, "m")
			two := read(book("m", "{x}\n"+strings.ReplaceAll(f, "?", without), "n", "{c}"), nil, "m")
			if !one.equal(two) {
				t.Fatalf("%q tells %s; without %q it is %s", f, one, with, two)
			}
		}
	}
}

// programs: sources of lines taken at random, the first one is m.
func programs(r *rand.Rand) []api.Source {
	some := []string{"a", "{x}", "b{y}{x}{z}", "\\@{x}", "", "@if x", "@if x", "@if !x", "@if y=1", "@if y!=1", "@if z", "@if", "@if x y", "@else", "@else", "@end", "@end", "@end", "@foo", "@",
		"@set x 1", "@set y {x}", "@set\tz  {y}{z} ", "@set y 1", "@set ? {z}", "@set z \x01{x}", "@unset x", "@unset y", "@unset ?", "@include n", "@include n", "@include o", "@include o.p", "@include none", "@include ?", "@include m"}
	var l []api.Source
	for _, name := range []string{"m", "n", "o", "o.p"} {
		var lines []string
		for range 1 + r.IntN(14) {
			lines = append(lines, some[r.IntN(len(some))])
		}
		l = append(l, api.Source{Name: name, Text: strings.Join(lines, "\n")})
	}
	return l
}

// lists of attributes, all of which may be.
func lists() [][]api.Attr {
	return [][]api.Attr{nil, attrs("x=1"), attrs("y=1"), attrs("x=", "y={x}", "z=\\@"), attrs("z= ")}
}

// P5.1: many sources, held against the model.
func TestReadOfMany(t *testing.T) {
	r := rand.New(rand.NewPCG(5, 1))
	for range 4000 {
		l := programs(r)
		for _, a := range lists() {
			got, want := read(l, a, "m"), modelRead(l, a, "m")
			if !got.equal(want) {
				t.Fatalf("Read(%q, %q):\n%s, not\n%s", l, a, got, want)
			}
		}
	}
}

// P5.1: sources and conditions as deep as they may be, and deeper, held against the model.
func TestReadOfDeep(t *testing.T) {
	r := rand.New(rand.NewPCG(5, 16))
	some := []string{"a", "@if !x", "@if !x", "@if !x", "@if x", "@if ?", "@else", "@end", "{y}", "@if y!=1"}
	for range 300 {
		var l []api.Source
		for i := range api.MaxNest + 3 {
			var lines []string
			for range r.IntN(40) * r.IntN(2) {
				lines = append(lines, some[r.IntN(len(some))])
			}
			lines = append(lines, "@include s"+strconv.Itoa(i+1), "@else", "@include s"+strconv.Itoa(i+1), "@include s"+strconv.Itoa(r.IntN(i+1)))
			l = append(l, api.Source{Name: "s" + strconv.Itoa(i), Text: strings.Join(lines, "\n")})
		}
		got, want := read(l, nil, "s0"), modelRead(l, nil, "s0")
		if !got.equal(want) {
			t.Fatalf("Read(%q):\n%s, not\n%s", l, got, want)
		}
	}
}

// P5.1: all short sources of some lines, held against the model.
func TestReadOfAll(t *testing.T) {
	other := api.Source{Name: "n", Text: "@else\n{x}\n@if x\n@unset x\n@end\n@end\n@if y"}
	for _, s := range samples.Texts([]string{"a{x}\n", "@if x\n", "@if !y\n", "@if ?\n", "@else\n", "@end\n", "@set x {y}\n", "@include n\n"}, 5) {
		l := []api.Source{{Name: "m", Text: s}, other}
		a := attrs("x=1")[:len(s)%2]
		if got, want := read(l, a, "m"), modelRead(l, a, "m"); !got.equal(want) {
			t.Fatalf("Read(%q, %q):\n%s, not\n%s", l, a, got, want)
		}
	}
}

// P5.3: attributes that were not asked for make no difference.
func TestAttributesNotAsked(t *testing.T) {
	r := rand.New(rand.NewPCG(5, 2))
	fewer := 0
	for range 4000 {
		l := programs(r)
		for _, a := range lists() {
			got := read(l, a, "m")
			// Those that were asked for, as they were, and of the others other ones.
			var turned []api.Attr
			for _, name := range []string{"w", "x", "y", "z", "zz"} {
				i := slices.IndexFunc(a, func(x api.Attr) bool { return x.Name == name })
				switch asked := slices.Contains(got.asked, name); {
				case asked && i >= 0:
					turned = append(turned, a[i])
				case !asked && i < 0:
					turned = append(turned, api.Attr{Name: name, Value: "other"})
				case !asked:
					fewer++
				}
			}
			if again := read(l, turned, "m"); !again.equal(got) {
				t.Fatalf("Read of %q, with %q: %s; with %q: %s", l, a, got, turned, again)
			}
		}
	}
	if fewer == 0 {
		t.Error("all attributes were always asked for")
	}
}

// R4, R5: what is handed in stays; what is answered is new, spare room too.
func TestAnswersAreNew(t *testing.T) {
	l := book("m", "a\n{x}\n@include n\n@foo\n@include m\n@set x 2\n@if y", "n", "{z}{x}\n@end", "spare", "b")[:2]
	a := attrs("x=1", "y=2", "spare=3")[:2]
	wasSources, wasAttrs := slices.Clone(l[:3]), slices.Clone(a[:3])
	one, two := read(l, a, "m"), read(l, a, "m")
	want := one.clone()
	for i := range one.lines[:cap(one.lines)] {
		one.lines[:cap(one.lines)][i] = api.Line{File: "changed"}
	}
	for i := range one.diags[:cap(one.diags)] {
		one.diags[:cap(one.diags)][i] = api.Diag{File: "changed"}
	}
	for _, names := range [][]string{one.files, one.asked, ahead.Lines("a\nb\n")} {
		names = names[:cap(names)]
		for i := range names {
			names[i] = "changed"
		}
	}
	if !two.equal(want) || !read(l, a, "m").equal(want) || want.String() != "m1:a,m2:1,n1:{z}1 / n2:end:@end,m4:word:@foo,m5:circle:m,m7:end: / m,n / x,y,z" {
		t.Errorf("%s; then %s", want, two)
	}
	if !slices.Equal(l[:3], wasSources) || !slices.Equal(a[:3], wasAttrs) {
		t.Errorf("what was handed in is now %q, %q", l[:3], a[:3])
	}
	_, missing, _, _ := ahead.Read(l, a, "none")
	missing[0].File = "changed"
	if _, again, _, _ := ahead.Read(l, a, "none"); again[0].File != "none" {
		t.Errorf("%v", again)
	}
	lines := ahead.Lines("a\nb\n")
	lines[0] = "changed"
	if again := ahead.Lines("a\nb\n"); !slices.Equal(again, []string{"a", "b"}) {
		t.Errorf("%q", again)
	}
}

// R1: any bytes.
func TestReadOfAnyBytes(t *testing.T) {
	for _, s := range samples.Texts([]string{"@", "\\", "{", "x", "}", " ", "\n", "\xff", "@if", "@end"}, 5) {
		got := read([]api.Source{{Name: "m", Text: s}}, attrs("x=\\@"), "m")
		want := modelRead([]api.Source{{Name: "m", Text: s}}, attrs("x=\\@"), "m")
		if !got.equal(want) {
			t.Fatalf("Read(%q):\n%s, not\n%s", s, got, want)
		}
	}
}
