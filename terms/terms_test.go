package terms_test

import (
	"fmt"
	"regexp"
	"slices"
	"strings"
	"testing"

	"bindery/api"
	"bindery/samples"
	"bindery/terms"
)

// told is what Parse answers.
type told struct {
	term, sub, see string
	e              api.Errno
}

func (t told) String() string {
	return fmt.Sprintf("%.60q, %.60q, %.60q, %v", t.term, t.sub, t.see, t.e)
}

var refused = told{e: api.ErrForm}

func parse(s string) told {
	term, sub, see, e := terms.Parse(s)
	return told{term, sub, see, e}
}

// form says once more how a term's text looks, but for its length.
var form = func() *regexp.Regexp {
	const part = `[ \t]*([^;><() \t](?:[^;><()]*[^;><() \t])?)[ \t]*`
	return regexp.MustCompile(`\A` + part + `(?:;` + part + `|>` + part + `)?\z`)
}()

// parsed says P7.1 once more.
func parsed(s string) told {
	m := form.FindStringSubmatch(s)
	if m == nil || len(s) > 240 {
		return refused
	}
	return told{term: m[1], sub: m[2], see: m[3]}
}

// written says P7.2 once more.
func written(term, sub, see string) (string, api.Errno) {
	text := term
	if sub != "" {
		text += ";" + sub
	}
	if see != "" {
		text += ">" + see
	}
	if parsed(text) != (told{term: term, sub: sub, see: see}) {
		return "", api.ErrArg
	}
	return text, api.OK
}

// beginning says once more what a key goes without.
var beginning = regexp.MustCompile(`\A(?:the|a|an) `)

// key says P7.3 once more.
func key(term string) string {
	small := []byte(term)
	for i, c := range small {
		if c >= 'A' && c <= 'Z' {
			small[i] = c | 32
		}
	}
	return beginning.ReplaceAllString(string(small), "")
}

// pieces: what terms' texts are made of, signs that may not be among them.
var pieces = []string{"a", "B", " ", "\t", ";", ">", "<", "("}

// P7.1: the document's examples, the three forms, blanks.
func TestParse(t *testing.T) {
	for _, c := range []struct {
		s    string
		want told
	}{
		{"apple", told{term: "apple"}},
		{" a pie ; hot ", told{term: "a pie", sub: "hot"}},
		{"pie>apple", told{term: "pie", see: "apple"}},
		{"a", told{term: "a"}},
		{"a;b", told{term: "a", sub: "b"}},
		{"a>b", told{term: "a", see: "b"}},
		{"a;a", told{term: "a", sub: "a"}},
		{"a>a", told{term: "a", see: "a"}},
		{" a", told{term: "a"}},
		{"a ", told{term: "a"}},
		{"\ta\t", told{term: "a"}},
		{" \t \ta \t", told{term: "a"}},
		{"\ta b\t;\tc  d\t", told{term: "a b", sub: "c  d"}},
		{" \ta b \t > \tc\td \t", told{term: "a b", see: "c\td"}},
		{"a b  c\t\td", told{term: "a b  c\t\td"}},
		{"The Pie", told{term: "The Pie"}},
		{"a,b.c:d!e?f", told{term: "a,b.c:d!e?f"}},
		{"[a]{b}", told{term: "[a]{b}"}},
		{"1;2", told{term: "1", sub: "2"}},
		{`a\;b`, told{term: `a\`, sub: "b"}},
		{"&gt", told{term: "&gt"}},
		{"é > ü", told{term: "é", see: "ü"}},
		{"\xff;\xfe", told{term: "\xff", sub: "\xfe"}},
		{"\u00a0a\u00a0", told{term: "\u00a0a\u00a0"}},
		{"\na\n", told{term: "\na\n"}},
		{"\n", told{term: "\n"}},
		{"a\n;\nb", told{term: "a\n", sub: "\nb"}},
		{"a>\r", told{term: "a", see: "\r"}},
		{"\x00", told{term: "\x00"}},
	} {
		if got := parse(c.s); got != c.want {
			t.Errorf("Parse(%q) = %v, not %v", c.s, got, c.want)
		}
	}
}

// P7.1: what is no term's text: the document's examples, and others of their kind.
func TestParseOfWrong(t *testing.T) {
	for _, s := range []string{
		"", ";a", "a;", "a;b;c", "a>b;c", "a(b)",
		" ", "\t", " \t ", ";", ">", " ; ", " > ",
		" ;a", "a; ", "a;\t", ">a", "a>", " >a", "a> ", "\t>\ta",
		"a;b>c", "a>b>c", "a;;b", "a>>b", "a;>b", "a>;b", "a;b;", "a>b>", ";a;b", ">a>b", ";>", ">;", ";;", ">>",
		"a;b>", "a>b;", ";b>c", ">b;c", "a; >c", "a> ;c",
		"<", "a<b", "<a", "a<", "a;<", "a;b<c", "a>b<c", "a<b;c", "a<b>c", "<a>",
		"(", ")", "(a", "a)", "()", "a;(b", "a;b)", "a>(b", "a>b)", "a(;b", "a)>b",
	} {
		if got := parse(s); got != refused {
			t.Errorf("Parse(%q) = %v", s, got)
		}
	}
}

// P7.1: 240 bytes in all may be, with the sign and all blanks.
func TestParseOfLengths(t *testing.T) {
	const most = 240
	a := func(n int) string { return strings.Repeat("a", n) }
	blanks := func(n int) string { return strings.Repeat(" \t", n)[:n] }
	for n := range 2 * most {
		for _, c := range []struct {
			s    string
			want told
		}{
			{a(n), told{term: a(n)}},
			{a(1) + ";" + a(n), told{term: a(1), sub: a(n)}},
			{a(n) + ";" + a(1), told{term: a(n), sub: a(1)}},
			{a(1) + ">" + a(n), told{term: a(1), see: a(n)}},
			{a(n) + ">" + a(n), told{term: a(n), see: a(n)}},
			{blanks(n) + "ab", told{term: "ab"}},
			{"ab" + blanks(n), told{term: "ab"}},
			{"a" + blanks(n) + "b", told{term: "a" + blanks(n) + "b"}},
			{"a" + blanks(n) + ";b", told{term: "a", sub: "b"}},
			{"a;" + blanks(n) + "b", told{term: "a", sub: "b"}},
			{"a>b" + blanks(n), told{term: "a", see: "b"}},
			{"a" + strings.Repeat("é", n), told{term: "a" + strings.Repeat("é", n)}},
		} {
			if n == 0 && parsed(c.s) == refused || len(c.s) > most {
				c.want = refused
			}
			if got := parse(c.s); got != c.want {
				t.Errorf("Parse of %d bytes, %.60q = %v, not %v", len(c.s), c.s, got, c.want)
			}
		}
	}
	for _, s := range []string{a(1 << 20), blanks(1<<20) + "a", "a" + strings.Repeat(";", 1<<20), a(1<<20) + ";" + a(1<<20)} {
		if got := parse(s); got != refused {
			t.Errorf("Parse of %d bytes: %v", len(s), got)
		}
	}
}

// P7.1: each byte within a part, at its ends and alone.
func TestParseOfBytes(t *testing.T) {
	for n := range 256 {
		c := string([]byte{byte(n)})
		part := func(s string) (string, bool) {
			if strings.Contains("<();>", c) {
				return "", false
			}
			s = strings.Trim(s, " \t")
			return s, s != ""
		}
		for _, s := range []string{c, "x" + c + "y", c + "x", "x" + c, c + c} {
			wants := []told{refused, refused, refused, refused, refused}
			if p, ok := part(s); ok {
				wants = []told{{term: p}, {term: p, sub: "b"}, {term: p, see: "b"}, {term: "a", sub: p}, {term: "a", see: p}}
			} else if s == "x;y" {
				wants[0] = told{term: "x", sub: "y"}
			} else if s == "x>y" {
				wants[0] = told{term: "x", see: "y"}
			}
			for i, text := range []string{s, s + ";b", s + ">b", "a;" + s, "a>" + s} {
				if got := parse(text); got != wants[i] {
					t.Errorf("Parse(%q) = %v, not %v", text, got, wants[i])
				}
			}
		}
	}
}

// P7.1: all short texts, held against the promise said once more.
func TestParseOfAll(t *testing.T) {
	few := []string{"a", " ", ";", ">"}
	for _, s := range slices.Concat(samples.Texts(append(pieces, ")", "é", "\xff", "\n"), 4), samples.Texts(few, 8)) {
		if got, want := parse(s), parsed(s); got != want {
			t.Fatalf("Parse(%q) = %v, not %v", s, got, want)
		}
	}
}

// P7.2: the document's examples, the three forms, and what may not be.
func TestText(t *testing.T) {
	for _, c := range []struct {
		term, sub, see, want string
		e                    api.Errno
	}{
		{"a", "b", "", "a;b", api.OK},
		{"a", "b", "c", "", api.ErrArg},
		{" a", "", "", "", api.ErrArg},
		{"a", "", "", "a", api.OK},
		{"a", "", "b", "a>b", api.OK},
		{"a pie", "very hot", "", "a pie;very hot", api.OK},
		{"a\tpie", "", "an  apple", "a\tpie>an  apple", api.OK},
		{"\n", "\n", "", "\n;\n", api.OK},
		{"é", "", "\xff", "é>\xff", api.OK},
		{"", "", "", "", api.ErrArg},
		{"", "b", "", "", api.ErrArg},
		{"", "", "b", "", api.ErrArg},
		{"", "b", "c", "", api.ErrArg},
		{"a ", "", "", "", api.ErrArg},
		{"\ta", "", "", "", api.ErrArg},
		{" ", "", "", "", api.ErrArg},
		{"a", " ", "", "", api.ErrArg},
		{"a", "", "\t", "", api.ErrArg},
		{"a", " b", "", "", api.ErrArg},
		{"a", "b\t", "", "", api.ErrArg},
		{"a", "", " b", "", api.ErrArg},
		{"a", "", "b ", "", api.ErrArg},
		{"a ", "b", "", "", api.ErrArg},
		{"a ", "", "b", "", api.ErrArg},
		{"a;b", "", "", "", api.ErrArg},
		{"a>b", "", "", "", api.ErrArg},
		{"a;b", "b", "", "", api.ErrArg},
		{"a;", "b", "", "", api.ErrArg},
		{"a", "b;c", "", "", api.ErrArg},
		{"a", "b>c", "", "", api.ErrArg},
		{"a", "b>", "c", "", api.ErrArg},
		{"a", "", "b>c", "", api.ErrArg},
		{"a", "", "b;c", "", api.ErrArg},
		{"a>b", "c", "", "", api.ErrArg},
		{"a<", "", "", "", api.ErrArg},
		{"a", "(", "", "", api.ErrArg},
		{"a", "", ")", "", api.ErrArg},
	} {
		if got, e := terms.Text(c.term, c.sub, c.see); got != c.want || e != c.e {
			t.Errorf("Text(%q, %q, %q) = %q, %v, not %q, %v", c.term, c.sub, c.see, got, e, c.want, c.e)
		}
	}
}

// P7.2: no text has more bytes than a term's text may have.
func TestTextOfLengths(t *testing.T) {
	a := func(n int) string { return strings.Repeat("a", n) }
	for _, c := range []struct {
		term, sub, see string
		e              api.Errno
	}{
		{a(239), "", "", api.OK},
		{a(240), "", "", api.OK},
		{a(241), "", "", api.ErrArg},
		{a(238), "b", "", api.OK},
		{a(239), "b", "", api.ErrArg},
		{a(238), "", "b", api.OK},
		{a(239), "", "b", api.ErrArg},
		{"b", a(238), "", api.OK},
		{"b", a(239), "", api.ErrArg},
		{"b", "", a(238), api.OK},
		{"b", "", a(239), api.ErrArg},
		{a(120), a(119), "", api.OK},
		{a(120), a(120), "", api.ErrArg},
		{a(1 << 20), a(1 << 20), a(1 << 20), api.ErrArg},
	} {
		want, _ := written(c.term, c.sub, c.see)
		if got, e := terms.Text(c.term, c.sub, c.see); got != want || e != c.e {
			t.Errorf("Text of %d, %d and %d bytes: %.80q, %v", len(c.term), len(c.sub), len(c.see), got, e)
		}
	}
}

// P7.2: all short parts, held against the promise said once more.
func TestTextOfAll(t *testing.T) {
	few := samples.Texts(pieces, 2)
	for _, term := range few {
		for _, sub := range few {
			for _, see := range few {
				want, wantE := written(term, sub, see)
				if got, e := terms.Text(term, sub, see); got != want || e != wantE {
					t.Fatalf("Text(%q, %q, %q) = %q, %v, not %q, %v", term, sub, see, got, e, want, wantE)
				}
			}
		}
	}
}

// P7.3: the document's examples, each beginning, and what is none.
func TestKey(t *testing.T) {
	for _, c := range []struct{ term, want string }{
		{"The Pie", "pie"},
		{"a pie", "pie"},
		{"an a b", "a b"},
		{"apple", "apple"},
		{"the", "the"},
		{"", ""},
		{"a", "a"},
		{"an", "an"},
		{"the ", ""},
		{"a ", ""},
		{"an ", ""},
		{"THE PIE", "pie"},
		{"A Pie", "pie"},
		{"AN Apple", "apple"},
		{"tHe x", "x"},
		{"the the pie", "the pie"},
		{"the a pie", "a pie"},
		{"the an pie", "an pie"},
		{"a the pie", "the pie"},
		{"a a pie", "a pie"},
		{"a an pie", "an pie"},
		{"an the pie", "the pie"},
		{"an an pie", "an pie"},
		{"the  pie", " pie"},
		{"a  pie", " pie"},
		{" the pie", " the pie"},
		{" a pie", " a pie"},
		{"the\tpie", "the\tpie"},
		{"a\tpie", "a\tpie"},
		{"an\npie", "an\npie"},
		{"a-pie", "a-pie"},
		{"the-pie", "the-pie"},
		{"a\u00a0pie", "a\u00a0pie"},
		{"then pie", "then pie"},
		{"them", "them"},
		{"thepie", "thepie"},
		{"th e", "th e"},
		{"th", "th"},
		{"t", "t"},
		{"another", "another"},
		{"and b", "and b"},
		{"as b", "as b"},
		{"aa b", "aa b"},
		{"ana b", "ana b"},
		{"pie the", "pie the"},
		{"pie a ", "pie a "},
		{"pie an apple", "pie an apple"},
		{"in the pie", "in the pie"},
		{"Pie; HOT", "pie; hot"},
		{"A(B)<C>", "a(b)<c>"},
		{"É", "É"},
		{"The É\xffA", "É\xffa"},
		{"\xffThe ", "\xffthe "},
		{"[\\]^_`@Z{", "[\\]^_`@z{"},
		{"The " + strings.Repeat("A", 1<<20), strings.Repeat("a", 1<<20)},
	} {
		if got := terms.Key(c.term); got != c.want {
			t.Errorf("Key(%.60q) = %.60q, not %.60q", c.term, got, c.want)
		}
	}
}

// P7.3: each byte behind a beginning, and in the place of its blank.
func TestKeyOfBytes(t *testing.T) {
	for _, s := range []string{"the", "a", "an", "The", "A", "AN"} {
		for n := range 256 {
			c := string([]byte{byte(n)})
			for _, term := range []string{c, s + c, s + c + "x", s + " " + c, c + s, c + s + " "} {
				if got, want := terms.Key(term), key(term); got != want {
					t.Errorf("Key(%q) = %q, not %q", term, got, want)
				}
			}
		}
	}
}

// P7.3: all short terms, held against the promise said once more.
func TestKeyOfAll(t *testing.T) {
	for _, term := range slices.Concat(
		samples.Texts([]string{"t", "h", "e", "a", "N", " "}, 6),
		samples.Texts([]string{"the ", "An ", "a ", "THE", "é", " "}, 5),
	) {
		if got, want := terms.Key(term), key(term); got != want {
			t.Fatalf("Key(%q) = %q, not %q", term, got, want)
		}
	}
}

// P7.4: what was put is read again.
func TestParseOfText(t *testing.T) {
	few := samples.Texts(pieces, 2)
	written := 0
	for _, term := range few {
		for _, sub := range few {
			for _, see := range []string{"", "a", "B a"} {
				s, e := terms.Text(term, sub, see)
				if e != api.OK {
					continue
				}
				written++
				if got := parse(s); got != (told{term: term, sub: sub, see: see}) {
					t.Errorf("Parse(Text(%q, %q, %q)) = %v", term, sub, see, got)
				}
			}
		}
	}
	if written == 0 {
		t.Error("none was written")
	}
}

// P7.4: what was read is written again, without the blanks that say nothing.
func TestTextOfParse(t *testing.T) {
	around := regexp.MustCompile(`[ \t]*([;>])[ \t]*`)
	read := 0
	for _, s := range samples.Texts(pieces, 5) {
		was := parse(s)
		if was.e != api.OK {
			continue
		}
		read++
		want := around.ReplaceAllString(strings.Trim(s, " \t"), "$1")
		got, e := terms.Text(was.term, was.sub, was.see)
		if got != want || e != api.OK || parse(got) != was {
			t.Errorf("Text(Parse(%q)) = %q, %v, not %q", s, got, e, want)
		}
	}
	if read == 0 {
		t.Error("none was read")
	}
}

// R5: a call tells what it told, whatever was called between.
func TestAgain(t *testing.T) {
	was := parse(" a pie ; hot ")
	parse("other>one")
	parse("a;b;c")
	terms.Text("x", "", "y")
	terms.Text("x", "y", "z")
	terms.Key("The Other")
	if got := parse(" a pie ; hot "); got != was {
		t.Errorf("%v, and then %v", was, got)
	}
	if got, e := terms.Text("a", "b", ""); got != "a;b" || e != api.OK {
		t.Errorf("Text: %q, %v", got, e)
	}
	if got := terms.Key("An Apple"); got != "apple" {
		t.Errorf("Key: %q", got)
	}
}
