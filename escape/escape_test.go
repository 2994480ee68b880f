package escape_test

import (
	"regexp"
	"strings"
	"testing"
	"unicode/utf8"

	"bindery/api"
	"bindery/escape"
	"bindery/samples"
)

// pairs: each sign, and what stands for it.
var pairs = []struct{ sign, mark string }{
	{"&", "&amp;"},
	{"<", "&lt;"},
	{">", "&gt;"},
	{`"`, "&quot;"},
	{"'", "&#39;"},
}

// text says P6.1 once more: sign by sign over the whole text; & first, or it would be told twice.
func text(s string) string {
	for _, p := range pairs {
		s = strings.ReplaceAll(s, p.sign, p.mark)
	}
	return s
}

// told: how a text looks that Text tells.
var told = regexp.MustCompile(`\A(?s:[^&<>"']|&amp;|&lt;|&gt;|&quot;|&#39;)*\z`)

// back says P6.1 once more, of texts that Text tells; & last, or what was told would be read twice.
func back(s string) string {
	for i := len(pairs) - 1; i >= 0; i-- {
		s = strings.ReplaceAll(s, pairs[i].mark, pairs[i].sign)
	}
	return s
}

// pieces: what marks are made of, whole and cut.
var pieces = []string{"&", "<", ";", "a", "amp;", "#39;", "&lt", "&quot;", "&gt;", "é", "\xff"}

// texts: ordinary ones, each byte alone and within a text, bytes that are no UTF-8, short ones of all kinds.
func texts() []string {
	out := []string{
		`a<b & "c'>`,
		"A plain text, of words.",
		"a line\nand one more\tbehind\r\n",
		"&&&", "<<>>", `""''`, "&amp;amp;", "&amp;lt;", "&;", ";&", "&#38;#39;",
		"é€😀", "é<€>😀&", "\ufffd&\ufffd", "\ufffd", "\xc3&\xa9", "\xc3<\xff>\x80", "\xf0\x9f\x98&\x80",
		"＆＜＞＂＇", "\u2039\u203a\u2019\u00ab", "\x00&\x00", "\x7f<",
		strings.Repeat("&", 1000), strings.Repeat("<é\xff", 1000),
		strings.Repeat("many ", api.MaxText/5+1), strings.Repeat(`"`, api.MaxText+1),
	}
	for n := range 256 {
		c := string([]byte{byte(n)})
		out = append(out, c, "x"+c+"y", "&"+c+"<", c+c)
	}
	return append(out, samples.Texts(pieces, 3)...)
}

// P6.1: the document's example, each sign, and what is none.
func TestText(t *testing.T) {
	for _, c := range []struct{ s, want string }{
		{`a<b & "c'>`, "a&lt;b &amp; &quot;c&#39;&gt;"},
		{"", ""},
		{"&", "&amp;"},
		{"<", "&lt;"},
		{">", "&gt;"},
		{`"`, "&quot;"},
		{"'", "&#39;"},
		{"&amp;", "&amp;amp;"},
		{"&lt;", "&amp;lt;"},
		{"&#39;", "&amp;#39;"},
		{"&&", "&amp;&amp;"},
		{"a plain one; #39", "a plain one; #39"},
		{"a`b=c/d\\e\n\t\x00\x7f", "a`b=c/d\\e\n\t\x00\x7f"},
		{"é<€", "é&lt;€"},
		{"\xff<\xff", "\xff&lt;\xff"},
		{"\xe2\x82<\xac", "\xe2\x82&lt;\xac"},
		{"\ufffd", "\ufffd"},
		{"＜", "＜"},
	} {
		if got := escape.Text(c.s); got != c.want {
			t.Errorf("Text(%q) = %q, not %q", c.s, got, c.want)
		}
		if got, e := escape.Back(c.want); got != c.s || e != api.OK {
			t.Errorf("Back(%q) = %q, %v", c.want, got, e)
		}
	}
}

// P6.1: five bytes have something that stands for them; all others stay.
func TestBytes(t *testing.T) {
	for n := range 256 {
		c := string([]byte{byte(n)})
		want := c
		for _, p := range pairs {
			if c == p.sign {
				want = p.mark
			}
		}
		if got := escape.Text("a" + c + "b"); got != "a"+want+"b" {
			t.Errorf("Text of the byte %d: %q", n, got)
		}
		got, e := escape.Back("a" + c + "b")
		if want == c && (got != "a"+c+"b" || e != api.OK) || want != c && (got != "" || e != api.ErrForm) {
			t.Errorf("Back of the byte %d: %q, %v", n, got, e)
		}
	}
}

// P6.1: signs of more bytes than one stay, too.
func TestRunes(t *testing.T) {
	for r := rune(128); r <= utf8.MaxRune; r += 61 {
		s := string(r)
		if got := escape.Text(s); got != s {
			t.Errorf("Text(%q) = %q", s, got)
		}
		if got, e := escape.Back(s); got != s || e != api.OK {
			t.Errorf("Back(%q) = %q, %v", s, got, e)
		}
	}
}

// P6.1: texts that Text does not tell: the document's examples, and others of their kind.
func TestBackOfWrong(t *testing.T) {
	for _, s := range []string{
		"a<", "&", "&nbsp;", "&#39", "&AMP;",
		"<", ">", `"`, "'", "a<b", "a>b", `a"b`, "a'b", ">a", `"a`, "'a",
		"&;", "&&", "&a", "a&", "a&b;", "&&amp;", "&amp;&", "&amp;<", "<&amp;", "&amp;&amp", "&lt&gt;",
		"&amp", "&lt", "&gt", "&quot", "&am;", "&ampp;", "&aamp;", "& amp;", "&amp ;", "&amp,", "&\namp;",
		"&Amp;", "&amP;", "&LT;", "&Lt;", "&GT;", "&QUOT;", "&apos;", "&copy;",
		"&#38;", "&#60;", "&#62;", "&#34;", "&#039;", "&#39 ;", "&#x27;", "&#X27;", "&39;", "&#;", "&#3;", "&#399;", "#39;&",
		"&amp;amp;&nbsp;", "&é;", "&\xff;", "&amp\xff;", "\xff&", "&\x00amp;", "&l\u0074\u0301;", "＆amp;&",
		"&" + strings.Repeat("amp", 1000) + ";", "&" + strings.Repeat("a", 1<<20), strings.Repeat("&amp;", 1000) + "&amp",
	} {
		if got, e := escape.Back(s); got != "" || e != api.ErrForm {
			t.Errorf("Back(%.60q) = %q, %v", s, got, e)
		}
	}
}

// P6.1: each mark with a byte changed, taken away or put in is another text, or none.
func TestBackOfChanged(t *testing.T) {
	for _, p := range pairs {
		for at := range p.mark {
			check(t, p.mark[:at]+p.mark[at+1:])
			for n := range 256 {
				c := string([]byte{byte(n)})
				check(t, p.mark[:at]+c+p.mark[at+1:])
				check(t, p.mark[:at]+c+p.mark[at:])
			}
		}
	}
}

// check holds Text and Back of a text against P6.1 said once more.
func check(t *testing.T, s string) {
	t.Helper()
	if got, want := escape.Text(s), text(s); got != want {
		t.Errorf("Text(%.80q) = %.80q, not %.80q", s, got, want)
	}
	want, wantE := "", api.ErrForm
	if told.MatchString(s) {
		want, wantE = back(s), api.OK
	}
	if got, e := escape.Back(s); got != want || e != wantE {
		t.Errorf("Back(%.80q) = %.80q, %v, not %.80q, %v", s, got, e, want, wantE)
	}
}

// P6.1: all texts of a few signs and of pieces of marks.
func TestTexts(t *testing.T) {
	for _, s := range texts() {
		check(t, s)
	}
	for _, s := range samples.Texts(pieces, 4) {
		check(t, s)
	}
	for _, s := range samples.Texts([]string{"&", "l", "t", ";", "<"}, 6) {
		check(t, s)
	}
}

// P6.1: Back has an answer of just those texts that are Text of one; of short texts all of these are known.
func TestBackIsOfText(t *testing.T) {
	all := samples.Texts([]string{"&", "g", "t", ";", ">"}, 6)
	of := map[string]string{}
	for _, s := range all {
		of[escape.Text(s)] = s
	}
	for _, s := range all {
		want, there := of[s]
		got, e := escape.Back(s)
		if there && (got != want || e != api.OK) || !there && (got != "" || e != api.ErrForm) {
			t.Errorf("Back(%q) = %q, %v", s, got, e)
		}
	}
}

// P6.2: the document's examples, with and without each attribute, and what is told as it is.
func TestTag(t *testing.T) {
	for _, c := range []struct{ name, class, id, content, want string }{
		{"p", "", "", "x", "<p>x</p>"},
		{"a", `c"`, "i", "<b>", `<a class="c&quot;" id="i"><b></a>`},
		{"p", "c", "", "x", `<p class="c">x</p>`},
		{"p", "", "i", "x", `<p id="i">x</p>`},
		{"p", "c", "i", "x", `<p class="c" id="i">x</p>`},
		{"h1", "", "intro", "1 Intro", `<h1 id="intro">1 Intro</h1>`},
		{"p", "c", "i", "", `<p class="c" id="i"></p>`},
		{"p", "", "", "", "<p></p>"},
		{"", "", "", "", "<></>"},
		{"", "c", "i", "x", `< class="c" id="i">x</>`},
		{"p", " ", "", "x", `<p class=" ">x</p>`},
		{"p", "", " ", "x", `<p id=" ">x</p>`},
		{"p", "\x00", "\n", "x", "<p class=\"\x00\" id=\"\n\">x</p>"},
		{"p", "a b", "a b", "x", `<p class="a b" id="a b">x</p>`},
		{"p", `&<>"'`, `'"><&`, "x", `<p class="&amp;&lt;&gt;&quot;&#39;" id="&#39;&quot;&gt;&lt;&amp;">x</p>`},
		{"p", "&amp;", "&lt;", "&amp;", `<p class="&amp;amp;" id="&amp;lt;">&amp;</p>`},
		{"p", "", "", `&<>"'`, `<p>&<>"'</p>`},
		{`&<>"'`, "", "", "x", `<&<>"'>x</&<>"'>`},
		{"p q", "c", "", "</p>", `<p q class="c"></p></p q>`},
		{"p\xff", "\xff<", "<\xff", "\xff", "<p\xff class=\"\xff&lt;\" id=\"&lt;\xff\">\xff</p\xff>"},
		{"é", "é", "é", "é", `<é class="é" id="é">é</é>`},
	} {
		if got := escape.Tag(c.name, c.class, c.id, c.content); got != c.want {
			t.Errorf("Tag(%q, %q, %q, %q) = %q, not %q", c.name, c.class, c.id, c.content, got, c.want)
		}
	}
}

// P6.2: all short names, classes, ids and contents.
func TestTags(t *testing.T) {
	few := append(samples.Texts([]string{"a", `"`, "&", "é"}, 2), "class", " id=", "\xff", "><")
	attribute := func(name, value string) string {
		if value == "" {
			return ""
		}
		return " " + name + "=\"" + text(value) + "\""
	}
	for _, class := range few {
		for _, id := range few {
			for _, s := range few {
				name, content := s, s+id
				want := "<" + name + attribute("class", class) + attribute("id", id) + ">" + content + "</" + name + ">"
				if got := escape.Tag(name, class, id, content); got != want {
					t.Fatalf("Tag(%q, %q, %q, %q) = %q, not %q", name, class, id, content, got, want)
				}
			}
		}
	}
}

// P6.2: an element of other ones.
func TestTagOfTags(t *testing.T) {
	cells := escape.Tag("td", "", "", escape.Text("a<b")) + escape.Tag("td", "", "", escape.Tag("em", "", "", "c"))
	want := `<table id="t"><tr><td>a&lt;b</td><td><em>c</em></td></tr></table>`
	if got := escape.Tag("table", "", "t", escape.Tag("tr", "", "", cells)); got != want {
		t.Errorf("%q, not %q", got, want)
	}
}

// P6.3: there and back.
func TestBackOfText(t *testing.T) {
	for _, s := range texts() {
		if got, e := escape.Back(escape.Text(s)); got != s || e != api.OK {
			t.Errorf("Back(Text(%.60q)) = %.60q, %v", s, got, e)
		}
	}
}

// P6.3: back and there.
func TestTextOfBack(t *testing.T) {
	read := 0
	for _, s := range texts() {
		was, e := escape.Back(s)
		if e != api.OK {
			continue
		}
		read++
		if got := escape.Text(was); got != s {
			t.Errorf("Text(Back(%.60q)) = %.60q", s, got)
		}
	}
	if read == 0 {
		t.Error("none was read")
	}
}

// P6.3: what is told has no sign that cuts a page, but those that stand for others.
func TestNothingCuts(t *testing.T) {
	for _, s := range texts() {
		got := escape.Text(s)
		if strings.ContainsAny(got, `<>"'`) {
			t.Errorf("Text(%.60q) = %.60q", s, got)
		}
		marks := 0
		for _, p := range pairs {
			marks += strings.Count(got, p.mark)
		}
		if strings.Count(got, "&") != marks {
			t.Errorf("Text(%.60q) = %.60q: %d marks", s, got, marks)
		}
	}
}

// R5: a call tells what it told, whatever was called between.
func TestAgain(t *testing.T) {
	const s, content = `a<b & "c'>`, "<b>"
	tag := escape.Tag("a", s, s, content)
	told := escape.Text(s)
	escape.Text("other &")
	escape.Back("&gt;&lt;")
	escape.Back("&wrong;")
	escape.Tag("q", "d", "j", "y")
	if escape.Text(s) != told || escape.Tag("a", s, s, content) != tag {
		t.Error("it was kept what had been called")
	}
	if got, e := escape.Back(told); got != s || e != api.OK {
		t.Errorf("Back(%q) = %q, %v", told, got, e)
	}
}
