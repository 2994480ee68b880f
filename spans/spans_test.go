package spans_test

import (
	"fmt"
	"maps"
	"math/rand"
	"regexp"
	"slices"
	"strings"
	"testing"

	"bindery/api"
	"bindery/samples"
	"bindery/spans"
)

const accent = "`"

// show tells spans with all that they have; an empty list looks as one that is not there.
func show(l []api.Span) string {
	var out strings.Builder
	for _, s := range l {
		fmt.Fprintf(&out, "%d%q", s.Kind, s.Text)
		if s.Sub != "" || s.See != "" {
			fmt.Fprintf(&out, "%q%q", s.Sub, s.See)
		}
		if len(s.Kids) > 0 {
			fmt.Fprintf(&out, "[%s]", show(s.Kids))
		}
		out.WriteByte(' ')
	}
	return out.String()
}

func row(l ...api.Span) []api.Span  { return l }
func text(s string) api.Span        { return api.Span{Kind: api.SpText, Text: s} }
func bold(l ...api.Span) api.Span   { return api.Span{Kind: api.SpBold, Kids: l} }
func italic(l ...api.Span) api.Span { return api.Span{Kind: api.SpItalic, Kids: l} }
func note(l ...api.Span) api.Span   { return api.Span{Kind: api.SpNote, Kids: l} }
func code(s string) api.Span        { return api.Span{Kind: api.SpCode, Text: s} }
func ref(s string) api.Span         { return api.Span{Kind: api.SpRef, Text: s} }
func term(t, sub, see string) api.Span {
	return api.Span{Kind: api.SpTerm, Text: t, Sub: sub, See: see}
}
func faults(l ...api.Fault) []api.Fault { return l }

// item is what stands within a line, as the model has it: a span, or what opened one that is open.
type item struct {
	span  api.Span
	open  bool
	place int
}

// model says P8.1 once more: all that was read stands in one list, whose end becomes a span when one is closed.
type model struct {
	items  []item
	faults map[int]api.Fault
}

var (
	backslashed = regexp.MustCompile("(?s)\\A\\\\([*_<(^\\]\\\\`])")
	toEscape    = regexp.MustCompile("[*_<(^\\]\\\\`]")
	codes       = regexp.MustCompile("(?s)\\A`([^`]*)`")
	labels      = regexp.MustCompile(`(?s)\A<<(.*?)>>`)
	termTexts   = regexp.MustCompile(`(?s)\A\(\((.*?)\)\)`)
	aName       = regexp.MustCompile(`\A[A-Za-z][A-Za-z0-9-]{0,59}\z`)
	aTerm       = regexp.MustCompile(`\A[ \t]*([^;><() \t](?:[^;><()]*[^;><() \t])?)[ \t]*(?:([;>])[ \t]*([^;><() \t](?:[^;><()]*[^;><() \t])?)[ \t]*)?\z`)
	wordyEnd    = regexp.MustCompile(`[A-Za-z0-9]\z`)
	wordyHead   = regexp.MustCompile(`\A[A-Za-z0-9]`)
	blankEnd    = regexp.MustCompile(`[ \t]\z`)
	solidHead   = regexp.MustCompile(`(?s)\A[^ \t]`)
)

func parsed(s string) ([]api.Span, []api.Fault) {
	m := model{faults: map[int]api.Fault{}}
	for at := 0; at < len(s); {
		at += m.read(s, at)
	}
	l := m.spans(0)
	var found []api.Fault
	for _, place := range slices.Sorted(maps.Keys(m.faults)) {
		found = append(found, m.faults[place])
	}
	return l, found
}

// read reads what stands at a place, and tells how many bytes it has.
func (m *model) read(s string, at int) int {
	rest := s[at:]
	switch {
	case backslashed.MatchString(rest):
		return m.add(text(rest[1:2]), 2)
	case rest[0] == '`':
		if c := codes.FindStringSubmatch(rest); c != nil {
			return m.add(code(c[1]), len(c[0]))
		}
		return m.add(text(accent), 1, at, api.FaSpan)
	case strings.HasPrefix(rest, "<<"):
		c := labels.FindStringSubmatch(rest)
		if c == nil {
			return m.add(text("<<"), 2, at, api.FaSpan)
		} else if !aName.MatchString(c[1]) {
			return m.add(text(c[0]), len(c[0]), at, api.FaLabel)
		}
		return m.add(ref(c[1]), len(c[0]))
	case strings.HasPrefix(rest, "(("):
		c := termTexts.FindStringSubmatch(rest)
		if c == nil {
			return m.add(text("(("), 2, at, api.FaSpan)
		}
		t := aTerm.FindStringSubmatch(c[1])
		if t == nil || len(c[1]) > 240 {
			return m.add(text(c[0]), len(c[0]), at, api.FaTerm)
		} else if t[2] == ";" {
			return m.add(term(t[1], t[3], ""), len(c[0]))
		}
		return m.add(term(t[1], "", t[3]), len(c[0]))
	case strings.HasPrefix(rest, "^["):
		return m.begin(api.SpNote, "^[", at)
	case rest[0] == ']':
		if n := m.last(api.SpNote); n >= 0 {
			return m.close(n)
		}
	case rest[0] == '*':
		return m.mark(api.SpBold, s, at)
	case rest[0] == '_':
		return m.mark(api.SpItalic, s, at)
	}
	return m.add(text(rest[:1]), 1)
}

// add adds a span that was read from so many bytes; behind that, a place and its fault.
func (m *model) add(s api.Span, length int, fault ...any) int {
	m.items = append(m.items, item{span: s})
	if len(fault) > 0 {
		m.faults[fault[0].(int)] = fault[1].(api.Fault)
	}
	return length
}

func (m *model) mark(k api.SpanKind, s string, at int) int {
	ahead, sign, behind := s[max(at-1, 0):at], s[at:at+1], s[at+1:]
	n := m.last(k)
	if n >= 0 && m.items[n].place+1 != at && !blankEnd.MatchString(ahead) && !wordyHead.MatchString(behind) {
		return m.close(n)
	}
	if !wordyEnd.MatchString(ahead) && solidHead.MatchString(behind) {
		return m.begin(k, sign, at)
	}
	return m.add(text(sign), 1)
}

func (m *model) begin(k api.SpanKind, sign string, at int) int {
	open := 0
	for _, i := range m.items {
		if i.open {
			open++
		}
	}
	if open > 15 {
		return m.add(text(sign), len(sign), at, api.FaSpan)
	}
	m.items = append(m.items, item{api.Span{Kind: k, Text: sign}, true, at})
	return len(sign)
}

func (m *model) last(k api.SpanKind) int {
	for n := len(m.items) - 1; n >= 0; n-- {
		if m.items[n].open && m.items[n].span.Kind == k {
			return n
		}
	}
	return -1
}

func (m *model) close(n int) int {
	made := api.Span{Kind: m.items[n].span.Kind, Kids: m.spans(n + 1)}
	m.items = append(m.items[:n], item{span: made})
	return 1
}

// spans tells the items from one on, where none is open any more.
func (m *model) spans(from int) []api.Span {
	var l []api.Span
	for _, i := range m.items[from:] {
		if i.open {
			i.span.Kind = api.SpText
			m.faults[i.place] = api.FaSpan
		}
		if n := len(l); n > 0 && l[n-1].Kind == api.SpText && i.span.Kind == api.SpText {
			l[n-1].Text += i.span.Text
		} else {
			l = append(l, i.span)
		}
	}
	return l
}

// written says P8.4 once more, but for what may not be.
func written(l []api.Span) string {
	var out string
	for _, s := range l {
		switch s.Kind {
		case api.SpText:
			out += toEscape.ReplaceAllString(s.Text, `\$0`)
		case api.SpBold:
			out += "*" + written(s.Kids) + "*"
		case api.SpItalic:
			out += "_" + written(s.Kids) + "_"
		case api.SpCode:
			out += "`" + s.Text + "`"
		case api.SpRef:
			out += "<<" + s.Text + ">>"
		case api.SpTerm:
			out += "((" + s.Text
			if s.Sub != "" {
				out += ";" + s.Sub
			}
			if s.See != "" {
				out += ">" + s.See
			}
			out += "))"
		case api.SpNote:
			out += "^[" + written(s.Kids) + "]"
		}
	}
	return out
}

// textOf says the whole of P8.4 once more.
func textOf(l []api.Span) (string, api.Errno) {
	s := written(l)
	if again, faults := parsed(s); len(faults) > 0 || show(again) != show(l) {
		return "", api.ErrArg
	}
	return s, api.OK
}

// checkParse holds an answer of Parse against what it should be.
func checkParse(t *testing.T, s string, want []api.Span, faults []api.Fault) {
	t.Helper()
	if l, f := spans.Parse(s); show(l) != show(want) || !slices.Equal(f, faults) {
		t.Errorf("Parse(%.80q) = %.300s, %v, not %.300s, %v", s, show(l), f, show(want), faults)
	}
}

// P8.1: the document's examples.
func TestParse(t *testing.T) {
	for _, c := range []struct {
		s      string
		want   []api.Span
		faults []api.Fault
	}{
		{"a *b _c_* d", row(text("a "), bold(text("b "), italic(text("c"))), text(" d")), nil},
		{"2*3*4", row(text("2*3*4")), nil},
		{"* a", row(text("* a")), nil},
		{"*a", row(text("*a")), faults(api.FaSpan)},
		{"**", row(text("**")), faults(api.FaSpan)},
		{"*a _b* c", row(bold(text("a _b")), text(" c")), faults(api.FaSpan)},
		{"<<x>>((a;b))^[n *m*]", row(ref("x"), term("a", "b", ""), note(text("n "), bold(text("m")))), nil},
		{"<<1>>", row(text("<<1>>")), faults(api.FaLabel)},
		{"(( ))", row(text("(( ))")), faults(api.FaTerm)},
		{"((a", row(text("((a")), faults(api.FaSpan)},
		{`\*a\*`, row(text("*a*")), nil},
		{`\a`, row(text(`\a`)), nil},
		{"a]", row(text("a]")), nil},
		{"", nil, nil},
		{"a", row(text("a")), nil},
		{"a\nb\x00\xff é", row(text("a\nb\x00\xff é")), nil},
	} {
		checkParse(t, c.s, c.want, c.faults)
	}
}

// P8.1, rule 1: a backslash makes a text of each sign, and of nothing else.
func TestParseOfBackslashes(t *testing.T) {
	for n := range 256 {
		c := string([]byte{byte(n)})
		want := `a\` + c
		var f []api.Fault
		if strings.Contains("*_<(^]\\"+accent, c) {
			want = "a" + c
		}
		checkParse(t, `a\`+c, row(text(want)), f)
		checkParse(t, `a\`+c+"b", row(text(want+"b")), f)
	}
	for _, c := range []struct {
		s      string
		want   []api.Span
		faults []api.Fault
	}{
		{`\`, row(text(`\`)), nil},
		{`\\`, row(text(`\`)), nil},
		{`\\\`, row(text(`\\`)), nil},
		{`\\*a*`, row(text(`\`), bold(text("a"))), nil},
		{`\**a*`, row(text("*"), bold(text("a"))), nil},
		{`*a\*`, row(text("*a*")), faults(api.FaSpan)},
		{`*a\**`, row(bold(text("a*"))), nil},
		{`*\**`, row(bold(text("*"))), nil},
		{`*\*`, row(text("**")), faults(api.FaSpan)},
		{`_a\\_`, row(italic(text(`a\`))), nil},
		{`\<<a>>`, row(text("<<a>>")), nil},
		{`\<<<a>>`, row(text("<"), ref("a")), nil},
		{`<\<a>>`, row(text("<<a>>")), nil},
		{`\((a))`, row(text("((a))")), nil},
		{`(\(a))`, row(text("((a))")), nil},
		{`\^[a]`, row(text("^[a]")), nil},
		{`^\[a]`, row(text(`^\[a]`)), nil},
		{`^[a\]]`, row(note(text("a]"))), nil},
		{`^[a\]`, row(text("^[a]")), faults(api.FaSpan)},
		{"\\`a`", row(text("`a`")), faults(api.FaSpan)},
		{"`a\\`b`", row(code(`a\`), text("b`")), faults(api.FaSpan)},
		{`<<a\>>`, row(text(`<<a\>>`)), faults(api.FaLabel)},
		{`((a\))`, row(term(`a\`, "", "")), nil},
		{`((a\*))`, row(term(`a\*`, "", "")), nil},
		{`\a*b*`, row(text(`\a*b*`)), nil},
	} {
		checkParse(t, c.s, c.want, c.faults)
	}
}

// P8.1, rules 2 to 4: what stands between two signs, as it stands, and what is wrong with it.
func TestParseOfBetween(t *testing.T) {
	for _, c := range []struct {
		s      string
		want   []api.Span
		faults []api.Fault
	}{
		{"`a`", row(code("a")), nil},
		{"``", row(code("")), nil},
		{"a``b", row(text("a"), code(""), text("b")), nil},
		{"```", row(code(""), text(accent)), faults(api.FaSpan)},
		{"````", row(code(""), code("")), nil},
		{"`", row(text(accent)), faults(api.FaSpan)},
		{"a`b", row(text("a`b")), faults(api.FaSpan)},
		{"`*a* _b_ <<c>> ((d)) ^[e] \\*`", row(code(`*a* _b_ <<c>> ((d)) ^[e] \*`)), nil},
		{"`a\nb`", row(code("a\nb")), nil},
		{"` `", row(code(" ")), nil},
		{"2`a`3", row(text("2"), code("a"), text("3")), nil},
		{"*`a*`", row(text("*"), code("a*")), faults(api.FaSpan)},
		{"*`a`*", row(bold(code("a"))), nil},
		{"*``*", row(bold(code(""))), nil},
		{"`a*b*", row(text("`a*b*")), faults(api.FaSpan)},
		{"`a *b*", row(text("`a "), bold(text("b"))), faults(api.FaSpan)},

		{"<<a>>", row(ref("a")), nil},
		{"<<a-1>>", row(ref("a-1")), nil},
		{"a<<b>>c", row(text("a"), ref("b"), text("c")), nil},
		{"<<a>>>", row(ref("a"), text(">")), nil},
		{"<<<a>>", row(text("<<<a>>")), faults(api.FaLabel)},
		{"<<a", row(text("<<a")), faults(api.FaSpan)},
		{"<<", row(text("<<")), faults(api.FaSpan)},
		{"<<>", row(text("<<>")), faults(api.FaSpan)},
		{"<<a>", row(text("<<a>")), faults(api.FaSpan)},
		{"<<a> >", row(text("<<a> >")), faults(api.FaSpan)},
		{"<<<", row(text("<<<")), faults(api.FaSpan)},
		{"<<<<", row(text("<<<<")), faults(api.FaSpan, api.FaSpan)},
		{"<<a<<b", row(text("<<a<<b")), faults(api.FaSpan, api.FaSpan)},
		{"<<>>", row(text("<<>>")), faults(api.FaLabel)},
		{"<< a>>", row(text("<< a>>")), faults(api.FaLabel)},
		{"<<a >>", row(text("<<a >>")), faults(api.FaLabel)},
		{"<<a_b>>", row(text("<<a_b>>")), faults(api.FaLabel)},
		{"<<*a*>>", row(text("<<*a*>>")), faults(api.FaLabel)},
		{"<<-a>>", row(text("<<-a>>")), faults(api.FaLabel)},
		{"<<é>>", row(text("<<é>>")), faults(api.FaLabel)},
		{"<<a<<b>>", row(text("<<a<<b>>")), faults(api.FaLabel)},
		{"<<1>><<a>>", row(text("<<1>>"), ref("a")), faults(api.FaLabel)},
		{"<<a>><<b", row(ref("a"), text("<<b")), faults(api.FaSpan)},
		{"<a>", row(text("<a>")), nil},
		{"< <a>>", row(text("< <a>>")), nil},
		{">>a<<", row(text(">>a<<")), faults(api.FaSpan)},
		{"<<`>>`", row(text("<<`>>`")), faults(api.FaLabel, api.FaSpan)},

		{"((a))", row(term("a", "", "")), nil},
		{"((a;b))", row(term("a", "b", "")), nil},
		{"((a>b))", row(term("a", "", "b")), nil},
		{"(( a  b\t; c ))", row(term("a  b", "c", "")), nil},
		{"((*a* _b_ `c` \\* ^[d]))", row(term("*a* _b_ `c` \\* ^[d]", "", "")), nil},
		{"a((b))c", row(text("a"), term("b", "", ""), text("c")), nil},
		{"((a)))", row(term("a", "", ""), text(")")), nil},
		{"(((a))", row(text("(((a))")), faults(api.FaTerm)},
		{"(((a)))", row(text("(((a)))")), faults(api.FaTerm)},
		{"((", row(text("((")), faults(api.FaSpan)},
		{"((a)", row(text("((a)")), faults(api.FaSpan)},
		{"((a) )", row(text("((a) )")), faults(api.FaSpan)},
		{"(((", row(text("(((")), faults(api.FaSpan)},
		{"((((", row(text("((((")), faults(api.FaSpan, api.FaSpan)},
		{"(())", row(text("(())")), faults(api.FaTerm)},
		{"((;))", row(text("((;))")), faults(api.FaTerm)},
		{"((a;b;c))", row(text("((a;b;c))")), faults(api.FaTerm)},
		{"((a;b>c))", row(text("((a;b>c))")), faults(api.FaTerm)},
		{"((a<b))", row(text("((a<b))")), faults(api.FaTerm)},
		{"((a(b))", row(text("((a(b))")), faults(api.FaTerm)},
		{"((a())", row(text("((a())")), faults(api.FaTerm)},
		{"((a)b))", row(text("((a)b))")), faults(api.FaTerm)},
		{"((<<a>>))", row(text("((<<a>>))")), faults(api.FaTerm)},
		{"((*a*;))", row(text("((*a*;))")), faults(api.FaTerm)},
		{"(a)", row(text("(a)")), nil},
		{"( (a))", row(text("( (a))")), nil},
		{"))a((", row(text("))a((")), faults(api.FaSpan)},
		{"((a]))^[b]", row(term("a]", "", ""), note(text("b"))), nil},
		{"((a<<b))<<c>>", row(text("((a<<b))"), ref("c")), faults(api.FaTerm)},
	} {
		checkParse(t, c.s, c.want, c.faults)
	}
}

// P8.1, rules 3 and 4: the longest labels and terms.
func TestParseOfLengths(t *testing.T) {
	for _, n := range []int{1, 59, 60, 61, 239, 240, 241, 70000} {
		a := strings.Repeat("a", n)
		s := "<<" + a + ">>"
		if n <= api.MaxName {
			checkParse(t, s, row(ref(a)), nil)
		} else {
			checkParse(t, s, row(text(s)), faults(api.FaLabel))
		}
		s = "((" + a + "))"
		if n <= 240 {
			checkParse(t, s, row(term(a, "", "")), nil)
		} else {
			checkParse(t, s, row(text(s)), faults(api.FaTerm))
		}
		checkParse(t, accent+a+accent, row(code(a)), nil)
		checkParse(t, a, row(text(a)), nil)
		checkParse(t, "*"+a+"*", row(bold(text(a))), nil)
	}
}

// P8.1, rules 5 and 6: notes, and what closes them.
func TestParseOfNotes(t *testing.T) {
	for _, c := range []struct {
		s      string
		want   []api.Span
		faults []api.Fault
	}{
		{"^[a]", row(note(text("a"))), nil},
		{"^[]", row(note()), nil},
		{"^[ ]", row(note(text(" "))), nil},
		{"a^[b]c", row(text("a"), note(text("b")), text("c")), nil},
		{"^[a^[b]c]d", row(note(text("a"), note(text("b")), text("c")), text("d")), nil},
		{"^[a]]", row(note(text("a")), text("]")), nil},
		{"^[^[a]", row(text("^["), note(text("a"))), faults(api.FaSpan)},
		{"^[", row(text("^[")), faults(api.FaSpan)},
		{"^", row(text("^")), nil},
		{"^ [a]", row(text("^ [a]")), nil},
		{"[a]", row(text("[a]")), nil},
		{"]", row(text("]")), nil},
		{"]^[", row(text("]^[")), faults(api.FaSpan)},
		{"^^[a]", row(text("^"), note(text("a"))), nil},
		{"^[[a]]", row(note(text("[a")), text("]")), nil},
		{"^[*a]", row(note(text("*a"))), faults(api.FaSpan)},
		{"^[*a]*", row(note(text("*a")), text("*")), faults(api.FaSpan)},
		{"^[*a* _b]", row(note(bold(text("a")), text(" _b"))), faults(api.FaSpan)},
		{"*a ^[b* c]", row(bold(text("a ^[b")), text(" c]")), faults(api.FaSpan)},
		{"*^[a]*", row(bold(note(text("a")))), nil},
		{"^[`]`]", row(note(code("]"))), nil},
		{"^[<<]>>]", row(note(text("<<]>>"))), faults(api.FaLabel)},
		{"^[((]))]", row(note(term("]", "", ""))), nil},
		{"^[*a _b `c]", row(note(text("*a _b `c"))), faults(api.FaSpan, api.FaSpan, api.FaSpan)},
	} {
		checkParse(t, c.s, c.want, c.faults)
	}
}

// P8.1, rule 7: what opens and closes bold and italic.
func TestParseOfMarks(t *testing.T) {
	for _, c := range []struct {
		s      string
		want   []api.Span
		faults []api.Fault
	}{
		{"*a*", row(bold(text("a"))), nil},
		{"*", row(text("*")), nil},
		{"a*", row(text("a*")), nil},
		{"a* b", row(text("a* b")), nil},
		{"* a*", row(text("* a*")), nil},
		{"*\ta*", row(text("*\ta*")), nil},
		{"*a *", row(text("*a *")), faults(api.FaSpan)},
		{"*a\t*", row(text("*a\t*")), faults(api.FaSpan)},
		{"*\na\n*", row(bold(text("\na\n"))), nil},
		{"*a* b*", row(bold(text("a")), text(" b*")), nil},
		{"*a*b*", row(bold(text("a*b"))), nil},
		{"*a*1", row(text("*a*1")), faults(api.FaSpan)},
		{"1*a*", row(text("1*a*")), nil},
		{"é*a*é", row(text("é"), bold(text("a")), text("é")), nil},
		{"-*a*-", row(text("-"), bold(text("a")), text("-")), nil},
		{"(*a*)", row(text("("), bold(text("a")), text(")")), nil},
		{"*a**b*", row(bold(text("a")), bold(text("b"))), nil},
		{"*a* *b*", row(bold(text("a")), text(" "), bold(text("b"))), nil},
		{"**a**", row(bold(bold(text("a")))), nil},
		{"**a*", row(text("*"), bold(text("a"))), faults(api.FaSpan)},
		{"***", row(text("***")), faults(api.FaSpan, api.FaSpan)},
		{"****", row(text("****")), faults(api.FaSpan, api.FaSpan, api.FaSpan)},
		{"***a*", row(text("**"), bold(text("a"))), faults(api.FaSpan, api.FaSpan)},
		{"*_**", row(bold(text("_")), text("*")), faults(api.FaSpan)},
		{"** a*", row(bold(text("* a"))), nil},
		{"*a *b* c*", row(bold(text("a "), bold(text("b")), text(" c"))), nil},
		{"*a *b c*", row(text("*a "), bold(text("b c"))), faults(api.FaSpan)},
		{"*_a_*", row(bold(italic(text("a")))), nil},
		{"_*a*_", row(italic(bold(text("a")))), nil},
		{"*_a*_", row(bold(text("_a")), text("_")), faults(api.FaSpan)},
		{"*_*", row(bold(text("_"))), faults(api.FaSpan)},
		{"_*_*", row(italic(text("*")), text("*")), faults(api.FaSpan)},
		{"*a _b *c* d_ e*", row(bold(text("a "), italic(text("b "), bold(text("c")), text(" d")), text(" e"))), nil},
		{"_a_b_", row(italic(text("a_b"))), nil},
		{"snake_case_name", row(text("snake_case_name")), nil},
		{"_a *b_ c*", row(italic(text("a *b")), text(" c*")), faults(api.FaSpan)},
		{"*a *b _c* d_", row(text("*a "), bold(text("b _c")), text(" d_")), faults(api.FaSpan, api.FaSpan)},
		{"*a <<1>>", row(text("*a <<1>>")), faults(api.FaSpan, api.FaLabel)},
		{"<<1>> *a", row(text("<<1>> *a")), faults(api.FaLabel, api.FaSpan)},
		{"*a _b ((;)) ^[c <<1>>", row(text("*a _b ((;)) ^[c <<1>>")), faults(api.FaSpan, api.FaSpan, api.FaTerm, api.FaSpan, api.FaLabel)},
		{"*a *b* `c", row(text("*a "), bold(text("b")), text(" `c")), faults(api.FaSpan, api.FaSpan)},
	} {
		checkParse(t, c.s, c.want, c.faults)
	}
}

// P8.1, rule 7: each byte ahead of what opens and closes, and behind it.
func TestParseOfBytesAround(t *testing.T) {
	for n := range 256 {
		c := string([]byte{byte(n)})
		for _, s := range []string{c, c + "*a*", "*" + c + "a*", "*a" + c + "*", "*a*" + c, "_" + c + "_", "a*" + c, c + "*", c + "_a", "^" + c, c + "]", "<" + c + "a>>", "(" + c + "a))"} {
			want, f := parsed(s)
			checkParse(t, s, want, f)
		}
	}
}

// P8.1, rules 5 and 7: as many as may be open, and one more.
func TestParseOfNests(t *testing.T) {
	const most = 16
	repeat := strings.Repeat
	for n := range 2*most + 2 {
		in, over := min(n, most), max(n-most, 0)
		f := slices.Repeat(faults(api.FaSpan), over)

		notes := row(text(repeat("^[", over) + "a"))
		for range in {
			notes = row(note(notes...))
		}
		if over > 0 {
			notes = append(notes, text(repeat("]", over)))
		}
		checkParse(t, repeat("^[", n)+"a"+repeat("]", n), notes, f)

		for sign, around := range map[string]func(...api.Span) api.Span{"*": bold, "_": italic} {
			want := text("c")
			for i := range in {
				if i == 0 {
					want = around(text("a " + repeat(sign+"a ", over) + "c b"))
				} else {
					want = around(text("a "), want, text(" b"))
				}
			}
			checkParse(t, repeat(sign+"a ", n)+"c"+repeat(" b"+sign, in), row(want), f)
			checkParse(t, repeat(sign+"a ", n)+"c", row(text(repeat(sign+"a ", n)+"c")), slices.Repeat(faults(api.FaSpan), n))
		}
	}
}

// P8.1, rules 5 and 7: within as many as may be open, what opens nothing has no fault, and what is no frame may be.
func TestParseWithinMost(t *testing.T) {
	const most = 16
	within := func(n int, s string) string { return strings.Repeat("*", n) + s + strings.Repeat("*", n) }
	bolds := func(n int, l ...api.Span) []api.Span {
		for range n {
			l = row(bold(l...))
		}
		return l
	}
	for _, c := range []struct {
		s      string
		want   []api.Span
		faults []api.Fault
	}{
		{within(most, "a _b_"), bolds(most, text("a _b_")), faults(api.FaSpan)},
		{within(most, "a^[b]"), bolds(most, text("a^[b]")), faults(api.FaSpan)},
		{within(most, "a _ b_c ] ^"), bolds(most, text("a _ b_c ] ^")), nil},
		{within(most, "a`b`<<c>>((d))\\_"), bolds(most, text("a"), code("b"), ref("c"), term("d", "", ""), text("_")), nil},
		{within(most, "a") + "*b*", append(bolds(most, text("a")), bold(text("b"))), nil},
		{within(most-1, "a _b_"), bolds(most-1, text("a "), italic(text("b"))), nil},
		{within(most-1, "a^[b]"), bolds(most-1, text("a"), note(text("b"))), nil},
		{within(most-1, "a^[b^[c]]"), bolds(most-1, text("a"), note(text("b^[c")), text("]")), faults(api.FaSpan)},
		{"^[" + within(most-1, "a") + "]_b_", row(note(bolds(most-1, text("a"))...), italic(text("b"))), nil},
	} {
		checkParse(t, c.s, c.want, c.faults)
	}
}

// P8.1: all short texts, held against the promise said once more.
func TestParseOfAll(t *testing.T) {
	for _, s := range shortTexts() {
		want, f := parsed(s)
		checkParse(t, s, want, f)
		if t.Failed() {
			return
		}
	}
}

// P8.1: longer texts, held against the promise said once more.
func TestParseOfRandom(t *testing.T) {
	random := rand.New(rand.NewSource(8))
	for range 30000 {
		s := randomText(random)
		want, f := parsed(s)
		checkParse(t, s, want, f)
		if t.Failed() {
			return
		}
	}
}

// P8.1, R1: long texts of each sign end.
func TestParseOfLong(t *testing.T) {
	const times = 1 << 16
	for _, s := range []string{"*", "_", accent, "^[", "]", `\`, "a", "*a ", " a*", "_a *b ", "^[*a ", "^[a]", "*a* ", "<<a>>", "((a))", "<<1>>", "((;))", "``", "^[`a` *b "} {
		l, f := spans.Parse(strings.Repeat(s, times))
		if len(l) == 0 || len(f) > 2*times {
			t.Errorf("Parse of many %q: %d spans, %d faults", s, len(l), len(f))
		}
	}
}

// P8.1, R1: what closes is not looked for behind each sign if it is nowhere; such texts would hardly end.
func TestParseOfManyUnclosed(t *testing.T) {
	const times = 1 << 21
	for _, s := range []string{"<<", "((", "<<a> ((b) "} {
		long := strings.Repeat(s, times)
		l, f := spans.Parse(long)
		if len(l) != 1 || l[0].Text != long || len(f) < times {
			t.Errorf("Parse of many %q: %d spans, %d faults", s, len(l), len(f))
		}
	}
	l, f := spans.Parse(strings.Repeat("<<", times) + "((a))")
	if len(l) != 2 || show(l[1:]) != show(row(term("a", "", ""))) || len(f) != times {
		t.Errorf("%d spans, %d faults", len(l), len(f))
	}
}

// P8.2: the document's example, each kind, and kinds that there are not.
func TestPlain(t *testing.T) {
	first, _ := spans.Parse("a *b _c_* d")
	for _, c := range []struct {
		l    []api.Span
		want string
	}{
		{first, "a b c d"},
		{nil, ""},
		{row(), ""},
		{row(text("a")), "a"},
		{row(text("")), ""},
		{row(text("a"), text("b")), "ab"},
		{row(text(`*\`)), `*\`},
		{row(code("a`")), "a`"},
		{row(ref("a b")), "a b"},
		{row(term("a", "b", "c")), "a"},
		{row(bold(text("a"), italic(code("b"), ref("c")), term("d", "", ""))), "abcd"},
		{row(text("a"), note(text("b")), text("c")), "ac"},
		{row(bold(text("a"), note(bold(text("b"))))), "a"},
		{row(note(text("a"))), ""},
		{row(bold(), italic()), ""},
		{row(api.Span{Kind: api.SpNote, Text: "a"}), ""},
		{row(api.Span{Kind: api.SpBold, Text: "a", Sub: "b", See: "c", Kids: row(text("d"))}), "d"},
		{row(api.Span{Kind: api.SpItalic, Text: "a", Kids: row(text("b"))}), "b"},
		{row(api.Span{Kind: api.SpText, Text: "a", Sub: "b", See: "c", Kids: row(text("d"))}), "a"},
		{row(api.Span{Kind: api.SpCode, Text: "a", Kids: row(text("d"))}), "a"},
		{row(api.Span{Kind: api.SpRef, Text: "a", Kids: row(text("d"))}), "a"},
		{row(api.Span{Kind: api.SpTerm, Text: "a", Kids: row(text("d"))}), "a"},
		{row(text("\xff\x00"), code("é")), "\xff\x00é"},
	} {
		if got := spans.Plain(c.l); got != c.want {
			t.Errorf("Plain(%s) = %q, not %q", show(c.l), got, c.want)
		}
	}
	for k := int(api.SpNote) + 1; k < 256; k++ {
		l := row(text("a"), api.Span{Kind: api.SpanKind(k), Text: "b", Sub: "c", See: "d", Kids: row(text("e"))}, text("f"))
		if got := spans.Plain(l); got != "af" {
			t.Errorf("Plain of kind %d = %q", k, got)
		}
	}
}

// P8.3: spans of a kind wherever they stand, as they are.
func TestEach(t *testing.T) {
	inner := bold(text("b"))
	outer := bold(text("a"), inner, note(ref("c")))
	odd := api.Span{Kind: api.SpText, Text: "d", Sub: "e", See: "f", Kids: row(ref("g"), inner)}
	other := api.Span{Kind: 200, Text: "h", Kids: row(ref("i"), api.Span{Kind: 200})}
	l := row(ref("j"), outer, odd, other, ref("k"), term("l", "m", "n"), code("o"), italic())
	for _, c := range []struct {
		k    api.SpanKind
		want []api.Span
	}{
		{api.SpText, row(text("a"), text("b"), odd, text("b"))},
		{api.SpBold, row(outer, inner, inner)},
		{api.SpItalic, row(italic())},
		{api.SpCode, row(code("o"))},
		{api.SpRef, row(ref("j"), ref("c"), ref("g"), ref("i"), ref("k"))},
		{api.SpTerm, row(term("l", "m", "n"))},
		{api.SpNote, row(note(ref("c")))},
		{7, nil},
		{200, row(other, api.Span{Kind: 200})},
		{255, nil},
	} {
		if got := spans.Each(l, c.k); show(got) != show(c.want) {
			t.Errorf("Each of kind %d = %s, not %s", c.k, show(got), show(c.want))
		}
		if got := spans.Each(nil, c.k); len(got) != 0 {
			t.Errorf("Each of nothing, kind %d = %s", c.k, show(got))
		}
	}
}

// P8.3: all kids of spans of each kind are looked through.
func TestEachOfAllKinds(t *testing.T) {
	for outer := range 256 {
		l := row(api.Span{Kind: api.SpanKind(outer), Kids: row(api.Span{Kind: api.SpanKind(outer), Kids: row(ref("a"))})})
		want := row(ref("a"))
		if outer == int(api.SpRef) {
			want = row(l[0], l[0].Kids[0], ref("a"))
		}
		if got := spans.Each(l, api.SpRef); show(got) != show(want) {
			t.Errorf("Each within kind %d = %s", outer, show(got))
		}
	}
}

// P8.4: the document's examples, each kind, and what Parse does not answer.
func TestText(t *testing.T) {
	for _, c := range []struct {
		l    []api.Span
		want string
		e    api.Errno
	}{
		{row(bold(text("a"))), "*a*", api.OK},
		{row(bold()), "", api.ErrArg},
		{row(text("a"), text("a")), "", api.ErrArg},
		{nil, "", api.OK},
		{row(), "", api.OK},
		{row(text("a")), "a", api.OK},
		{row(text("")), "", api.ErrArg},
		{row(text("a"), text("")), "", api.ErrArg},
		{row(text("*_`<<>>(())^[]\\")), "\\*\\_\\`\\<\\<>>\\(\\())\\^[\\]\\\\", api.OK},
		{row(text(" a\t\n\xff")), " a\t\n\xff", api.OK},
		{row(italic(text("a"))), "_a_", api.OK},
		{row(italic()), "", api.ErrArg},
		{row(note()), "^[]", api.OK},
		{row(note(text("a"), note(text("]")))), `^[a^[\]]]`, api.OK},
		{row(code("")), "``", api.OK},
		{row(code(`*a\`)), "`*a\\`", api.OK},
		{row(code("a`")), "", api.ErrArg},
		{row(code(accent)), "", api.ErrArg},
		{row(code("a"), code("b")), "`a``b`", api.OK},
		{row(code("a` `b")), "", api.ErrArg},
		{row(ref("a")), "<<a>>", api.OK},
		{row(ref("a"), ref("b")), "<<a>><<b>>", api.OK},
		{row(ref("")), "", api.ErrArg},
		{row(ref("1")), "", api.ErrArg},
		{row(ref("a b")), "", api.ErrArg},
		{row(ref("a>><<b")), "", api.ErrArg},
		{row(ref(strings.Repeat("a", 60))), "<<" + strings.Repeat("a", 60) + ">>", api.OK},
		{row(ref(strings.Repeat("a", 61))), "", api.ErrArg},
		{row(term("a", "", "")), "((a))", api.OK},
		{row(term("a", "b", "")), "((a;b))", api.OK},
		{row(term("a", "", "b")), "((a>b))", api.OK},
		{row(term("a", "b", "c")), "", api.ErrArg},
		{row(term("", "", "")), "", api.ErrArg},
		{row(term(" a", "", "")), "", api.ErrArg},
		{row(term("a;b", "", "")), "", api.ErrArg},
		{row(term("a))((b", "", "")), "", api.ErrArg},
		{row(term("*a*", "", "")), "((*a*))", api.OK},
		{row(text("a "), bold(text("b "), italic(text("c"))), text(" d")), "a *b _c_* d", api.OK},
		{row(text("a"), bold(text("b"))), "", api.ErrArg},
		{row(bold(text("a")), text("b")), "", api.ErrArg},
		{row(bold(text(" a"))), "", api.ErrArg},
		{row(bold(text("a "))), "", api.ErrArg},
		{row(bold(text("*"))), `*\**`, api.OK},
		{row(bold(bold(text("a")))), "**a**", api.OK},
		{row(bold(text("a")), bold(text("b"))), "*a**b*", api.OK},
		{row(bold(note())), "*^[]*", api.OK},
		{row(bold(code(""))), "*``*", api.OK},
		{row(bold(text("")), text("a")), "", api.ErrArg},
		{row(bold(text("a"), text("b"))), "", api.ErrArg},
		{row(text("("), term("a", "", "")), `\(((a))`, api.OK},
		{row(text("^"), note(text("["))), `\^^[[]`, api.OK},
		{row(api.Span{Kind: api.SpText, Text: "a", Sub: "b"}), "", api.ErrArg},
		{row(api.Span{Kind: api.SpText, Text: "a", See: "b"}), "", api.ErrArg},
		{row(api.Span{Kind: api.SpText, Text: "a", Kids: row(text("b"))}), "", api.ErrArg},
		{row(api.Span{Kind: api.SpBold, Text: "a", Kids: row(text("b"))}), "", api.ErrArg},
		{row(api.Span{Kind: api.SpNote, Sub: "a"}), "", api.ErrArg},
		{row(api.Span{Kind: api.SpNote, See: "a"}), "", api.ErrArg},
		{row(api.Span{Kind: api.SpCode, Text: "a", Kids: row(text("b"))}), "", api.ErrArg},
		{row(api.Span{Kind: api.SpCode, Text: "a", Sub: "b"}), "", api.ErrArg},
		{row(api.Span{Kind: api.SpRef, Text: "a", See: "b"}), "", api.ErrArg},
		{row(api.Span{Kind: api.SpTerm, Text: "a", Kids: row(text("b"))}), "", api.ErrArg},
		{row(api.Span{Kind: api.SpText, Text: "a", Kids: row()}), "a", api.OK},
		{row(api.Span{Kind: api.SpNote, Kids: row()}), "^[]", api.OK},
	} {
		if got, e := spans.Text(c.l); got != c.want || e != c.e {
			t.Errorf("Text(%s) = %q, %v, not %q, %v", show(c.l), got, e, c.want, c.e)
		}
	}
	for k := int(api.SpNote) + 1; k < 256; k++ {
		for _, s := range []api.Span{{}, text("a"), note(text("a")), bold(text("a"))} {
			s.Kind = api.SpanKind(k)
			for _, l := range [][]api.Span{row(s), row(note(s)), row(text("a"), s)} {
				if got, e := spans.Text(l); got != "" || e != api.ErrArg {
					t.Errorf("Text(%s) = %q, %v", show(l), got, e)
				}
			}
		}
	}
}

// P8.4: each byte of a text.
func TestTextOfBytes(t *testing.T) {
	for n := range 256 {
		c := string([]byte{byte(n)})
		for _, s := range []string{c, "a" + c + "b", c + c, " " + c} {
			want := s
			if strings.Contains("*_<(^]\\"+accent, c) {
				want = strings.ReplaceAll(s, c, `\`+c)
			}
			if got, e := spans.Text(row(text(s))); got != want || e != api.OK {
				t.Errorf("Text of a text %q = %q, %v, not %q", s, got, e, want)
			}
		}
	}
}

// P8.4: as many within one another as may be, and more.
func TestTextOfNests(t *testing.T) {
	for _, around := range []func(...api.Span) api.Span{bold, italic, note} {
		for n := range 20 {
			for _, l := range [][]api.Span{row(text("a")), row(code("")), row(note()), nil} {
				for range n {
					l = row(around(l...))
				}
				want, wantE := textOf(l)
				if got, e := spans.Text(l); got != want || e != wantE {
					t.Errorf("Text(%s) = %q, %v, not %q, %v", show(l), got, e, want, wantE)
				}
			}
		}
	}
}

// P8.4: all rows of few spans, held against the promise said once more.
func TestTextOfAll(t *testing.T) {
	leaves := row(text("a"), text(" "), text("*"), text(""), code("a"), code(accent), ref("a"), ref(""), term("a", "b", ""), term("a", "b", "c"))
	few := row(text("a"), text(" "), text("_"), code(""))
	inners := [][]api.Span{nil}
	for _, a := range few {
		inners = append(inners, row(a))
		for _, b := range few {
			inners = append(inners, row(a, b), row(bold(a), b), row(a, italic(b)), row(note(a), b))
		}
	}
	all := leaves
	for _, l := range inners {
		all = append(all, bold(l...), italic(l...), note(l...))
	}
	written := 0
	for _, a := range all {
		for _, b := range append(all, api.Span{Kind: 9}) {
			for _, l := range [][]api.Span{row(a), row(a, b), row(b, text("-"), a), row(bold(a, b))} {
				want, wantE := textOf(l)
				if wantE == api.OK {
					written++
				}
				if got, e := spans.Text(l); got != want || e != wantE {
					t.Fatalf("Text(%s) = %q, %v, not %q, %v", show(l), got, e, want, wantE)
				}
			}
		}
	}
	if written < 1000 {
		t.Errorf("only %d were written", written)
	}
}

// P8.5: spans that were written are read again; what a text says is no longer than it; spans without faults are written.
func TestWhatFollows(t *testing.T) {
	random := rand.New(rand.NewSource(85))
	all := shortTexts()
	for range 20000 {
		all = append(all, randomText(random))
	}
	rewritten := 0
	for _, s := range all {
		l, _ := spans.Parse(s)
		if said := spans.Plain(l); len(said) > len(s) {
			t.Errorf("%q says %q", s, said)
		}
		text, e := spans.Text(l)
		if e != api.OK {
			continue
		}
		rewritten++
		again, f := spans.Parse(text)
		if show(again) != show(l) || len(f) > 0 {
			t.Errorf("%q, %s is written %q, and read again %s, %v", s, show(l), text, show(again), f)
		}
	}
	if rewritten < len(all)/2 {
		t.Errorf("of %d only %d were written", len(all), rewritten)
	}
}

// P8.5: a text without signs is one text.
func TestParseWithoutSigns(t *testing.T) {
	for _, s := range samples.Texts([]string{"a", " ", "<", "(", "^", "[", ">", ")", "\n", "é", "\xff"}, 4) {
		if s == "" || strings.Contains(s, "<<") || strings.Contains(s, "((") || strings.Contains(s, "^[") {
			continue
		}
		checkParse(t, s, row(text(s)), nil)
		if got := spans.Plain(row(text(s))); got != s {
			t.Errorf("Plain of a text %q = %q", s, got)
		}
	}
}

// R1: lists that stand deep within one another.
func TestOfDeep(t *testing.T) {
	const depth = 1<<16 - 2
	for _, k := range []api.SpanKind{api.SpText, api.SpBold, api.SpNote, 77} {
		l := row(ref("a"))
		for range depth {
			l = row(api.Span{Kind: k, Kids: l})
		}
		want := ""
		if k == api.SpBold {
			want = "a"
		}
		if got := spans.Plain(l); got != want {
			t.Errorf("Plain of deep ones of kind %d = %.60q", k, got)
		}
		if got := spans.Each(l, api.SpRef); show(got) != show(row(ref("a"))) {
			t.Errorf("Each of deep ones of kind %d = %.60s", k, show(got))
		}
		if got, e := spans.Text(l); got != "" || e != api.ErrArg {
			t.Errorf("Text of deep ones of kind %d = %.60q, %v", k, got, e)
		}
	}
}

// lists tells all lists of spans within one, itself first.
func lists(l []api.Span) [][]api.Span {
	all := [][]api.Span{l}
	for _, s := range l {
		all = append(all, lists(s.Kids)...)
	}
	return all
}

// scribble fills the spare room of all lists.
func scribble(l []api.Span) {
	for _, one := range lists(l) {
		rest := one[len(one):cap(one)]
		for i := range rest {
			rest[i] = text("scribbled")
		}
	}
}

// roomy copies spans into lists with spare room that tells whether it is changed.
func roomy(l []api.Span) []api.Span {
	out := make([]api.Span, len(l), len(l)+3)
	for i, s := range l {
		s.Kids = roomy(s.Kids)
		out[i] = s
	}
	return out
}

const mixed = "*a _b_ c* `d` *e ^[f *g* <<h>> _i] ((j;k)) ^[l *m* ^[n]] *o _p *q r* s_ t*"

// R4: no two lists of an answer share room.
func TestAnswersShareNothing(t *testing.T) {
	for _, s := range []string{mixed, "*a *b *c *d* e", "^[a ^[b ^[c] *d* `e` *f", strings.Repeat("*a `b` ", 40), strings.Repeat("^[a *b* ", 40) + strings.Repeat("`c` ]", 40)} {
		l, f := spans.Parse(s)
		first, firstFaults := show(l), slices.Clone(f)
		other, otherFaults := spans.Parse(s)
		scribble(l)
		if show(l) != first {
			t.Errorf("lists of Parse(%.60q) share their room: %s", s, show(l))
		}
		for _, one := range lists(l) {
			clear(one[:cap(one)])
		}
		clear(f[:cap(f)])
		if show(other) != first || !slices.Equal(otherFaults, firstFaults) {
			t.Errorf("two answers of Parse(%.60q) share their room", s)
		}
	}
}

// R4: what Each answers is new, however deep, and what is handed in stays.
func TestEachIsNew(t *testing.T) {
	l, _ := spans.Parse(mixed)
	l = roomy(row(append(l, bold(l...), api.Span{Kind: 9, Kids: l})...))
	scribble(l)
	before := show(l)
	for k := range api.SpanKind(10) {
		got := spans.Each(l, k)
		first := show(got)
		other := spans.Each(l, k)
		scribble(got)
		if show(got) != first {
			t.Errorf("lists of Each of kind %d share their room", k)
		}
		for _, one := range lists(got) {
			clear(one[:cap(one)])
		}
		if show(l) != before || show(other) != first {
			t.Errorf("Each of kind %d shares its room", k)
		}
	}
	checkRoom(t, l)
}

// R4: Plain and Text change nothing.
func TestNothingIsChanged(t *testing.T) {
	l, _ := spans.Parse(mixed)
	l = roomy(l)
	scribble(l)
	before := show(l)
	spans.Plain(l)
	spans.Text(l)
	if show(l) != before {
		t.Errorf("%s became %s", before, show(l))
	}
	checkRoom(t, l)
}

func checkRoom(t *testing.T, l []api.Span) {
	t.Helper()
	for _, one := range lists(l) {
		for _, s := range one[len(one):cap(one)] {
			if show(row(s)) != show(row(text("scribbled"))) {
				t.Errorf("spare room was changed: %s", show(row(s)))
			}
		}
	}
}

// R5: an answer hangs on nothing that was asked ahead of it.
func TestAgain(t *testing.T) {
	for _, s := range []string{mixed, "*a", "^[a]", "<<a", "((a))", "`"} {
		first, firstFaults := spans.Parse(s)
		firstText, firstE := spans.Text(first)
		firstEach := spans.Each(first, api.SpText)
		for _, other := range []string{"<<b ((c `d", "^[^[*e _f", s + s, strings.Repeat("*g ", 20)} {
			l, _ := spans.Parse(other)
			spans.Text(l)
			spans.Plain(l)
			spans.Each(l, api.SpText)
			checkParse(t, s, first, firstFaults)
			if got, e := spans.Text(first); got != firstText || e != firstE {
				t.Errorf("Text of %q = %q, %v behind %q", s, got, e, other)
			}
			if got := spans.Each(first, api.SpText); show(got) != show(firstEach) {
				t.Errorf("Each of %q = %s behind %q", s, show(got), other)
			}
		}
	}
}

// shortTexts: all that are made of few of the signs.
func shortTexts() []string {
	return slices.Concat(
		samples.Texts([]string{"*", "_", accent, "<", ">", "(", ")", "^[", "]", `\`, "a", " ", ";"}, 4),
		samples.Texts([]string{"*", "_", "a", " "}, 7),
		samples.Texts([]string{"*", "^[", "]", "a", "\t"}, 6),
		samples.Texts([]string{"<<", ">>", "((", "))", "a", accent, `\`}, 5),
		samples.Texts([]string{"*", "*a ", "b*", "_c ", "d_", "^[", "]", "`e`", "<<"}, 5),
	)
}

// randomText puts signs and letters one behind the other.
func randomText(random *rand.Rand) string {
	pieces := []string{"*", "_", "*a", "b*", " _c", "d_ ", "*", "_", accent, "<<", ">>", "<<e>>", "((", "))", "((f;g))", "^[", "]", "^[", "]", `\`, "h", "2", " ", "\t", ".", "é", "\xff"}
	var out strings.Builder
	for range random.Intn(60) {
		out.WriteString(pieces[random.Intn(len(pieces))])
	}
	return out.String()
}
