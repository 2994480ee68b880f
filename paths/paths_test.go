package paths_test

import (
	"strings"
	"testing"

	"bindery/api"
	"bindery/letters"
	"bindery/paths"
	"bindery/samples"
)

const (
	alphabet = "abcdefghijklmnopqrstuvwxyzABCDEFGHIJKLMNOPQRSTUVWXYZ"
	within   = alphabet + "0123456789-"
)

// P2.1: the document's examples, and others of their kind.
func TestCheck(t *testing.T) {
	for _, c := range []struct {
		s    string
		want bool
	}{
		{"intro", true},
		{"fig.png", true},
		{"a.b.c", true},
		{"A-1.Z-", true},
		{"a1.b2", true},
		{"a--b.c--", true},
		{"", false},
		{".", false},
		{"..", false},
		{".a", false},
		{"a.", false},
		{"a..b", false},
		{"a.b.", false},
		{"a/b", false},
		{"a\\b", false},
		{"../a", false},
		{"a.1", false},
		{"1.a", false},
		{"a.-b", false},
		{"-a.b", false},
		{"a_b.c", false},
		{"a.b_c", false},
		{"a. b", false},
		{" a.b", false},
		{"a.b ", false},
		{"a.b\n", false},
		{"a.b#c", false},
		{"a,b", false},
		{"é.a", false},
		{"a.é", false},
		{"a。b", false},
		{"a.\xff", false},
		{"a\x00.b", false},
	} {
		if got := paths.Check(c.s); got != c.want {
			t.Errorf("Check(%q) = %v", c.s, got)
		}
	}
}

// P2.1: the whole text's length counts, and that of no part alone.
func TestCheckOfLengths(t *testing.T) {
	many := func(s string, length int) string { return strings.Repeat(s, length) }
	for _, c := range []struct {
		s    string
		want bool
	}{
		{many("n", api.MaxName-1), true},
		{many("n", api.MaxName), true},
		{many("n", api.MaxName+1), false},
		{many("n", api.MaxName-2) + ".b", true},
		{many("n", api.MaxName-1) + ".b", false},
		{many("n", api.MaxName) + ".b", false},
		{"a." + many("n", api.MaxName-2), true},
		{"a." + many("n", api.MaxName-1), false},
		{"a." + many("n", api.MaxName), false},
		{many("n", 30) + "." + many("n", 29), true},
		{many("n", 30) + "." + many("n", 30), false},
		{many("n.", 29) + "nn", true},
		{many("n.", 30) + "n", false},
		{many("n.", 30), false},
		{many("n", api.MaxName-1) + ".", false},
		{many(".", api.MaxName), false},
		{many(".", 100000), false},
		{many("n", 1<<20), false},
		{many("n.", 1<<20) + "n", false},
	} {
		if got := paths.Check(c.s); got != c.want {
			t.Errorf("Check(%.70q), of %d bytes, = %v", c.s, len(c.s), got)
		}
	}
}

// P2.1: which bytes may stand where: a point only between two names.
func TestCheckOfBytes(t *testing.T) {
	for n := range 256 {
		s := string([]byte{byte(n)})
		first := strings.Contains(alphabet, s)
		later := strings.Contains(within, s)
		for _, c := range []struct {
			s    string
			want bool
		}{
			{s, first},
			{s + "a", first},
			{"a.b" + s, later},
			{"a" + s + ".b", later},
			{"a." + s, first},
			{"a." + s + "b", first},
			{s + ".b", first},
			{"a" + s + "b", later || s == "."},
			{"a" + s + "1", later},
		} {
			if got := paths.Check(c.s); got != c.want {
				t.Errorf("Check(%q) = %v", c.s, got)
			}
		}
	}
}

// named says P2.1 once more, another way: a name, or a name, a point, and what is named itself.
func named(s string) bool {
	if letters.Name(s) {
		return true
	}
	name, rest, found := strings.Cut(s, ".")
	return found && letters.Name(name) && named(rest)
}

// P2.1.
func TestCheckOfAll(t *testing.T) {
	for _, s := range samples.Texts([]string{"a", "Z", "0", "-", ".", "/", "\xc3"}, 5) {
		if got, want := paths.Check(s), named(s); got != want {
			t.Fatalf("Check(%q) = %v", s, got)
		}
	}
}

// P2.2: whatever the name is.
func TestPage(t *testing.T) {
	for _, c := range []struct{ name, want string }{
		{"intro", "intro.html"},
		{"", ".html"},
		{"fig.png", "fig.png.html"},
		{"a.html", "a.html.html"},
		{"A", "A.html"},
		{"a.", "a..html"},
		{" a/b#c\n", " a/b#c\n.html"},
		{"é", "é.html"},
		{"\xff\x00", "\xff\x00.html"},
		{strings.Repeat("n", api.MaxName), strings.Repeat("n", api.MaxName) + ".html"},
		{strings.Repeat("n", 100000), strings.Repeat("n", 100000) + ".html"},
	} {
		if got := paths.Page(c.name); got != c.want {
			t.Errorf("Page(%.70q) = %.70q, not %.70q", c.name, got, c.want)
		}
	}
}

// P2.3: whatever page and anchor are.
func TestLink(t *testing.T) {
	long := strings.Repeat("n", 100000)
	for _, c := range []struct{ page, anchor, want string }{
		{"a.html", "x", "a.html#x"},
		{"a.html", "", "a.html"},
		{"", "x", "#x"},
		{"", "", ""},
		{"a", "b-1", "a#b-1"},
		{"a.html", " ", "a.html# "},
		{"a.html", "#", "a.html##"},
		{"a.html#x", "", "a.html#x"},
		{"a.html#x", "y", "a.html#x#y"},
		{"#", "", "#"},
		{"A&<.html", "\"é\"", "A&<.html#\"é\""},
		{"\xff", "\x00", "\xff#\x00"},
		{long, "", long},
		{long, long, long + "#" + long},
	} {
		if got := paths.Link(c.page, c.anchor); got != c.want {
			t.Errorf("Link(%.40q, %.40q) = %.90q, not %.90q", c.page, c.anchor, got, c.want)
		}
	}
}

// P2.4: two files' names with a point between.
func TestCheckOfTwo(t *testing.T) {
	l := samples.Texts([]string{"a", "B", "7", "-", "."}, 3)
	for length := api.MaxName - 4; length <= api.MaxName+1; length++ {
		l = append(l, strings.Repeat("n", length), "n."+strings.Repeat("n", length-2))
	}
	for _, a := range l {
		for _, b := range l {
			s := a + "." + b
			want := paths.Check(a) && paths.Check(b) && len(s) <= api.MaxName
			if got := paths.Check(s); got != want {
				t.Fatalf("Check(%q) = %v", s, got)
			}
		}
	}
}

// P2.4: unlike names have unlike pages.
func TestPagesAreUnlike(t *testing.T) {
	names := map[string]string{}
	for _, s := range samples.Texts([]string{"a", "A", ".", "-", ".html", "#"}, 4) {
		page := paths.Page(s)
		if other, ok := names[page]; ok && other != s {
			t.Fatalf("%q is the page of %q and of %q", page, other, s)
		}
		names[page] = s
	}
}
