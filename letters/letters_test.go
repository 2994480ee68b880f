package letters_test

import (
	"slices"
	"strings"
	"testing"

	"bindery/api"
	"bindery/letters"
	"bindery/samples"
)

const (
	small  = "abcdefghijklmnopqrstuvwxyz"
	great  = "ABCDEFGHIJKLMNOPQRSTUVWXYZ"
	digits = "0123456789"
)

// eachByte tells all bytes, each as a text of it alone.
func eachByte(yield func(string) bool) {
	for n := range 256 {
		if !yield(string([]byte{byte(n)})) {
			return
		}
	}
}

// P1.1.
func TestLowerOfBytes(t *testing.T) {
	for s := range eachByte {
		want := s
		if i := strings.Index(great, s); i >= 0 {
			want = small[i : i+1]
		}
		if got := letters.Lower(s); got != want {
			t.Errorf("Lower(%q) = %q, not %q", s, got, want)
		}
	}
}

// P1.1.
func TestLowerOfTexts(t *testing.T) {
	for _, c := range []struct{ s, want string }{
		{"", ""},
		{"AbC-é", "abc-é"},
		{great, small},
		{small + digits, small + digits},
		{"@AZ[", "@az["},
		{"ÄÉΩİ\u212a", "ÄÉΩİ\u212a"},
		{"A\xffB\xc3", "a\xffb\xc3"},
		{"A\x00\nB", "a\x00\nb"},
		{strings.Repeat("Q!", 100000), strings.Repeat("q!", 100000)},
	} {
		if got := letters.Lower(c.s); got != c.want {
			t.Errorf("Lower(%.40q) = %.40q, not %.40q", c.s, got, c.want)
		}
	}
}

// P1.2.
func TestOrder(t *testing.T) {
	for _, c := range []struct {
		a, b string
		want int
	}{
		{"a", "B", -1},
		{"a-b", "ab", -1},
		{"ab", "a c", -1},
		{"A", "a", -1},
		{"a", "a", 0},
		{"_", "", 1},
		{"", "", 0},
		{"", "a", -1},
		{"", "\x00", -1},
		{"a", "ab", -1},
		{"a", "a ", -1},
		{"a b", "a", 1},
		{"Z", "a", 1},
		{"a9", "aa", -1},
		{"9", "a", -1},
		{"9", "10", 1},
		{"ab", "Ab", 1},
		{"a_b", "a-b", 1},
		{"a~", "ab", -1},
		{"zé", "z", 1},
		{"é", "a", -1},
		{"é", "è", 1},
		{"\xff", "\xfe", 1},
		{"@[`{/:", "", 1},
		{"@[`{/:z", "a", 1},
		{"@[`{/:a", "z", -1},
		{"((term))-1", "Term 1", -1},
	} {
		if got := letters.Order(c.a, c.b); got != c.want {
			t.Errorf("Order(%q, %q) = %d, not %d", c.a, c.b, got, c.want)
		}
	}
}

// P1.2: letters and digits count, no other byte does as long as the keys differ.
func TestOrderOfBytes(t *testing.T) {
	for s := range eachByte {
		if strings.Contains(small+great+digits, s) {
			if got := letters.Order("\xff", s); got != -1 {
				t.Errorf("Order(ff, %q) = %d", s, got)
			}
			continue
		}
		for _, c := range []struct {
			a, b string
			want int
		}{
			{"a" + s + "b", "ac", -1},
			{s + "b", "a", 1},
			{"a", "a" + s, -1},
			{s, "", 1},
			{"a" + s + "c", s + "a" + s + s + "b", 1},
		} {
			if got := letters.Order(c.a, c.b); got != c.want {
				t.Errorf("Order(%q, %q) = %d, not %d", c.a, c.b, got, c.want)
			}
		}
	}
}

// keyOf and orderOf say P1.2 once more, another way.
func keyOf(s string) string {
	var out strings.Builder
	for i := range len(s) {
		if j := strings.IndexByte(great, s[i]); j >= 0 {
			out.WriteByte(small[j])
		} else if strings.IndexByte(small+digits, s[i]) >= 0 {
			out.WriteByte(s[i])
		}
	}
	return out.String()
}

func orderOf(a, b string) int {
	less := func(a, b string) bool { return a < b }
	x, y := keyOf(a), keyOf(b)
	if x == y {
		x, y = a, b
	}
	switch {
	case less(x, y):
		return -1
	case less(y, x):
		return 1
	}
	return 0
}

// P1.2 and P1.5: the other way about, and the same text alone.
func TestOrderOfTwo(t *testing.T) {
	l := samples.Texts([]string{"a", "A", "b", "1", "-", " ", "\xc3"}, 3)
	for _, a := range l {
		for _, b := range l {
			got := letters.Order(a, b)
			if want := orderOf(a, b); got != want {
				t.Fatalf("Order(%q, %q) = %d, not %d", a, b, got, want)
			}
			if back := letters.Order(b, a); back != -got {
				t.Fatalf("Order(%q, %q) = %d, the other way about %d", a, b, got, back)
			}
			if (got == 0) != (a == b) {
				t.Fatalf("Order(%q, %q) = %d", a, b, got)
			}
		}
	}
}

// P1.5: it goes on.
func TestOrderOfThree(t *testing.T) {
	l := samples.Texts([]string{"a", "B", "2", "-", "\xff"}, 2)
	for _, a := range l {
		for _, b := range l {
			for _, c := range l {
				if letters.Order(a, b) < 0 && letters.Order(b, c) < 0 && letters.Order(a, c) >= 0 {
					t.Fatalf("Order of %q, %q, %q does not go on", a, b, c)
				}
			}
		}
	}
}

// P1.2: texts sorted by it.
func TestOrderSorts(t *testing.T) {
	l := []string{"b", "a c", "ab", "A", "a", "", "_", "a-b", "10", "9", "B"}
	slices.SortFunc(l, letters.Order)
	want := []string{"", "_", "10", "9", "A", "a", "a-b", "ab", "a c", "B", "b"}
	if !slices.Equal(l, want) {
		t.Errorf("%q, not %q", l, want)
	}
}

// P1.3: which bytes may stand where.
func TestNameOfBytes(t *testing.T) {
	for s := range eachByte {
		letter := strings.Contains(small+great, s)
		within := letter || strings.Contains(digits+"-", s)
		for _, c := range []struct {
			s    string
			want bool
		}{{s, letter}, {s + "a", letter}, {"a" + s, within}, {"a" + s + "a", within}} {
			if got := letters.Name(c.s); got != c.want {
				t.Errorf("Name(%q) = %v", c.s, got)
			}
		}
	}
}

// P1.3: lengths, and texts.
func TestName(t *testing.T) {
	for _, c := range []struct {
		s    string
		want bool
	}{
		{"", false},
		{"a", true},
		{"A-1", true},
		{"a-", true},
		{"a--b", true},
		{"1a", false},
		{"a_b", false},
		{"-a", false},
		{" a", false},
		{"a ", false},
		{"a.b", false},
		{"é", false},
		{"aé", false},
		{"a\n", false},
		{strings.Repeat("n", api.MaxName-1), true},
		{strings.Repeat("n", api.MaxName), true},
		{strings.Repeat("n", api.MaxName+1), false},
		{"n" + strings.Repeat("-", api.MaxName-1), true},
		{strings.Repeat("n", api.MaxName-1) + ".", false},
		{strings.Repeat("é", api.MaxName/2), false},
		{strings.Repeat("n", 100000), false},
	} {
		if got := letters.Name(c.s); got != c.want {
			t.Errorf("Name(%.70q) = %v", c.s, got)
		}
	}
}

// P1.4: which bytes words stand between.
func TestWordsOfBytes(t *testing.T) {
	for s := range eachByte {
		between := strings.Contains(" \t\n", s)
		alone, within := []string{s}, []string{"a" + s + "b"}
		if between {
			alone, within = nil, []string{"a", "b"}
		}
		if got := letters.Words(s); !slices.Equal(got, alone) {
			t.Errorf("Words(%q) = %q", s, got)
		}
		if got := letters.Words("a" + s + "b"); !slices.Equal(got, within) {
			t.Errorf("Words(a%qb) = %q", s, got)
		}
	}
}

// P1.4.
func TestWords(t *testing.T) {
	for _, c := range []struct {
		s    string
		want []string
	}{
		{"", nil},
		{"   ", nil},
		{" \t\n \n\t", nil},
		{"a", []string{"a"}},
		{"a  b\nc", []string{"a", "b", "c"}},
		{" a\t\tbb \n", []string{"a", "bb"}},
		{"b a b", []string{"b", "a", "b"}},
		{"é\u00a0è \u2003", []string{"é\u00a0è", "\u2003"}},
		{"a\rb\vc\fd\x00", []string{"a\rb\vc\fd\x00"}},
		{"\xc3 \xa9\t\xff", []string{"\xc3", "\xa9", "\xff"}},
		{"a\x85b\x85 c", []string{"a\x85b\x85", "c"}},
	} {
		if got := letters.Words(c.s); !slices.Equal(got, c.want) {
			t.Errorf("Words(%q) = %q, not %q", c.s, got, c.want)
		}
	}
	if n := len(letters.Words(strings.Repeat("ab ", 100000))); n != 100000 {
		t.Errorf("%d words of 100000", n)
	}
}

// P1.4 with R4: an answer is new memory.
func TestWordsAreNew(t *testing.T) {
	const s = "a b"
	one := letters.Words(s)
	two := letters.Words(s)
	one[0] = "c"
	_ = append(one[:1], "d")
	if !slices.Equal(two, []string{"a", "b"}) || !slices.Equal(letters.Words(s), two) {
		t.Errorf("%q", two)
	}
}

// P1.4: no words are lost, and none made.
func TestWordsTogether(t *testing.T) {
	for _, s := range samples.Texts([]string{"a", "é", "\xff", " ", "\t", "\n"}, 4) {
		got := letters.Words(s)
		bare := strings.NewReplacer(" ", "", "\t", "", "\n", "").Replace(s)
		if strings.Join(got, "") != bare || slices.Contains(got, "") {
			t.Fatalf("Words(%q) = %q", s, got)
		}
		if again := letters.Words(strings.Join(got, "\n")); !slices.Equal(again, got) {
			t.Fatalf("Words of %q = %q", got, again)
		}
	}
}
