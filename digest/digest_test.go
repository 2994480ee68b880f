package digest_test

import (
	"hash/fnv"
	"math"
	"math/big"
	"strings"
	"testing"

	"bindery/api"
	"bindery/digest"
	"bindery/samples"
)

const hex = "0123456789abcdef"

// begin is the number of P3.1.
const begin uint64 = 14695981039346656037

// numbers: some of 64 bits: about each power of two, and others.
func numbers() []uint64 {
	out := []uint64{begin, 1099511628211, 0x0123456789abcdef, 0xfedcba9876543210, math.MaxUint64}
	for i := range 64 {
		bit := uint64(1) << i
		out = append(out, bit-1, bit, bit+1, ^bit)
	}
	return out
}

// texts: ordinary ones, those of one byte, and bytes that are no UTF-8.
func texts() []string {
	out := []string{
		"foobar", "raboof", "hello world", "= Title #label\n\nText.\n",
		"\x00", "\x00\x00", "a\x00", "\x00a", "é", "€", "\xc3", "\xff\xfe\x80", "\ufffd",
		strings.Repeat("x", 1000), strings.Repeat("\xff", 1000), strings.Repeat("\x00", 1000),
		strings.Repeat("many ", api.MaxText/5+1),
	}
	for n := range 256 {
		out = append(out, string([]byte{byte(n)}))
	}
	return append(out, samples.Texts([]string{"a", "b", "\x00", "\xff"}, 4)...)
}

// more says P3.2 once more, with numbers that have no end.
func more(d uint64, s string) uint64 {
	whole := new(big.Int).Lsh(big.NewInt(1), 64)
	sum := new(big.Int).SetUint64(d)
	for _, c := range []byte(s) {
		sum.Xor(sum, big.NewInt(int64(c)))
		sum.Mul(sum, big.NewInt(1099511628211))
		sum.Mod(sum, whole)
	}
	return sum.Uint64()
}

// P3.1: the document's examples, and the library's numbers of the same kind.
func TestOf(t *testing.T) {
	for _, c := range []struct {
		s    string
		want uint64
	}{
		{"", 0xcbf29ce484222325},
		{"a", 0xaf63dc4c8601ec8c},
		{"foobar", 0x85944171f73967e8},
		{"b", 0xaf63df4c8601f1a5},
		{"\x00", 0xaf63bd4c8601b7df},
	} {
		if got := digest.Of(c.s); got != c.want {
			t.Errorf("Of(%q) = %x, not %x", c.s, got, c.want)
		}
	}
	for _, s := range texts() {
		h := fnv.New64a()
		h.Write([]byte(s))
		if got, want := digest.Of(s), h.Sum64(); got != want {
			t.Errorf("Of(%.40q) = %x, not %x", s, got, want)
		}
	}
}

// P3.1: it is More of the number.
func TestOfIsMore(t *testing.T) {
	for _, s := range texts() {
		if got, want := digest.Of(s), digest.More(begin, s); got != want {
			t.Errorf("Of(%.40q) = %x, More: %x", s, got, want)
		}
	}
}

// P3.2: of no bytes, of one, of several in order.
func TestMore(t *testing.T) {
	for _, c := range []struct {
		d    uint64
		s    string
		want uint64
	}{
		{0, "", 0},
		{math.MaxUint64, "", math.MaxUint64},
		{begin, "", begin},
		{0, "\x00", 0},
		{0, "\x01", 1099511628211},
		{1, "\x01", 0},
		{1, "\x00", 1099511628211},
		{0xff, "\xff", 0},
		{0xfe, "\xff", 1099511628211},
		{'a', "a", 0},
		{'a', "ab", 'b' * 1099511628211},
		{math.MaxUint64, "\x00", math.MaxUint64 - 1099511628210},
		{1 << 63, "\x00", 1 << 63},
		{1 << 62, "\x00\x00", 1 << 62},
	} {
		if got := digest.More(c.d, c.s); got != c.want {
			t.Errorf("More(%x, %q) = %x, not %x", c.d, c.s, got, c.want)
		}
	}
}

// P3.2: whatever the number and the text are.
func TestMoreOfAll(t *testing.T) {
	for _, d := range numbers() {
		for _, s := range []string{"", "\x00", "\x01", "\x7f", "\x80", "\xff", "a", "ab", "ba", "é", "a longer text", strings.Repeat("\xff\x00", 40)} {
			if got, want := digest.More(d, s), more(d, s); got != want {
				t.Fatalf("More(%x, %q) = %x, not %x", d, s, got, want)
			}
		}
	}
	for _, s := range texts() {
		if got, want := digest.More(7, s), more(7, s); got != want {
			t.Fatalf("More(7, %.40q) = %x, not %x", s, got, want)
		}
	}
}

// P3.3: the document's example, and numbers at the edges.
func TestText(t *testing.T) {
	for _, c := range []struct {
		d    uint64
		want string
	}{
		{255, "00000000000000ff"},
		{0, "0000000000000000"},
		{1, "0000000000000001"},
		{9, "0000000000000009"},
		{10, "000000000000000a"},
		{15, "000000000000000f"},
		{16, "0000000000000010"},
		{0x0123456789abcdef, "0123456789abcdef"},
		{0xfedcba9876543210, "fedcba9876543210"},
		{1 << 60, "1000000000000000"},
		{1 << 63, "8000000000000000"},
		{math.MaxInt64, "7fffffffffffffff"},
		{math.MaxUint64, "ffffffffffffffff"},
		{begin, "cbf29ce484222325"},
	} {
		if got := digest.Text(c.d); got != c.want {
			t.Errorf("Text(%d) = %q, not %q", c.d, got, c.want)
		}
		if got, err := digest.Parse(c.want); got != c.d || err != api.OK {
			t.Errorf("Parse(%q) = %d, %v", c.want, got, err)
		}
	}
}

// P3.3: each digit, in each place.
func TestDigits(t *testing.T) {
	for place := range 16 {
		for value := range 16 {
			s := strings.Repeat("0", place) + hex[value:value+1] + strings.Repeat("0", 15-place)
			d := uint64(value) << (4 * (15 - place))
			if got := digest.Text(d); got != s {
				t.Errorf("Text(%d) = %q, not %q", d, got, s)
			}
			if got, err := digest.Parse(s); got != d || err != api.OK {
				t.Errorf("Parse(%q) = %d, %v", s, got, err)
			}
		}
	}
}

// P3.3: texts that are no digests: the document's examples, and others of their kind.
func TestParseOfWrong(t *testing.T) {
	for _, s := range []string{
		"",
		"FF",
		"ff",
		"00000000000000FF",
		strings.Repeat("0", 15),
		strings.Repeat("0", 17),
		strings.Repeat("F", 16),
		strings.Repeat("f", 17),
		strings.Repeat("0", 32),
		strings.Repeat("0", 1<<20),
		"0x000000000000ff",
		"0x00000000000000ff",
		"+0000000000000ff",
		"-0000000000000ff",
		"+00000000000000ff",
		"0000_0000_0000_f",
		"0000000000000ff ",
		" 0000000000000ff",
		"00000000000000ff\n",
		"000000000000000\n",
		"000000000000000\x00",
		"000000000000000g",
		"g000000000000000",
		"00000000000000é",
		strings.Repeat("é", 8),
		strings.Repeat("é", 16),
		strings.Repeat("\xff", 16),
		"\uff10" + strings.Repeat("0", 13),
	} {
		if got, err := digest.Parse(s); got != 0 || err != api.ErrForm {
			t.Errorf("Parse(%.40q) = %d, %v", s, got, err)
		}
	}
}

// P3.3: which bytes may stand, in each place.
func TestParseOfBytes(t *testing.T) {
	for place := range 16 {
		for n := range 256 {
			c := string([]byte{byte(n)})
			s := strings.Repeat("f", place) + c + strings.Repeat("f", 15-place)
			got, err := digest.Parse(s)
			if !strings.Contains(hex, c) {
				if got != 0 || err != api.ErrForm {
					t.Errorf("Parse(%q) = %d, %v", s, got, err)
				}
				continue
			}
			if err != api.OK || digest.Text(got) != s {
				t.Errorf("Parse(%q) = %x, %v", s, got, err)
			}
		}
	}
}

// P3.3: no length but sixteen.
func TestParseOfLengths(t *testing.T) {
	for length := range 100 {
		want := api.ErrForm
		if length == 16 {
			want = api.OK
		}
		if got, err := digest.Parse(strings.Repeat("0", length)); got != 0 || err != want {
			t.Errorf("Parse(%d noughts) = %d, %v", length, got, err)
		}
	}
}

// P3.4: one text behind the other.
func TestBehind(t *testing.T) {
	for _, a := range texts() {
		for _, b := range []string{"", "a", "\x00", "\xff", "foobar", "é"} {
			if got, want := digest.More(digest.Of(a), b), digest.Of(a+b); got != want {
				t.Errorf("More(Of(%.40q), %q) = %x, not %x", a, b, got, want)
			}
		}
	}
	s := "what stands for bytes, é\xff"
	for i := range len(s) + 1 {
		if got, want := digest.More(digest.Of(s[:i]), s[i:]), digest.Of(s); got != want {
			t.Errorf("parted at %d: %x, not %x", i, got, want)
		}
	}
}

// P3.4: each other byte, in each place, makes another number.
func TestChanged(t *testing.T) {
	for _, s := range []string{"a", "foobar", "\x00\x00\x00", "what stands for bytes", strings.Repeat("\xff", 30)} {
		was := digest.Of(s)
		for i := range len(s) {
			seen := map[uint64]int{}
			for n := range 256 {
				changed := []byte(s)
				changed[i] = byte(n)
				got := digest.Of(string(changed))
				if (got == was) != (byte(n) == s[i]) {
					t.Errorf("Of(%q) = %x, as of %q", changed, got, s)
				}
				seen[got]++
			}
			if len(seen) != 256 {
				t.Errorf("%q: %d numbers for 256 bytes at %d", s, len(seen), i)
			}
		}
	}
}

// P3.4: there and back.
func TestParseOfText(t *testing.T) {
	for _, d := range numbers() {
		if got, err := digest.Parse(digest.Text(d)); got != d || err != api.OK {
			t.Errorf("Parse(Text(%d)) = %d, %v", d, got, err)
		}
	}
	for _, s := range texts() {
		d := digest.Of(s)
		if got, err := digest.Parse(digest.Text(d)); got != d || err != api.OK {
			t.Errorf("Parse(Text(%d)) = %d, %v", d, got, err)
		}
	}
}

// R5: a call tells what it told, whatever was called between.
func TestAgain(t *testing.T) {
	of, text := digest.Of("intro"), digest.Text(255)
	digest.Of("other")
	digest.More(3, "other")
	digest.Text(1)
	digest.Parse("ffffffffffffffff")
	digest.Parse("wrong")
	if digest.Of("intro") != of || digest.Text(255) != text {
		t.Error("it was kept what had been called")
	}
}
