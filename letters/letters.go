// Package letters is layer 1: letters, and how they are ordered. See doc/01-letters.md.
package letters

import (
	"iter"
	"strings"

	"bindery/api"
)

// Lower: letters from A to Z as small ones. (P1.1)
func Lower(s string) string { return change(s, shift('A', 'Z', 'a'-'A')) }

// Order: of two texts, as an index has them: below 0, 0, above 0. (P1.2)
func Order(a, b string) int {
	if n := strings.Compare(key(a), key(b)); n != 0 {
		return n
	}
	return strings.Compare(a, b)
}

// Name: may a text be a name? (P1.3)
func Name(s string) bool {
	if len(s) < 1 || len(s) > api.MaxName || !isLetter(s[0]) {
		return false
	}
	for i := range len(s) {
		if !isLetter(s[i]) && !isDigit(s[i]) && s[i] != '-' {
			return false
		}
	}
	return true
}

// Words: what stands between blanks. (P1.4)
func Words(s string) []string {
	return strings.FieldsFunc(s, func(r rune) bool { return r == ' ' || r == '\t' || r == '\n' })
}

// change goes by bytes, not by runes: bytes that are no UTF-8 must stay as they are.
func change(s string, of func(byte) byte) string {
	out := []byte(s)
	for i, c := range out {
		out[i] = of(c)
	}
	return string(out)
}

// shift makes a function that moves the bytes from first to last on by so many, and leaves all others.
func shift(first, last, by byte) func(byte) byte {
	return func(c byte) byte {
		if first <= c && c <= last {
			return c + by
		}
		return c
	}
}

// key is what a text is ordered by first.
func key(s string) string {
	var out []byte
	for c := range keyBytes(s) {
		out = append(out, c)
	}
	return string(out)
}

// keyBytes tells a text's key, byte by byte.
func keyBytes(s string) iter.Seq[byte] {
	return func(yield func(byte) bool) {
		for _, c := range []byte(Lower(s)) {
			if (isLetter(c) || isDigit(c)) && !yield(c) {
				return
			}
		}
	}
}

func isLetter(c byte) bool { return 'a' <= c && c <= 'z' || 'A' <= c && c <= 'Z' }

func isDigit(c byte) bool { return '0' <= c && c <= '9' }
