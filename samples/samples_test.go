package samples_test

import (
	"slices"
	"testing"

	"bindery/samples"
)

// A list that is too short would let the layers' tests pass.
func TestTexts(t *testing.T) {
	for _, c := range []struct {
		signs  []string
		length int
		want   []string
	}{
		{nil, 2, []string{""}},
		{[]string{"a"}, -1, []string{""}},
		{[]string{"a"}, 0, []string{""}},
		{[]string{"a", "b"}, 1, []string{"", "a", "b"}},
		{[]string{"a", "b"}, 2, []string{"", "a", "b", "aa", "ab", "ba", "bb"}},
	} {
		if got := samples.Texts(c.signs, c.length); !slices.Equal(got, c.want) {
			t.Errorf("Texts(%q, %d) = %q, not %q", c.signs, c.length, got, c.want)
		}
	}
}
