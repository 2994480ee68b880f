package samples_test

import (
	"slices"
	"testing"

	"bindery/api"
	"bindery/samples"
)

// A list that is too short would let the layers' tests pass.
func TestTexts(t *testing.T) {
	for _, c := range []struct {
		signs  []string
		length int
		want   []string
	}{
		{nil, 2, []string{""}},
		{[]string{"a"}, -1, []string{""}},
		{[]string{"a"}, 0, []string{""}},
		{[]string{"a", "b"}, 1, []string{"", "a", "b"}},
		{[]string{"a", "b"}, 2, []string{"", "a", "b", "aa", "ab", "ba", "bb"}},
	} {
		if got := samples.Texts(c.signs, c.length); !slices.Equal(got, c.want) {
			t.Errorf("Texts(%q, %d) = %q, not %q", c.signs, c.length, got, c.want)
		}
	}
}

func TestAttrs(t *testing.T) {
	want := []api.Attr{{Name: "a", Value: "1"}, {Name: "b", Value: ""}, {Name: "c", Value: "=2"}, {Name: "", Value: "3"}, {Name: "d"}}
	if got := samples.Attrs("a=1", "b=", "c==2", "=3", "d"); !slices.Equal(got, want) {
		t.Errorf("%q, not %q", got, want)
	}
	if got := samples.Attrs(); len(got) != 0 {
		t.Errorf("%q of none", got)
	}
}
