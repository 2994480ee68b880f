// Package samples makes texts and attributes for the layers' tests; no layer calls it.
package samples

import (
	"strings"

	"bindery/api"
)

// Texts: all texts of at most so many of the signs, the shorter ones first, beginning with the empty one.
func Texts(signs []string, length int) []string {
	all := []string{""}
	last := all
	for range length {
		var next []string
		for _, s := range last {
			for _, c := range signs {
				next = append(next, s+c)
			}
		}
		all = append(all, next...)
		last = next
	}
	return all
}

// Attrs reads attributes: each a name, =, and a value.
func Attrs(l ...string) []api.Attr {
	var out []api.Attr
	for _, s := range l {
		name, value, _ := strings.Cut(s, "=")
		out = append(out, api.Attr{Name: name, Value: value})
	}
	return out
}
