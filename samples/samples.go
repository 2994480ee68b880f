// Package samples makes texts for the layers' tests; no layer calls it.
package samples

// Texts: all texts of at most so many of the signs, the shorter ones first, beginning with the empty one.
func Texts(signs []string, length int) []string {
	all := []string{""}
	last := all
	for range length {
		var next []string
		for _, s := range last {
			for _, c := range signs {
				next = append(next, s+c)
			}
		}
		all = append(all, next...)
		last = next
	}
	return all
}
