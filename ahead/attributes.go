package ahead

import (
	"slices"

	"bindery/api"
	"bindery/conds"
)

// attributes: what is known of each name.
// There may be as many as lines, and conds looks through all that it is handed: it is handed those alone that it will ask for.
type attributes map[string]attribute

type attribute struct {
	value  string
	set    bool
	turned bool // an @set or an @unset of it was done
	asked  bool // it was asked for ahead of that
}

// known: attributes as they are ahead of all lines; those that may not be are none.
func known(l []api.Attr) attributes {
	a := attributes{}
	if !conds.Check(l) {
		return a
	}
	for _, x := range l {
		a[x.Name] = attribute{value: x.Value, set: true}
	}
	return a
}

// of: those of these names that are set.
func (a attributes) of(names ...string) []api.Attr {
	var l []api.Attr
	for _, name := range names {
		if x := a[name]; x.set {
			l = append(l, api.Attr{Name: name, Value: x.value})
		}
	}
	return l
}

// turn sets an attribute or, if set is false, unsets it.
func (a attributes) turn(name, value string, set bool) {
	a[name] = attribute{value: value, set: set, turned: true, asked: a[name].asked}
}

// ask remembers a name that is asked for, while what it answers hangs on the attributes that were handed in.
func (a attributes) ask(name string) {
	x := a[name]
	x.asked = x.asked || !x.turned
	a[name] = x
}

// asked: the names that were asked for, rising.
func (a attributes) asked() []string {
	var names []string
	for name, x := range a {
		if x.asked {
			names = append(names, name)
		}
	}
	slices.Sort(names)
	return names
}
