package ahead_test

import (
	"maps"
	"regexp"
	"slices"
	"strings"

	"bindery/ahead"
	"bindery/api"
)

// model says P5.1 once more, another way: each part of a condition is read by a call of its own.
// It leaves out that there may be too many lines, and asks nothing of names but that they are short.
type model struct {
	sources []api.Source
	attrs   map[string]string
	done    map[string]bool
	asked   map[string]bool
	open    []string
	told
}

// text is a source of a model, as far as it was read, and the lines of the @if that are open.
type text struct {
	name  string
	lines []string
	at    int
	ifs   []int
}

var (
	nameSign = regexp.MustCompile(`^[A-Za-z][A-Za-z0-9-]*$`)
	fileSign = regexp.MustCompile(`^[A-Za-z][A-Za-z0-9-]*(\.[A-Za-z][A-Za-z0-9-]*)*$`)
	asks     = regexp.MustCompile(`\{([A-Za-z][A-Za-z0-9-]*)\}`)
	word     = regexp.MustCompile(`^(@[^ \t]*)[ \t]*(.*?)[ \t]*$`)
	escaped  = regexp.MustCompile(`^\\@`)
	setting  = regexp.MustCompile(`^([^ \t]*)[ \t]*(.*)$`)
	asking   = regexp.MustCompile(`^(?:(!?)([A-Za-z][A-Za-z0-9-]*)|([A-Za-z][A-Za-z0-9-]*)(!?=)(.*))$`)
)

func modelRead(l []api.Source, attrs []api.Attr, name string) told {
	m := &model{sources: l, attrs: map[string]string{}, done: map[string]bool{}, asked: map[string]bool{}}
	for _, a := range attrs {
		m.attrs[a.Name] = a.Value
	}
	m.source(name)
	m.told.asked = slices.Sorted(maps.Keys(m.asked))
	return m.told
}

func (m *model) source(name string) {
	at := slices.IndexFunc(m.sources, func(s api.Source) bool { return s.Name == name })
	m.open = append(m.open, name)
	if !slices.Contains(m.files, name) {
		m.files = append(m.files, name)
	}
	x := &text{name: name, lines: ahead.Lines(m.sources[at].Text)}
	for m.part(x, true, 0) {
	}
	for _, no := range x.ifs {
		m.fault(name, no, api.FaEnd, "")
	}
	m.open = m.open[:len(m.open)-1]
}

// part reads up to an @else or @end of its own: in the first part of a condition (1), in its second one (2), in none (0). It tells whether there was one.
func (m *model) part(x *text, force bool, which int) bool {
	for x.at < len(x.lines) {
		s := x.lines[x.at]
		x.at++
		found := word.FindStringSubmatch(s)
		switch {
		case found == nil && force:
			m.lines = append(m.lines, api.Line{File: x.name, No: x.at, Text: m.fill(escaped.ReplaceAllString(s, "@"))})
		case found == nil:
		case found[1] == "@if":
			if !m.condition(x, force, s, found[2]) {
				return false
			}
		case found[1] == "@else" && which == 1, found[1] == "@end" && which != 0:
			return true
		case found[1] == "@else", found[1] == "@end":
			m.fault(x.name, x.at, api.FaEnd, s)
		case force:
			m.deed(x, s, found[1], found[2])
		}
	}
	return false
}

func (m *model) condition(x *text, force bool, s, rest string) bool {
	first, second := false, false
	if force {
		found := asking.FindStringSubmatch(rest)
		switch {
		case found == nil:
			m.fault(x.name, x.at, api.FaWord, s)
		case len(x.ifs) > 15:
			m.fault(x.name, x.at, api.FaDeep, s)
		default:
			name := found[2] + found[3]
			m.ask(name)
			value, set := m.attrs[name]
			first = set
			if found[4] != "" {
				first = set && value == found[5]
			}
			if found[1] == "!" || found[4] == "!=" {
				first = !first
			}
			second = !first
		}
	}
	depth := len(x.ifs)
	x.ifs = append(x.ifs, x.at)
	if !m.part(x, force && first, 1) {
		return false
	}
	if strings.HasPrefix(x.lines[x.at-1], "@else") && !m.part(x, force && second, 2) {
		return false
	}
	x.ifs = x.ifs[:depth]
	return true
}

func (m *model) deed(x *text, s, word, rest string) {
	ok := true
	switch word {
	case "@include":
		m.include(x, s, rest)
	case "@set":
		found := setting.FindStringSubmatch(rest)
		value := m.fill(found[2])
		if ok = nameSign.MatchString(found[1]) && !strings.ContainsAny(value, "\x01\t"); ok {
			m.attrs[found[1]] = value
			m.done[found[1]] = true
		}
	case "@unset":
		if ok = nameSign.MatchString(rest); ok {
			delete(m.attrs, rest)
			m.done[rest] = true
		}
	default:
		ok = false
	}
	if !ok {
		m.fault(x.name, x.at, api.FaWord, s)
	}
}

func (m *model) include(x *text, s, name string) {
	there := slices.ContainsFunc(m.sources, func(s api.Source) bool { return s.Name == name })
	switch {
	case !fileSign.MatchString(name):
		m.fault(x.name, x.at, api.FaWord, s)
	case slices.Contains(m.open, name):
		m.fault(x.name, x.at, api.FaCircle, name)
	case len(m.open) > 15:
		m.fault(x.name, x.at, api.FaDeep, name)
	case !there:
		m.fault(x.name, x.at, api.FaSource, name)
	default:
		m.source(name)
	}
}

func (m *model) fill(s string) string {
	return asks.ReplaceAllStringFunc(s, func(found string) string {
		name := found[1 : len(found)-1]
		m.ask(name)
		if value, set := m.attrs[name]; set {
			return value
		}
		return found
	})
}

func (m *model) ask(name string) {
	if !m.done[name] {
		m.asked[name] = true
	}
}

func (m *model) fault(file string, no int, f api.Fault, s string) {
	m.diags = append(m.diags, api.Diag{File: file, Line: no, Fault: f, Text: s})
}
