package ahead

import (
	"slices"
	"strings"

	"bindery/api"
	"bindery/conds"
	"bindery/paths"
)

// deeds: by its word, what a line does.
type deeds map[string]func(*source, line)

// anywhere: of words that are looked at in any line.
func anywhere() deeds {
	return deeds{
		"@if":   (*source).begin,
		"@else": (*source).other,
		"@end":  (*source).end,
	}
}

// inForce: of words that are looked at in lines in force alone, and of a line without a word.
func inForce() deeds {
	return deeds{
		"@include": (*source).include,
		"@set":     (*source).set,
		"@unset":   (*source).unset,
		"":         (*source).say,
	}
}

func (s *source) begin(l line) {
	c := condition{place: l.place}
	if s.isInForce() {
		c.holds = s.parts(l)
	}
	s.conditions = append(s.conditions, c)
}

// parts tells which parts of a condition hold that begins in force.
func (s *source) parts(l line) [2]bool {
	name, _, e := conds.Ask(nil, l.rest)
	if e != api.OK {
		s.tell(l.place, api.FaWord, l.text)
		return [2]bool{}
	}
	if len(s.conditions) >= api.MaxNest {
		s.tell(l.place, api.FaDeep, l.text)
		return [2]bool{}
	}
	s.attrs.ask(name)
	_, holds, _ := conds.Ask(s.attrs.of(name), l.rest)
	return [2]bool{holds, !holds}
}

func (s *source) other(l line) {
	c := s.last()
	if c == nil || c.part == 1 {
		s.tell(l.place, api.FaEnd, l.text)
		return
	}
	c.part = 1
}

func (s *source) end(l line) {
	if s.last() == nil {
		s.tell(l.place, api.FaEnd, l.text)
		return
	}
	s.conditions = s.conditions[:len(s.conditions)-1]
}

func (s *source) include(l line) {
	name := l.rest
	text, there := Find(s.sources, name)
	switch {
	case !paths.Check(name):
		s.tell(l.place, api.FaWord, l.text)
	case slices.Contains(s.open, name):
		s.tell(l.place, api.FaCircle, name)
	case len(s.open) >= api.MaxNest:
		s.tell(l.place, api.FaDeep, name)
	case !there:
		s.tell(l.place, api.FaSource, name)
	default:
		s.read(name, text)
	}
}

func (s *source) set(l line) {
	name, value := cut(l.rest)
	value = s.fill(value)
	if _, e := conds.Set(nil, name, value); e != api.OK {
		s.tell(l.place, api.FaWord, l.text)
		return
	}
	s.attrs.turn(name, value, true)
}

func (s *source) unset(l line) {
	if _, e := conds.Unset(nil, l.rest); e != api.OK {
		s.tell(l.place, api.FaWord, l.text)
		return
	}
	s.attrs.turn(l.rest, "", false)
}

// say makes a line of the chapter of one that has no word.
func (s *source) say(l line) {
	text := l.text
	if strings.HasPrefix(text, `\@`) {
		text = text[1:]
	}
	s.lines = append(s.lines, api.Line{File: l.file, No: l.no, Text: s.fill(text)})
}
