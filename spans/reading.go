package spans

import (
	"cmp"
	"slices"
	"strings"

	"bindery/api"
	"bindery/letters"
	"bindery/terms"
)

// reading is how far a text was read, and what was found.
type reading struct {
	text  string
	at    int
	open  []frame          // the first one is for the text itself; no sign opened it
	gone  [len(pairs)]bool // kinds whose closing sign is nowhere behind; without it many opening signs would take too long
	wrong []fault
}

// frame is a span that is open, with what stands in it so far.
type frame struct {
	row
	kind  api.SpanKind
	place int // of what opened it
}

// row of spans.
type row struct {
	spans []api.Span
	text  []byte // what stands behind the spans
}

type fault struct {
	place int
	fault api.Fault
}

// sign reads what stands at the place: one of the signs, or a byte of a text.
func (r *reading) sign() {
	rest := r.text[r.at:]
	opens := func(kind api.SpanKind) bool { return strings.HasPrefix(rest, pairs[kind].opening) }
	switch {
	case rest[:1] == backslash && len(rest) > 1 && strings.IndexByte(escaped, rest[1]) >= 0:
		r.at++
		r.say(1)
	case opens(api.SpCode):
		r.code()
	case opens(api.SpRef):
		r.ref()
	case opens(api.SpTerm):
		r.term()
	case opens(api.SpNote):
		r.begin(api.SpNote)
	case rest[:1] == pairs[api.SpNote].closing && r.last(api.SpNote) > 0:
		r.close(r.last(api.SpNote))
	case opens(api.SpBold):
		r.mark(api.SpBold)
	case opens(api.SpItalic):
		r.mark(api.SpItalic)
	default:
		r.say(1)
	}
}

func (r *reading) code() {
	r.between(api.SpCode, func(s string) api.Fault {
		r.put(api.Span{Kind: api.SpCode, Text: s})
		return api.FaNone
	})
}

func (r *reading) ref() {
	r.between(api.SpRef, func(s string) api.Fault {
		if !letters.Name(s) {
			return api.FaLabel
		}
		r.put(api.Span{Kind: api.SpRef, Text: s})
		return api.FaNone
	})
}

func (r *reading) term() {
	r.between(api.SpTerm, func(s string) api.Fault {
		term, sub, see, e := terms.Parse(s)
		if e != api.OK {
			return api.FaTerm
		}
		r.put(api.Span{Kind: api.SpTerm, Text: term, Sub: sub, See: see})
		return api.FaNone
	})
}

// between hands on what stands up to the next closing sign. If that may not be, all of it is text.
func (r *reading) between(kind api.SpanKind, made func(string) api.Fault) {
	p := pairs[kind]
	var s string
	if !r.gone[kind] {
		var found bool
		s, _, found = strings.Cut(r.text[r.at+len(p.opening):], p.closing)
		r.gone[kind] = !found
	}
	if r.gone[kind] {
		r.fault(r.at, api.FaSpan)
		r.say(len(p.opening))
		return
	}
	length := len(p.opening) + len(s) + len(p.closing)
	if f := made(s); f != api.FaNone {
		r.fault(r.at, f)
		r.say(length)
		return
	}
	r.at += length
}

// mark reads a sign that opens and closes alike.
func (r *reading) mark(kind api.SpanKind) {
	ahead := r.text[max(r.at-1, 0):r.at]
	behind := r.text[r.at+1 : min(r.at+2, len(r.text))]
	last := r.last(kind)
	switch {
	case last > 0 && r.open[last].place != r.at-1 && !isBlank(ahead) && !isWordy(behind):
		r.close(last)
	case !isWordy(ahead) && behind != "" && !isBlank(behind):
		r.begin(kind)
	default:
		r.say(1)
	}
}

// last tells which of those that are open was the last one of its kind; 0, if there is none.
func (r *reading) last(kind api.SpanKind) int {
	for n := len(r.open) - 1; n > 0; n-- {
		if r.open[n].kind == kind {
			return n
		}
	}
	return 0
}

// begin opens a span, if not too many are open.
func (r *reading) begin(kind api.SpanKind) {
	opening := pairs[kind].opening
	if len(r.open)-1 >= api.MaxNest {
		r.fault(r.at, api.FaSpan)
		r.say(len(opening))
		return
	}
	r.open = append(r.open, frame{kind: kind, place: r.at})
	r.at += len(opening)
}

// close makes a span of one that is open.
func (r *reading) close(n int) {
	kind := r.open[n].kind
	kids := r.end(n)
	r.put(api.Span{Kind: kind, Kids: kids})
	r.at += len(pairs[kind].closing)
}

// end takes away one that is open, and tells what stands in it; those that were opened behind it are no spans.
func (r *reading) end(n int) []api.Span {
again:
	ended := &r.open[n]
	if n+1 < len(r.open) {
		lost := r.open[n+1]
		r.open = slices.Delete(r.open, n+1, n+2)
		ended.put(api.Span{Text: pairs[lost.kind].opening})
		for _, s := range lost.told() {
			ended.put(s)
		}
		r.fault(lost.place, api.FaSpan)
		goto again
	}
	l := ended.told()
	r.open = r.open[:n]
	return l
}

// say reads so many bytes as text.
func (r *reading) say(n int) {
	r.put(api.Span{Text: r.text[r.at : r.at+n]})
	r.at += n
}

// put puts a span into what was opened last.
func (r *reading) put(s api.Span) { r.open[len(r.open)-1].put(s) }

func (r *reading) fault(place int, f api.Fault) { r.wrong = append(r.wrong, fault{place, f}) }

// faults tells them by their places: one that was found when a span ended may stand ahead of others.
func (r *reading) faults() []api.Fault {
	slices.SortFunc(r.wrong, func(a, b fault) int { return cmp.Compare(a.place, b.place) })
	var out []api.Fault
	for _, w := range r.wrong {
		out = append(out, w.fault)
	}
	return out
}

// put makes one text of texts that stand side by side.
func (r *row) put(s api.Span) {
	if s.Kind == api.SpText {
		r.text = append(r.text, s.Text...)
		return
	}
	r.spans = append(r.told(), s)
}

// told is the row with the text behind its spans.
func (r *row) told() []api.Span {
	if len(r.text) > 0 {
		r.spans = append(r.spans, api.Span{Text: string(r.text)})
		r.text = nil
	}
	return r.spans
}

func isBlank(s string) bool { return s == " " || s == "\t" }

// isWordy asks of a byte whether it is a letter or a digit; none is neither.
func isWordy(s string) bool {
	for _, c := range []byte(s) {
		if 'a' <= c && c <= 'z' || 'A' <= c && c <= 'Z' || '0' <= c && c <= '9' {
			return true
		}
	}
	return false
}
