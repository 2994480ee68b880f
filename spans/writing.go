package spans

import (
	"strings"

	"bindery/api"
	"bindery/terms"
)

// write writes spans that stand in so many others; false, if Parse reads no such spans. Too deep ones it does not go through: they may be very many.
func write(out *strings.Builder, l []api.Span, depth int) bool {
	if depth > api.MaxNest {
		return false
	}
	for _, s := range l {
		if int(s.Kind) >= len(pairs) {
			return false
		}
		out.WriteString(pairs[s.Kind].opening)
		if !writeWithin(out, s, depth) {
			return false
		}
		out.WriteString(pairs[s.Kind].closing)
	}
	return true
}

func writeWithin(out *strings.Builder, s api.Span, depth int) bool {
	switch s.Kind {
	case api.SpText:
		escape(out, s.Text)
	case api.SpCode, api.SpRef:
		out.WriteString(s.Text)
	case api.SpTerm:
		term, e := terms.Text(s.Text, s.Sub, s.See)
		out.WriteString(term)
		return e == api.OK
	default:
		return write(out, s.Kids, depth+1)
	}
	return true
}

func escape(out *strings.Builder, s string) {
	for _, c := range []byte(s) {
		if strings.IndexByte(escaped, c) >= 0 {
			out.WriteString(backslash)
		}
		out.WriteByte(c)
	}
}
