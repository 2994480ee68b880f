package conds_test

import (
	"maps"
	"regexp"
	"slices"
	"strconv"
	"strings"
	"testing"

	"bindery/api"
	"bindery/conds"
	"bindery/samples"
)

const (
	alphabet = "abcdefghijklmnopqrstuvwxyzABCDEFGHIJKLMNOPQRSTUVWXYZ"
	within   = alphabet + "0123456789-"
)

// attrs is short, for tests that make attributes on nearly every line.
var attrs = samples.Attrs

// many: so many attributes that may be: their names rise, and all have two digits.
func many(length int) []api.Attr {
	var out []api.Attr
	for i := range length {
		out = append(out, api.Attr{Name: "n" + strconv.Itoa(10+i), Value: strconv.Itoa(i)})
	}
	return out
}

// lists: all lists of at most so many attributes of a few; some of them may not be.
func lists(length int) [][]api.Attr {
	few := attrs("a=", "a=1", "A=2", "b={a}", "a-1=a", "1=x", "=x", "b=\n")
	all := [][]api.Attr{nil}
	last := all
	for range length {
		var next [][]api.Attr
		for _, l := range last {
			for _, a := range few {
				next = append(next, append(slices.Clone(l), a))
			}
		}
		all = append(all, next...)
		last = next
	}
	return all
}

// goodName and goodValue say once more which may be.
var (
	goodName  = regexp.MustCompile(`^[A-Za-z][A-Za-z0-9-]{0,59}$`)
	badSign   = regexp.MustCompile("[\x00-\x1f\x7f]")
	goodValue = func(s string) bool { return len(s) <= 1024 && !badSign.MatchString(s) }
)

// good says P4.1 once more: names that rise are those that are sorted and each there once.
func good(l []api.Attr) bool {
	names := map[string]int{}
	var order []string
	for _, a := range l {
		if !goodName.MatchString(a.Name) || !goodValue(a.Value) {
			return false
		}
		names[a.Name]++
		order = append(order, a.Name)
	}
	return len(l) <= 64 && len(names) == len(l) && slices.IsSorted(order)
}

// P4.1: how many there may be, and in which order.
func TestCheck(t *testing.T) {
	for _, c := range []struct {
		l    []api.Attr
		want bool
	}{
		{nil, true},
		{[]api.Attr{}, true},
		{attrs("a=1"), true},
		{attrs("a="), true},
		{attrs("a=1", "b=1"), true},
		{attrs("a=2", "b=1", "c=0"), true},
		{attrs("b=1", "a=1"), false},
		{attrs("a=1", "a=1"), false},
		{attrs("a=1", "a=2"), false},
		{attrs("a=1", "c=1", "b=1"), false},
		{attrs("a=1", "b=1", "a=1"), false},
		{attrs("a=1", "b=1", "b=1"), false},
		{attrs("B=1", "a=1"), true},
		{attrs("a=1", "B=1"), false},
		{attrs("A=1", "a=1"), true},
		{attrs("a=1", "A=1"), false},
		{attrs("a=1", "a-=1", "a0=1", "aA=1", "aa=1"), true},
		{attrs("a-=1", "a=1"), false},
		{attrs("a0=1", "a-=1"), false},
		{attrs("aA=1", "a0=1"), false},
		{attrs("aa=1", "aA=1"), false},
		{attrs("a10=1", "a9=1"), true},
		{attrs("a9=1", "a10=1"), false},
		{attrs("=1"), false},
		{attrs(""), false},
		{attrs("=", "a="), false},
		{attrs("a=1", "b c=1"), false},
		{attrs("1=1", "a=1"), false},
		{attrs("a=1", "b_=1", "c=1"), false},
		{attrs("a=1", "b=1", "é=1"), false},
		{attrs("a=\n", "b=1"), false},
		{attrs("a=1", "b=\n"), false},
		{many(api.MaxAttrs - 1), true},
		{many(api.MaxAttrs), true},
		{many(api.MaxAttrs + 1), false},
		{make([]api.Attr, 1<<20), false},
	} {
		if got := conds.Check(c.l); got != c.want {
			t.Errorf("Check(%.80q) = %v", c.l, got)
		}
	}
}

// P4.1: which names and values may be: their lengths.
func TestCheckOfLengths(t *testing.T) {
	for _, c := range []struct {
		name, value int
		want        bool
	}{
		{1, 0, true},
		{0, 0, false},
		{0, 1, false},
		{api.MaxName - 1, 1, true},
		{api.MaxName, 1, true},
		{api.MaxName + 1, 1, false},
		{1, api.MaxValue - 1, true},
		{1, api.MaxValue, true},
		{1, api.MaxValue + 1, false},
		{api.MaxName, api.MaxValue, true},
		{api.MaxName + 1, api.MaxValue, false},
		{api.MaxName, api.MaxValue + 1, false},
		{1, 1 << 20, false},
		{1 << 20, 1, false},
	} {
		for _, sign := range []string{"n", "é"} {
			value := strings.Repeat(sign, c.value/len(sign)) + strings.Repeat("v", c.value%len(sign))
			a := api.Attr{Name: strings.Repeat("n", c.name), Value: value}
			if got := conds.Check([]api.Attr{a}); got != c.want {
				t.Errorf("Check of a name of %d and a value of %d bytes = %v", c.name, c.value, got)
			}
			if _, err := conds.Set(nil, a.Name, a.Value); (err == api.OK) != c.want || !c.want && err != api.ErrArg {
				t.Errorf("Set of a name of %d and a value of %d bytes: %v", c.name, c.value, err)
			}
		}
	}
}

// P4.1, P4.2, P4.3: which bytes may stand in a name and in a value.
func TestOfBytes(t *testing.T) {
	for n := range 256 {
		c := string([]byte{byte(n)})
		names := map[string]int{c: strings.Index(alphabet, c), c + "a": strings.Index(alphabet, c), "a" + c: strings.Index(within, c), "a" + c + "a": strings.Index(within, c)}
		for name, at := range names {
			l := []api.Attr{{Name: name}}
			if got := conds.Check(l); got != (at >= 0) {
				t.Errorf("Check of a name %q = %v", name, got)
			}
			set, err := conds.Set(nil, name, "")
			if at >= 0 && (err != api.OK || !slices.Equal(set, l)) || at < 0 && (err != api.ErrArg || set != nil) {
				t.Errorf("Set of a name %q = %q, %v", name, set, err)
			}
			rest, err := conds.Unset(nil, name)
			if at >= 0 && err != api.OK || at < 0 && err != api.ErrArg || len(rest) != 0 {
				t.Errorf("Unset of a name %q = %q, %v", name, rest, err)
			}
			asked, holds, err := conds.Ask(nil, "!"+name)
			if at >= 0 && (asked != name || !holds || err != api.OK) || at < 0 && (asked != "" || holds || err != api.ErrForm) {
				t.Errorf("Ask(!%q) = %q, %v, %v", name, asked, holds, err)
			}
		}
		want := n >= 32 && n != 127
		for _, value := range []string{c, c + "v", "v" + c, "v" + c + "v"} {
			l := []api.Attr{{Name: "a", Value: value}}
			if got := conds.Check(l); got != want {
				t.Errorf("Check of a value %q = %v", value, got)
			}
			set, err := conds.Set(nil, "a", value)
			if want && (err != api.OK || !slices.Equal(set, l)) || !want && (err != api.ErrArg || set != nil) {
				t.Errorf("Set of a value %q = %q, %v", value, set, err)
			}
		}
	}
}

// P4.1.
func TestCheckOfAll(t *testing.T) {
	for _, l := range lists(4) {
		if got, want := conds.Check(l), good(l); got != want {
			t.Fatalf("Check(%q) = %v", l, got)
		}
	}
}

// P4.2: the document's examples, and others of their kind.
func TestSet(t *testing.T) {
	for _, c := range []struct {
		l           []api.Attr
		name, value string
		want        []api.Attr
		err         api.Errno
	}{
		{nil, "a", "1", attrs("a=1"), api.OK},
		{[]api.Attr{}, "a", "", attrs("a="), api.OK},
		{attrs("b=2"), "a", "1", attrs("a=1", "b=2"), api.OK},
		{attrs("a=1"), "b", "2", attrs("a=1", "b=2"), api.OK},
		{attrs("a=1", "c=3"), "b", "2", attrs("a=1", "b=2", "c=3"), api.OK},
		{attrs("a=1"), "a", "3", attrs("a=3"), api.OK},
		{attrs("a=1"), "a", "1", attrs("a=1"), api.OK},
		{attrs("a=1"), "a", "", attrs("a="), api.OK},
		{attrs("a=1", "b=2", "c=3"), "a", "4", attrs("a=4", "b=2", "c=3"), api.OK},
		{attrs("a=1", "b=2", "c=3"), "b", "4", attrs("a=1", "b=4", "c=3"), api.OK},
		{attrs("a=1", "b=2", "c=3"), "c", "4", attrs("a=1", "b=2", "c=4"), api.OK},
		{attrs("a=1"), "A", "2", attrs("A=2", "a=1"), api.OK},
		{attrs("a=1"), "a-", "2", attrs("a=1", "a-=2"), api.OK},
		{attrs("ab=1"), "a", "2", attrs("a=2", "ab=1"), api.OK},
		{attrs("a=1"), "b", "{a} = é", attrs("a=1", "b={a} = é"), api.OK},
		{attrs("a=1"), "1", "x", nil, api.ErrArg},
		{attrs("a=1"), "", "x", nil, api.ErrArg},
		{attrs("a=1"), "a b", "x", nil, api.ErrArg},
		{attrs("a=1"), "b", "\n", nil, api.ErrArg},
		{attrs("a=1"), "a", "\t", nil, api.ErrArg},
		{attrs("a=1"), "a", "\x7f", nil, api.ErrArg},
		{attrs("b=1", "a=1"), "a", "x", nil, api.ErrArg},
		{attrs("a=1", "a=1"), "a", "x", nil, api.ErrArg},
		{attrs("1=1"), "1", "x", nil, api.ErrArg},
		{attrs("1=1"), "a", "x", nil, api.ErrArg},
		{attrs("a=\n"), "a", "x", nil, api.ErrArg},
	} {
		if got, err := conds.Set(c.l, c.name, c.value); !slices.Equal(got, c.want) || err != c.err {
			t.Errorf("Set(%q, %q, %q) = %q, %v", c.l, c.name, c.value, got, err)
		}
	}
}

// P4.2: how many there may be; what may not be is told ahead of that.
func TestSetOfMany(t *testing.T) {
	full := many(api.MaxAttrs)
	last := full[len(full)-1].Name
	for _, c := range []struct {
		l           []api.Attr
		name, value string
		length      int
		err         api.Errno
	}{
		{many(api.MaxAttrs - 1), "a", "x", api.MaxAttrs, api.OK},
		{many(api.MaxAttrs - 1), "z", "x", api.MaxAttrs, api.OK},
		{many(api.MaxAttrs - 1), "n10", "x", api.MaxAttrs - 1, api.OK},
		{full, "n10", "x", api.MaxAttrs, api.OK},
		{full, last, "x", api.MaxAttrs, api.OK},
		{full, "a", "x", 0, api.ErrLimit},
		{full, "n10-", "x", 0, api.ErrLimit},
		{full, "z", "x", 0, api.ErrLimit},
		{full, "1", "x", 0, api.ErrArg},
		{full, "z", "\n", 0, api.ErrArg},
		{full, "n10", "\n", 0, api.ErrArg},
		{many(api.MaxAttrs + 1), "z", "x", 0, api.ErrArg},
		{many(api.MaxAttrs + 1), "n10", "x", 0, api.ErrArg},
	} {
		got, err := conds.Set(c.l, c.name, c.value)
		if len(got) != c.length || err != c.err {
			t.Errorf("Set(%d attributes, %q, %q) = %q, %v", len(c.l), c.name, c.value, got, err)
		}
		if c.err != api.OK {
			continue
		}
		if value, set := conds.Get(got, c.name); value != c.value || !set || !conds.Check(got) {
			t.Errorf("Set(%d attributes, %q, %q) = %q", len(c.l), c.name, c.value, got)
		}
	}
}

// P4.2: the document's examples, and others of their kind.
func TestUnset(t *testing.T) {
	for _, c := range []struct {
		l    []api.Attr
		name string
		want []api.Attr
		err  api.Errno
	}{
		{attrs("a=1"), "a", nil, api.OK},
		{attrs("a=1"), "b", attrs("a=1"), api.OK},
		{attrs("b=1"), "a", attrs("b=1"), api.OK},
		{nil, "a", nil, api.OK},
		{[]api.Attr{}, "a", nil, api.OK},
		{attrs("a=1", "b=2", "c=3"), "a", attrs("b=2", "c=3"), api.OK},
		{attrs("a=1", "b=2", "c=3"), "b", attrs("a=1", "c=3"), api.OK},
		{attrs("a=1", "b=2", "c=3"), "c", attrs("a=1", "b=2"), api.OK},
		{attrs("a=1", "b=2", "c=3"), "B", attrs("a=1", "b=2", "c=3"), api.OK},
		{attrs("a=1", "ab=2"), "ab", attrs("a=1"), api.OK},
		{many(api.MaxAttrs), "n10", many(api.MaxAttrs)[1:], api.OK},
		{many(api.MaxAttrs), "z", many(api.MaxAttrs), api.OK},
		{attrs("a=1"), "1", nil, api.ErrArg},
		{attrs("a=1"), "", nil, api.ErrArg},
		{attrs("a=1"), "a ", nil, api.ErrArg},
		{nil, "1", nil, api.ErrArg},
		{attrs("b=1", "a=1"), "a", nil, api.ErrArg},
		{attrs("a=1", "a=2"), "a", nil, api.ErrArg},
		{attrs("1=1"), "1", nil, api.ErrArg},
		{attrs("1=1"), "a", nil, api.ErrArg},
		{attrs("a=\n"), "a", nil, api.ErrArg},
		{many(api.MaxAttrs + 1), "n10", nil, api.ErrArg},
	} {
		if got, err := conds.Unset(c.l, c.name); !slices.Equal(got, c.want) || err != c.err {
			t.Errorf("Unset(%q, %q) = %q, %v", c.l, c.name, got, err)
		}
	}
}

// P4.2: of lists that may not be, too, and of names that may not.
func TestGet(t *testing.T) {
	long := strings.Repeat("n", 100000)
	for _, c := range []struct {
		l     []api.Attr
		name  string
		value string
		set   bool
	}{
		{attrs("a=1"), "a", "1", true},
		{attrs("a="), "a", "", true},
		{attrs("a=1"), "b", "", false},
		{attrs("a=1"), "A", "", false},
		{attrs("a=1"), "", "", false},
		{attrs("ab=1"), "a", "", false},
		{attrs("a=1"), "ab", "", false},
		{nil, "a", "", false},
		{nil, "", "", false},
		{attrs("a=1", "b=2", "c=3"), "c", "3", true},
		{attrs("a=1", "a=2"), "a", "1", true},
		{attrs("b=1", "a=", "a=2"), "a", "", true},
		{attrs("c=1", "b=2", "a=3"), "a", "3", true},
		{attrs("c=1", "b=2", "a=3"), "c", "1", true},
		{attrs("=1"), "", "1", true},
		{attrs("a b=1"), "a b", "1", true},
		{attrs("1={\n"), "1", "{\n", true},
		{[]api.Attr{{Name: long, Value: long}}, long, long, true},
		{[]api.Attr{{Name: "\xff", Value: "\x00"}}, "\xff", "\x00", true},
		{many(1000), "n1009", "999", true},
	} {
		if value, set := conds.Get(c.l, c.name); value != c.value || set != c.set {
			t.Errorf("Get(%.80q, %.40q) = %.40q, %v", c.l, c.name, value, set)
		}
	}
}

// sorted: what a map holds, as attributes that rise.
func sorted(m map[string]string) []api.Attr {
	var out []api.Attr
	for _, name := range slices.Sorted(maps.Keys(m)) {
		out = append(out, api.Attr{Name: name, Value: m[name]})
	}
	return out
}

// P4.2, P4.5: what is set is got, what is unset is not, all others are as they were.
func TestSetAndUnsetOfAll(t *testing.T) {
	for _, l := range lists(3) {
		for _, name := range []string{"a", "b", "A", "a-1", "c", "1", ""} {
			held := map[string]string{}
			for _, a := range l {
				held[a.Name] = a.Value
			}
			for _, value := range []string{"1", "9", "", "\n"} {
				held[name] = value
				got, err := conds.Set(l, name, value)
				if !good(l) || !goodName.MatchString(name) || !goodValue(value) {
					if got != nil || err != api.ErrArg {
						t.Fatalf("Set(%q, %q, %q) = %q, %v", l, name, value, got, err)
					}
					continue
				}
				if err != api.OK || !slices.Equal(got, sorted(held)) {
					t.Fatalf("Set(%q, %q, %q) = %q, %v", l, name, value, got, err)
				}
			}
			delete(held, name)
			got, err := conds.Unset(l, name)
			if !good(l) || !goodName.MatchString(name) {
				if got != nil || err != api.ErrArg {
					t.Fatalf("Unset(%q, %q) = %q, %v", l, name, got, err)
				}
				continue
			}
			if err != api.OK || !slices.Equal(got, sorted(held)) {
				t.Fatalf("Unset(%q, %q) = %q, %v", l, name, got, err)
			}
		}
	}
}

// P4.2, P4.5: step by step, against a map.
func TestSetAndUnsetInSteps(t *testing.T) {
	var l []api.Attr
	held := map[string]string{}
	refused := 0
	for step := range 5000 {
		name := "n" + strconv.Itoa(step*31%97)
		value := strconv.Itoa(step)
		var err api.Errno
		var next []api.Attr
		_, had := held[name]
		full := len(held) == api.MaxAttrs && !had && step%4 != 0
		if step%4 == 0 {
			next, err = conds.Unset(l, name)
			delete(held, name)
		} else {
			next, err = conds.Set(l, name, value)
		}
		if full {
			if next != nil || err != api.ErrLimit {
				t.Fatalf("step %d: %q, %v", step, next, err)
			}
			refused++
			continue
		}
		if step%4 != 0 {
			held[name] = value
		}
		if l = next; err != api.OK || !slices.Equal(l, sorted(held)) || !conds.Check(l) {
			t.Fatalf("step %d: %q, %v", step, l, err)
		}
	}
	if refused == 0 {
		t.Error("there were never too many")
	}
}

// P4.3: the document's examples, and others of their kind.
func TestAsk(t *testing.T) {
	name := strings.Repeat("n", api.MaxName)
	for _, c := range []struct {
		l     []api.Attr
		cond  string
		name  string
		holds bool
	}{
		{attrs("a=1"), "a", "a", true},
		{attrs("a=1"), "!a", "a", false},
		{attrs("a=1"), "a=1", "a", true},
		{attrs("a=1"), "a!=1", "a", false},
		{attrs("a=1"), "b!=1", "b", true},
		{attrs("a=1"), "b=", "b", false},
		{attrs("a=1"), "b!=", "b", true},
		{attrs("a=1"), "b", "b", false},
		{attrs("a=1"), "!b", "b", true},
		{attrs("a=1"), "a=2", "a", false},
		{attrs("a=1"), "a!=2", "a", true},
		{attrs("a=1"), "a=", "a", false},
		{attrs("a=1"), "a!=", "a", true},
		{attrs("a=1"), "A", "A", false},
		{attrs("a=1"), "a=1 ", "a", false},
		{attrs("a=1"), "a= 1", "a", false},
		{attrs("a="), "a", "a", true},
		{attrs("a="), "!a", "a", false},
		{attrs("a="), "a=", "a", true},
		{attrs("a="), "a!=", "a", false},
		{attrs("a=="), "a==", "a", true},
		{attrs("a=="), "a!==", "a", false},
		{attrs("a=!"), "a=!", "a", true},
		{attrs("a=!=1"), "a=!=1", "a", true},
		{attrs("a=b!=c"), "a=b!=c", "a", true},
		{attrs("a=b!=c"), "a!=b!=c", "a", false},
		{attrs("a==1"), "a==1", "a", true},
		{attrs("a=!a"), "a=!a", "a", true},
		{attrs("a={b}"), "a={b}", "a", true},
		{attrs("a={b}", "b=1"), "a=1", "a", false},
		{attrs("a=A"), "a=a", "a", false},
		{attrs("a-1=x y"), "a-1=x y", "a-1", true},
		{attrs("a=é"), "a=é", "a", true},
		{attrs("a=1"), "a=\n\x00\xff", "a", false},
		{attrs("a=\n\x00\xff"), "a=\n\x00\xff", "a", true},
		{attrs("a=\n\x00\xff"), "a!=\n\x00\xff", "a", false},
		{nil, "a", "a", false},
		{nil, "!a", "a", true},
		{nil, "a=", "a", false},
		{nil, "a!=", "a", true},
		{attrs("a=1", "a=2"), "a=1", "a", true},
		{attrs("a=1", "a=2"), "a=2", "a", false},
		{attrs("b=1", "a=2"), "a=2", "a", true},
		{attrs("1=1", "a=2"), "a=2", "a", true},
		{many(1000), "n1009=999", "n1009", true},
		{attrs(name + "=1"), name, name, true},
		{attrs(name + "=1"), "!" + name, name, false},
		{attrs(name + "=1"), name + "=1", name, true},
		{attrs(name + "=1"), name + "!=1", name, false},
		{attrs("a=" + strings.Repeat("v", 100000)), "a=" + strings.Repeat("v", 100000), "a", true},
		{attrs("a=" + strings.Repeat("v", 100000)), "a=" + strings.Repeat("v", 100001), "a", false},
	} {
		if got, holds, err := conds.Ask(c.l, c.cond); got != c.name || holds != c.holds || err != api.OK {
			t.Errorf("Ask(%.80q, %.80q) = %q, %v, %v", c.l, c.cond, got, holds, err)
		}
	}
}

// P4.3: what is no condition, whatever is set.
func TestAskOfWrong(t *testing.T) {
	long := strings.Repeat("n", api.MaxName+1)
	for _, cond := range []string{
		"", "a b", "=1", "!a=1", "a!", "!", "!!", "!!a", "=", "!=", "!=1", "a!!", "a!!=1", "a!b", "a!b=1",
		"!a!", "!a!=1", "a =1", "a !=1", "a ! =1", " a", "a ", "! a", "!a ", " a=1", "1", "!1", "1=1", "1!=1",
		"-a", "a_b", "a_b=1", "é", "é=1", "{a}", "a\n", "a\n=1", "\xff", "\x00", "a\x00",
		"=a=1", "!=a=1", "a<1", "a&b", "a|b", "(a)",
		long, "!" + long, long + "=1", long + "!=1", strings.Repeat("!", 1<<20), strings.Repeat("=", 1<<20),
	} {
		for _, l := range [][]api.Attr{nil, attrs("a=1"), attrs("=1", "1=1", "a b=1", "!=1", "a!=1", "!a=1")} {
			if name, holds, err := conds.Ask(l, cond); name != "" || holds || err != api.ErrForm {
				t.Errorf("Ask(%q, %.80q) = %q, %v, %v", l, cond, name, holds, err)
			}
		}
	}
}

// The forms of a condition, once more.
var (
	alone = regexp.MustCompile(`^(!?)([A-Za-z][A-Za-z0-9-]{0,59})$`)
	even  = regexp.MustCompile(`(?s)^([A-Za-z][A-Za-z0-9-]{0,59})(!?)=(.*)$`)
)

// ask says P4.3 once more.
func ask(l []api.Attr, cond string) (string, bool, api.Errno) {
	value := func(name string) []string {
		for _, a := range l {
			if a.Name == name {
				return []string{a.Value}
			}
		}
		return nil
	}
	if m := alone.FindStringSubmatch(cond); m != nil {
		return m[2], (value(m[2]) != nil) == (m[1] == ""), api.OK
	}
	if m := even.FindStringSubmatch(cond); m != nil {
		return m[1], slices.Equal(value(m[1]), []string{m[3]}) == (m[2] == ""), api.OK
	}
	return "", false, api.ErrForm
}

// P4.3.
func TestAskOfAll(t *testing.T) {
	conditions := samples.Texts([]string{"a", "B", "1", "-", "!", "=", " ", "\xff"}, 5)
	for _, l := range [][]api.Attr{nil, attrs("a="), attrs("B=1", "a=a"), attrs("a=!", "a==", "a1==a", "aB=!=")} {
		for _, cond := range conditions {
			name, holds, err := conds.Ask(l, cond)
			wantName, want, wantErr := ask(l, cond)
			if name != wantName || holds != want || err != wantErr {
				t.Fatalf("Ask(%q, %q) = %q, %v, %v", l, cond, name, holds, err)
			}
		}
	}
}

// P4.5: of a condition and its opposite one holds, and one alone.
func TestOpposites(t *testing.T) {
	var pairs [][2]string
	for _, name := range []string{"a", "A", "b", "a-1", "c"} {
		pairs = append(pairs, [2]string{name, "!" + name})
		for _, text := range samples.Texts([]string{"a", "1", "=", "!", "{", "}", "\n"}, 3) {
			pairs = append(pairs, [2]string{name + "=" + text, name + "!=" + text})
		}
	}
	for _, l := range lists(2) {
		for _, p := range pairs {
			name, holds, err := conds.Ask(l, p[0])
			opposite, other, otherErr := conds.Ask(l, p[1])
			if holds == other || name != opposite || name == "" || err != api.OK || otherErr != api.OK {
				t.Fatalf("Ask(%q, %q) = %q, %v, %v; of %q %q, %v, %v", l, p[0], name, holds, err, p[1], opposite, other, otherErr)
			}
		}
	}
}

// P4.4: the document's examples, and others of their kind.
func TestFill(t *testing.T) {
	name := strings.Repeat("n", api.MaxName)
	value := strings.Repeat("v", 2*api.MaxValue)
	for _, c := range []struct {
		l     []api.Attr
		s     string
		want  string
		names []string
	}{
		{attrs("a=x"), "{a}{b}{a} {{a}} {a b}", "x{b}x {x} {a b}", []string{"a", "b"}},
		{attrs("a={b}", "b=2"), "{a}", "{b}", []string{"a"}},
		{nil, "", "", nil},
		{attrs("a=x"), "", "", nil},
		{attrs("a=x"), "a", "a", nil},
		{attrs("a=x"), "{a}", "x", []string{"a"}},
		{attrs("a="), "{a}", "", []string{"a"}},
		{attrs("a="), "b{a}c{a}d", "bcd", []string{"a"}},
		{nil, "{a}", "{a}", []string{"a"}},
		{nil, "{b}{a}{b}", "{b}{a}{b}", []string{"b", "a"}},
		{attrs("a=1", "b=2"), "{b}{a}{c}{A}", "21{c}{A}", []string{"b", "a", "c", "A"}},
		{attrs("a={b}", "b={a}"), "{a}{b}", "{b}{a}", []string{"a", "b"}},
		{attrs("a={a}"), "{a}", "{a}", []string{"a"}},
		{attrs("a={", "b=b}"), "{a}b}", "{b}", []string{"a"}},
		{attrs("a=a", "b=2"), "{{a}}", "{a}", []string{"a"}},
		{attrs("a=x"), "{a", "{a", nil},
		{attrs("a=x"), "a}", "a}", nil},
		{attrs("a=x"), "{}", "{}", nil},
		{attrs("a=x"), "{}{a}", "{}x", []string{"a"}},
		{attrs("a=x"), "{{}{a}", "{{}x", []string{"a"}},
		{attrs("a=x"), "}{a}{", "}x{", []string{"a"}},
		{attrs("a=x"), "{a{a}a}", "{axa}", []string{"a"}},
		{attrs("a=x"), "{ a}{a }{ a }", "{ a}{a }{ a }", nil},
		{attrs("a=x"), "{!a}{a=x}{a!}", "{!a}{a=x}{a!}", nil},
		{attrs("a=x"), "{a\n}{\na}", "{a\n}{\na}", nil},
		{attrs("1=x", "=y"), "{1}{}{-a}{a_b}{é}", "{1}{}{-a}{a_b}{é}", nil},
		{attrs("a=x"), "\\{a}", "\\x", []string{"a"}},
		{attrs("a=x"), "\xff{a}\x00é{\xff}{\x00}\n", "\xffx\x00é{\xff}{\x00}\n", []string{"a"}},
		{attrs("a=\xff\n"), "{a}", "\xff\n", []string{"a"}},
		{attrs("a=1", "a=2"), "{a}", "1", []string{"a"}},
		{attrs("b=1", "a=2"), "{a}{b}", "21", []string{"a", "b"}},
		{attrs("1=1", "a=2"), "{a}", "2", []string{"a"}},
		{attrs("a-1=x"), "{a-1}{a-}{a}", "x{a-}{a}", []string{"a-1", "a-", "a"}},
		{[]api.Attr{{Name: "a", Value: value}}, "{a}{a}", value + value, []string{"a"}},
		{attrs(name + "=x"), "{" + name + "}", "x", []string{name}},
		{attrs(name + "=x"), "{{" + name + "}}", "{x}", []string{name}},
		{attrs(name + "n=x"), "{" + name + "n}", "{" + name + "n}", nil},
		{attrs("a=x"), "{" + name + name + "{a}", "{" + name + name + "x", []string{"a"}},
		{many(1000), "{n1009}", "999", []string{"n1009"}},
	} {
		if got, names := conds.Fill(c.l, c.s); got != c.want || !slices.Equal(names, c.names) {
			t.Errorf("Fill(%.80q, %.80q) = %.80q, %q", c.l, c.s, got, names)
		}
	}
}

var asked = regexp.MustCompile(`\{[A-Za-z][A-Za-z0-9-]{0,59}\}`)

// fill says P4.4 once more.
func fill(l []api.Attr, s string) (string, []string) {
	var names []string
	out := asked.ReplaceAllStringFunc(s, func(found string) string {
		name := found[1 : len(found)-1]
		if !slices.Contains(names, name) {
			names = append(names, name)
		}
		for _, a := range l {
			if a.Name == name {
				return a.Value
			}
		}
		return found
	})
	return out, names
}

// P4.4.
func TestFillOfAll(t *testing.T) {
	short := samples.Texts([]string{"{", "}", "a", "B", "-", " "}, 6)
	long := samples.Texts([]string{"{a}", "{B}", "{aB}", "{", "}", "a", "\xff"}, 5)
	for _, l := range [][]api.Attr{nil, attrs("a="), attrs("B={a}", "a=}"), attrs("a={", "a=2", "aB=a}")} {
		for _, s := range slices.Concat(short, long) {
			got, names := conds.Fill(l, s)
			if want, wantNames := fill(l, s); got != want || !slices.Equal(names, wantNames) {
				t.Fatalf("Fill(%q, %q) = %q, %q", l, s, got, names)
			}
		}
	}
}

// P4.4: names as long as they may be, and longer.
func TestFillOfLengths(t *testing.T) {
	for length := range 2 * api.MaxName {
		name := strings.Repeat("n", length)
		l := []api.Attr{{Name: name, Value: "x"}}
		for _, s := range []string{"{" + name + "}", "{" + name, name + "}", "{{" + name + "}}", "{" + name + "}{" + name + "}", "{n" + name + "}"} {
			got, names := conds.Fill(l, s)
			if want, wantNames := fill(l, s); got != want || !slices.Equal(names, wantNames) {
				t.Errorf("Fill(%q) = %q, %q", s, got, names)
			}
		}
	}
}

// P4.4, R1: long texts of braces, of one name and of many.
func TestFillOfLongTexts(t *testing.T) {
	var other strings.Builder
	for i := range 20000 {
		other.WriteString("{n" + strconv.Itoa(i) + "}")
	}
	for _, c := range []struct {
		s     string
		names int
	}{
		{strings.Repeat("{", 1<<22), 0},
		{strings.Repeat("}", 1<<22), 0},
		{strings.Repeat("{a", 1<<21), 0},
		{strings.Repeat("{", 1<<22) + "}", 0},
		{strings.Repeat("{b}", 1<<20), 1},
		{other.String(), 20000},
	} {
		if got, names := conds.Fill(attrs("a=x"), c.s); got != c.s || len(names) != c.names {
			t.Errorf("Fill(%.20q and so on): %d bytes, %d names", c.s, len(got), len(names))
		}
	}
}

// P4.4: many attributes, each name there twice, and all of them asked for.
func TestFillOfManyAttributes(t *testing.T) {
	var text, want strings.Builder
	l := many(50000)
	for _, a := range slices.Backward(l) {
		text.WriteString("{" + a.Name + "}")
		want.WriteString(a.Value)
		l = append(l, api.Attr{Name: a.Name, Value: "second"})
	}
	got, names := conds.Fill(l, text.String())
	if got != want.String() || len(names) != 50000 || names[0] != "n50009" {
		t.Errorf("%d bytes of %d, %d names", len(got), want.Len(), len(names))
	}
}

// room: a list with spare room, and all that the room holds.
func room(l []api.Attr) (list, whole []api.Attr) {
	whole = append(slices.Clone(l), attrs("x=spare", "y=spare", "z=spare")...)
	return whole[:len(l)], whole
}

// R4: what is handed in is not changed, nor what is behind it; an answer shares none with it, or with another answer.
func TestAnswersAreNew(t *testing.T) {
	for _, l := range [][]api.Attr{{}, attrs("b=2"), attrs("b=2", "d=4"), many(api.MaxAttrs - 1), many(api.MaxAttrs)} {
		for _, name := range []string{"a", "b", "c", "d", "e", "n10"} {
			list, whole := room(l)
			was := slices.Clone(whole)
			set, _ := conds.Set(list, name, "new")
			again, _ := conds.Set(list, name, "new")
			unset, _ := conds.Unset(list, name)
			unsetAgain, _ := conds.Unset(list, name)
			conds.Check(list)
			conds.Get(list, name)
			conds.Ask(list, name+"=new")
			conds.Fill(list, "{"+name+"}")
			wantSet, wantUnset := slices.Clone(again), slices.Clone(unsetAgain)
			for _, answer := range [][]api.Attr{set, unset} {
				answer = answer[:cap(answer)]
				for i := range answer {
					answer[i] = api.Attr{Name: "changed", Value: "changed"}
				}
			}
			if !slices.Equal(whole, was) {
				t.Errorf("%q, %q: what was handed in is now %q", l, name, whole)
			}
			if !slices.Equal(again, wantSet) || !slices.Equal(unsetAgain, wantUnset) {
				t.Errorf("%q, %q: the other answers are now %q, %q", l, name, again, unsetAgain)
			}
		}
	}
	_, names := conds.Fill(nil, "{a}{b}{c}")
	_, again := conds.Fill(nil, "{a}{b}{c}")
	clear(names[:cap(names)])
	if !slices.Equal(again, []string{"a", "b", "c"}) {
		t.Errorf("Fill's other names are now %q", again)
	}
}

// R4: no list and an empty one are the same.
func TestNoneAndEmpty(t *testing.T) {
	for _, l := range [][]api.Attr{nil, {}, make([]api.Attr, 0, 5)} {
		set, err := conds.Set(l, "a", "1")
		if !conds.Check(l) || !slices.Equal(set, attrs("a=1")) || err != api.OK {
			t.Errorf("%#v: %q, %v", l, set, err)
		}
		if unset, err := conds.Unset(l, "a"); len(unset) != 0 || err != api.OK {
			t.Errorf("%#v: %q, %v", l, unset, err)
		}
		if value, set := conds.Get(l, "a"); value != "" || set {
			t.Errorf("%#v: %q", l, value)
		}
		if s, names := conds.Fill(l, "{a}"); s != "{a}" || len(names) != 1 {
			t.Errorf("%#v: %q, %q", l, s, names)
		}
	}
}

// R5: a call tells what it told, whatever was called between.
func TestAgain(t *testing.T) {
	l := attrs("a=1", "b=2")
	text, names := conds.Fill(l, "{b}{a}{c}")
	conds.Set(nil, "c", "3")
	conds.Unset(l, "a")
	conds.Ask(attrs("c=4"), "c!=4")
	conds.Fill(attrs("c=5"), "{c}{b}")
	again, namesAgain := conds.Fill(l, "{b}{a}{c}")
	if text != "21{c}" || again != text || !slices.Equal(names, namesAgain) {
		t.Errorf("%q, %q; then %q, %q", text, names, again, namesAgain)
	}
	if name, holds, err := conds.Ask(l, "c"); name != "c" || holds || err != api.OK {
		t.Errorf("%q, %v, %v", name, holds, err)
	}
}
