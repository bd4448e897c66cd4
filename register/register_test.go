package register

import (
	"fmt"
	"maps"
	"math"
	"slices"
	"strings"
	"testing"

	"frisket/api"
)

var badNames = []string{
	"", "]", "a]", "]a", "a]b", " ", "a b", " a", "a ", "\x00", "\x1f", "\x20", "\x7f", "\x80", "\xff", "a\n", "\ta", "é", "aé", strings.Repeat("a", 21), strings.Repeat("a", 1000000), strings.Repeat("]", 21),
}

// A result is what a call gives: its error, and what stands with it.
type result struct {
	err  api.Errno
	with any
}

// calls has each call that takes a name and tells an error, with all other arguments good.
func calls(b *Book) map[string]func(name string) result {
	return map[string]func(name string) result{
		"Set":         func(name string) result { return result{b.Set(name, 1), nil} },
		"Step":        func(name string) result { return result{b.Step(name, 1), nil} },
		"Format":      func(name string) result { return result{b.Format(name, "i"), nil} },
		"Value":       func(name string) result { n, err := b.Value(name); return result{err, n} },
		"Text":        func(name string) result { s, err := b.Text(name); return result{err, s} },
		"Move up":     func(name string) result { n, err := b.Move(name, true); return result{err, n} },
		"Move down":   func(name string) result { n, err := b.Move(name, false); return result{err, n} },
		"FormatOf":    func(name string) result { s, err := b.FormatOf(name); return result{err, s} },
		"Remove":      func(name string) result { return result{b.Remove(name), nil} },
		"Rename from": func(name string) result { return result{b.Rename(name, "y"), nil} },
		"Rename to":   func(name string) result { return result{b.Rename("x", name), nil} },
	}
}

// badCalls has calls whose other argument is wrong.
func badCalls(b *Book) map[string]func(name string) result {
	return map[string]func(name string) result{
		"Set above":  func(name string) result { return result{b.Set(name, 1000000001), nil} },
		"Set below":  func(name string) result { return result{b.Set(name, -1000000001), nil} },
		"Step above": func(name string) result { return result{b.Step(name, 1000000001), nil} },
		"Step below": func(name string) result { return result{b.Step(name, -1000000001), nil} },
		"Format":     func(name string) result { return result{b.Format(name, "z"), nil} },
	}
}

// told checks that there is that error, and that all else is the zero value.
func told(t *testing.T, what string, r result, err api.Errno) {
	t.Helper()
	if r.err != err || r.with != nil && r.with != 0 && r.with != "" {
		t.Errorf("%.60s: %d, %v; want error %d", what, r.err, r.with, err)
	}
}

// seen is all that can be seen of a book. Of a register at an end of the range its step is seen from the one side alone.
func seen(b *Book) map[string]string {
	all := map[string]string{}
	for _, name := range b.Names() {
		value, e1 := b.Value(name)
		text, e2 := b.Text(name)
		form, e3 := b.FormatOf(name)
		up, e4 := b.Copy().Move(name, true)
		down, e5 := b.Copy().Move(name, false)
		all[name] = strings.TrimSpace(fmt.Sprintln(b.Has(name), value, e1, text, e2, form, e3, up, e4, down, e5))
	}
	return all
}

func small() *Book {
	b := New()
	b.Set("x", 5)
	b.Step("x", 3)
	b.Format("x", "01")
	b.Set("y", -7)
	return b
}

func full() *Book {
	b := small()
	for i := len(b.Names()); i < 500; i++ {
		b.Set(fmt.Sprint("n", i), i)
	}
	return b
}

func checkNames(t *testing.T, b *Book, want ...string) {
	t.Helper()
	if names := b.Names(); !slices.Equal(names, want) {
		t.Errorf("names %q; want %q", names, want)
	}
}

// P2.1: a nil book, and a zero one, are told before all else that is wrong; what tells no error returns nothing.
func TestErrArgIsFirst(t *testing.T) {
	for _, b := range []*Book{nil, {}, new(Book)} {
		for _, name := range append([]string{"x", "y"}, badNames...) {
			for what, call := range calls(b) {
				told(t, what+" "+name, call(name), api.ErrArg)
			}
			for what, call := range badCalls(b) {
				told(t, what+" "+name, call(name), api.ErrArg)
			}
			if b.Has(name) {
				t.Errorf("Has(%.40q)", name)
			}
		}
		if len(b.Names()) != 0 || b.Copy() != nil {
			t.Error(b.Names(), b.Copy())
		}
	}
}

// P2.1: a name that cannot be is told before a format, a range and a full book; and nothing is changed (R4).
func TestErrNameIsNext(t *testing.T) {
	for _, b := range []*Book{New(), small(), full()} {
		before := seen(b)
		for _, name := range badNames {
			for what, call := range calls(b) {
				told(t, what+" "+name, call(name), api.ErrName)
			}
			for what, call := range badCalls(b) {
				told(t, what+" "+name, call(name), api.ErrName)
			}
			if b.Has(name) {
				t.Errorf("Has(%.40q)", name)
			}
		}
		if !maps.Equal(seen(b), before) {
			t.Error("changed", seen(b), before)
		}
	}
}

// P2.1: a format and a range are told before a full book; and nothing is changed (R4).
func TestErrFormAndErrRangeAreNext(t *testing.T) {
	for _, b := range []*Book{New(), small(), full()} {
		before := seen(b)
		for _, name := range []string{"x", "new"} {
			for _, form := range badForms {
				told(t, "Format "+form, result{b.Format(name, form), nil}, api.ErrForm)
			}
			for _, n := range []int{1000000001, -1000000001, math.MaxInt, math.MinInt} {
				told(t, "Set", result{b.Set(name, n), nil}, api.ErrRange)
				told(t, "Step", result{b.Step(name, n), nil}, api.ErrRange)
			}
		}
		if !maps.Equal(seen(b), before) {
			t.Error("changed", seen(b), before)
		}
	}
}

// P2.1 and P2.2: a book of 500 takes no other register, until one is gone.
func TestErrFull(t *testing.T) {
	b := full()
	if len(b.Names()) != 500 {
		t.Fatal(len(b.Names()))
	}
	before := seen(b)
	told(t, "Set", result{b.Set("new", 1), nil}, api.ErrFull)
	told(t, "Step", result{b.Step("new", 1), nil}, api.ErrFull)
	told(t, "Format", result{b.Format("new", "i"), nil}, api.ErrFull)
	told(t, "Set", result{b.Copy().Set("new", 1), nil}, api.ErrFull)
	if !maps.Equal(seen(b), before) {
		t.Error("changed")
	}
	for _, name := range []string{"x", "y", "n499"} {
		told(t, "Set", result{b.Set(name, 1), nil}, api.OK)
		told(t, "Step", result{b.Step(name, 1), nil}, api.OK)
		told(t, "Format", result{b.Format(name, "i"), nil}, api.OK)
	}
	told(t, "Rename", result{b.Rename("n499", "other"), nil}, api.OK)
	told(t, "Set", result{b.Set("n499", 1), nil}, api.ErrFull)
	told(t, "Rename", result{b.Rename("other", "x"), nil}, api.OK)
	told(t, "Set", result{b.Set("new", 1), nil}, api.OK)
	told(t, "Set", result{b.Set("newer", 1), nil}, api.ErrFull)
	told(t, "Remove", result{b.Remove("y"), nil}, api.OK)
	told(t, "Format", result{b.Format("newer", "a"), nil}, api.OK)
	told(t, "Step", result{b.Step("newest", 1), nil}, api.ErrFull)
}

func TestAskingMakesNothing(t *testing.T) {
	for _, b := range []*Book{New(), small(), full()} {
		before := seen(b)
		for _, want := range []struct {
			what string
			result
		}{
			{"Value", result{with: 0}}, {"Text", result{with: "0"}}, {"FormatOf", result{with: "0"}}, {"Move up", result{with: 0}}, {"Move down", result{with: 0}}, {"Remove", result{}},
			{"Rename from", result{err: api.ErrName}},
		} {
			if r := calls(b)[want.what]("none"); r != want.result {
				t.Error(want.what, r)
			}
			if b.Has("none") || !maps.Equal(seen(b), before) {
				t.Error(want.what, "changes the book")
			}
		}
	}
}

func TestNamesThatCanBe(t *testing.T) {
	b, want := New(), []string{}
	for c := byte(33); c <= 126; c++ {
		if c != ']' {
			want = append(want, string(rune(c)))
		}
	}
	want = append(want, "12", "B", "[", "\\", "aa", "ab", "x.y", strings.Repeat("b", 20), strings.Repeat("~", 20))
	for _, name := range want {
		told(t, name, result{b.Set(name, 1), nil}, api.OK)
		if !b.Has(name) {
			t.Error(name)
		}
	}
	slices.Sort(want)
	checkNames(t, b, slices.Compact(want)...)
}

// P2.2: each of the three makes a register of value 0, step 0 and format 0, but for what it sets.
func TestMaking(t *testing.T) {
	for what, want := range map[string]string{"Set": "true 1 0 1 0 0 0 1 0 1 0", "Step": "true 0 0 0 0 0 0 1 0 -1 0", "Format": "true 0 0 0 0 i 0 0 0 0 0"} {
		b := New()
		told(t, what, calls(b)[what]("x"), api.OK)
		if all := seen(b); len(all) != 1 || all["x"] != want {
			t.Error(what, all)
		}
	}
}

// P2.2: each of the three leaves what the others have set.
func TestSettingOneThing(t *testing.T) {
	b := small()
	for _, k := range []struct {
		err  api.Errno
		want string
	}{
		{api.OK, "true 5 0 05 0 01 0 8 0 2 0"}, {b.Set("x", 14), "true 14 0 14 0 01 0 17 0 11 0"}, {b.Step("x", -4), "true 14 0 14 0 01 0 10 0 18 0"},
		{b.Format("x", "i"), "true 14 0 xiv 0 i 0 10 0 18 0"}, {b.Format("x", "A"), "true 14 0 N 0 A 0 10 0 18 0"}, {b.Set("x", -28), "true -28 0 -AB 0 A 0 -32 0 -24 0"},
	} {
		told(t, k.want, result{k.err, nil}, api.OK)
	}
	if all := seen(b); all["x"] != "true -28 0 -AB 0 A 0 -32 0 -24 0" || all["y"] != "true -7 0 -7 0 0 0 -7 0 -7 0" {
		t.Error(all)
	}
	for _, form := range goodForms {
		told(t, form, result{b.Format("x", form), nil}, api.OK)
		want, _ := Write(-28, form)
		back, e1 := b.FormatOf("x")
		text, e2 := b.Text("x")
		if back != form || text != want || e1 != api.OK || e2 != api.OK {
			t.Error(form, back, text, e1, e2)
		}
	}
}

// P2.2: Move, also over both ends of the range.
func TestMove(t *testing.T) {
	const most = 1000000000
	for _, k := range []struct {
		value, step int
		up          bool
		want        int
		err         api.Errno
	}{
		{5, 3, true, 8, 0}, {5, 3, false, 2, 0}, {5, -3, true, 2, 0}, {5, -3, false, 8, 0}, {5, 0, true, 5, 0}, {2, 3, false, -1, 0}, {3, 3, false, 0, 0},
		{most, 1, true, 0, api.ErrRange}, {most, 1, false, most - 1, 0}, {most - 1, 1, true, most, 0}, {most, -1, true, most - 1, 0}, {most, -1, false, 0, api.ErrRange}, {most, 0, true, most, 0},
		{-most, 1, false, 0, api.ErrRange}, {-most, 1, true, 1 - most, 0}, {1 - most, 1, false, -most, 0}, {-most, -1, true, 0, api.ErrRange}, {-most, -1, false, 1 - most, 0},
		{most, most, true, 0, api.ErrRange}, {most, most, false, 0, 0}, {-most, -most, true, 0, api.ErrRange}, {-most, -most, false, 0, 0}, {0, most, true, most, 0}, {0, most, false, -most, 0},
	} {
		b := New()
		told(t, "Set", result{b.Set("x", k.value), nil}, api.OK)
		told(t, "Step", result{b.Step("x", k.step), nil}, api.OK)
		n, err := b.Move("x", k.up)
		after := k.want
		if k.err != api.OK {
			after = k.value
		}
		if value, _ := b.Value("x"); n != k.want || err != k.err || value != after {
			t.Error(k, n, err, value)
		}
	}
	b := full()
	if n, err := b.Move("x", true); n != 8 || err != api.OK {
		t.Error("in a full book", n, err)
	}
}

func TestRename(t *testing.T) {
	b := small()
	x := seen(b)["x"]
	told(t, "to a new name", result{b.Rename("x", "z"), nil}, api.OK)
	checkNames(t, b, "y", "z")
	told(t, "to another's name", result{b.Rename("z", "y"), nil}, api.OK)
	checkNames(t, b, "y")
	told(t, "to itself", result{b.Rename("y", "y"), nil}, api.OK)
	checkNames(t, b, "y")
	if all := seen(b); all["y"] != x {
		t.Error(all, x)
	}
	for _, pair := range [][2]string{{"x", "y"}, {"x", "new"}, {"x", "x"}, {"x", "]"}, {"]", "y"}, {"y", "]"}, {"]", "]"}, {"", ""}, {"y", ""}, {"y", strings.Repeat("y", 21)}} {
		told(t, strings.Join(pair[:], " to "), result{b.Rename(pair[0], pair[1]), nil}, api.ErrName)
		if all := seen(b); len(all) != 1 || all["y"] != x {
			t.Error(pair, all)
		}
	}
}

func TestRemove(t *testing.T) {
	b := small()
	told(t, "x", calls(b)["Remove"]("x"), api.OK)
	checkNames(t, b, "y")
	told(t, "x again", calls(b)["Remove"]("x"), api.OK)
	told(t, "y", calls(b)["Remove"]("y"), api.OK)
	checkNames(t, b)
	told(t, "x anew", calls(b)["Set"]("x"), api.OK)
	if all := seen(b); all["x"] != "true 1 0 1 0 0 0 1 0 1 0" {
		t.Error("step and format stay", all)
	}
}

func TestNames(t *testing.T) {
	b := New()
	checkNames(t, b)
	for _, name := range []string{"b", "ab", "B", "a", "10", "9", "aa", ".s", "~", "!"} {
		told(t, name, calls(b)["Step"](name), api.OK)
	}
	names := b.Names()
	checkNames(t, b, "!", ".s", "10", "9", "B", "a", "aa", "ab", "b", "~")
	names[0] = "changed"
	checkNames(t, b, "!", ".s", "10", "9", "B", "a", "aa", "ab", "b", "~")
}

// P2.3: a copy is apart, in both directions.
func TestCopyIsApart(t *testing.T) {
	change := func(b *Book) {
		b.Set("x", 9)
		b.Step("x", 1)
		b.Format("x", "i")
		b.Move("x", true)
		b.Rename("y", "z")
		b.Set("new", 1)
		b.Remove("x")
	}
	for _, first := range []func(b, k *Book) (changed, other *Book){func(b, k *Book) (*Book, *Book) { return b, k }, func(b, k *Book) (*Book, *Book) { return k, b }} {
		b := small()
		before := seen(b)
		changed, other := first(b, b.Copy())
		if !maps.Equal(seen(changed), before) || !maps.Equal(seen(other), before) {
			t.Error("not the same", seen(changed), seen(other))
		}
		change(changed)
		if !maps.Equal(seen(other), before) || maps.Equal(seen(changed), before) {
			t.Error("not apart", seen(changed), seen(other))
		}
	}
	if k := New().Copy(); k == nil || len(k.Names()) != 0 || k.Set("x", 1) != api.OK {
		t.Error("a copy of an empty book is none")
	}
}

// model is a book as plain lists of what each register is.
type model struct {
	names        []string
	values, step []int
	forms        []string
}

func (m *model) at(name string, make bool) int {
	i := slices.Index(m.names, name)
	if i < 0 && make {
		m.names, m.values, m.step, m.forms = append(m.names, name), append(m.values, 0), append(m.step, 0), append(m.forms, "0")
		i = len(m.names) - 1
	}
	return i
}

func (m *model) remove(i int) {
	m.names, m.values, m.step, m.forms = slices.Delete(m.names, i, i+1), slices.Delete(m.values, i, i+1), slices.Delete(m.step, i, i+1), slices.Delete(m.forms, i, i+1)
}

// do does to both what k says, and tells what each makes of it.
func (m *model) do(b *Book, k int, name, other string) (got, want result) {
	n := k*k%2003 - 1001
	switch k % 7 {
	case 0:
		m.values[m.at(name, true)] = n
		return result{b.Set(name, n), nil}, result{}
	case 1:
		m.step[m.at(name, true)] = n
		return result{b.Step(name, n), nil}, result{}
	case 2:
		form := goodForms[k%len(goodForms)]
		m.forms[m.at(name, true)] = form
		return result{b.Format(name, form), nil}, result{}
	case 3, 4:
		got = calls(b)[[]string{"Move up", "Move down"}[k%7-3]](name)
		want.with = 0
		if i := m.at(name, false); i >= 0 {
			m.values[i] += m.step[i] * (7 - 2*(k%7))
			want.with = m.values[i]
		}
		return got, want
	case 5:
		if i := m.at(name, false); i >= 0 {
			m.remove(i)
		}
		return result{b.Remove(name), nil}, result{}
	}
	got = result{b.Rename(name, other), nil}
	if m.at(name, false) < 0 {
		return got, result{err: api.ErrName}
	}
	if i := m.at(other, false); i >= 0 && name != other {
		m.remove(i)
	}
	m.names[m.at(name, false)] = other
	return got, want
}

// P2.2, of long rows of calls: the book is always what the model is.
func TestAgainstModel(t *testing.T) {
	names := []string{"a", "b", "c", "d", "e", "f", "g"}
	b, m, state := New(), &model{}, uint32(1)
	for range 20000 {
		state = state*1664525 + 1013904223
		k := int(state >> 8)
		name, other := names[k/7%7], names[k/49%7]
		if got, want := m.do(b, k%343343, name, other); got != want {
			t.Fatal(k, name, other, got, want)
		}
		sorted := slices.Clone(m.names)
		slices.Sort(sorted)
		checkNames(t, b, sorted...)
		for i, name := range m.names {
			value, _ := b.Value(name)
			text, _ := b.Text(name)
			want, _ := Write(m.values[i], m.forms[i])
			if form, _ := b.FormatOf(name); value != m.values[i] || text != want || form != m.forms[i] {
				t.Fatal(k, name, value, text, form, m)
			}
		}
	}
}
