package store

import (
	"fmt"
	"maps"
	"math"
	"slices"
	"strings"
	"testing"

	"frisket/api"
)

var badNames = []string{
	"", "]", "a]", "]a", "a]b", " ", "a b", " a", "a ", "\x00", "\x1f", "\x20", "\x7f", "\x80", "\xff", "a\n", "\ta", "é", "aé", strings.Repeat("a", 21), strings.Repeat("a", 1000000), strings.Repeat("]", 21),
}

var badTexts = []string{"\n", "a\n", "\na", "a\nb", strings.Repeat("a", 2001), strings.Repeat("a", 2000) + "\n", strings.Repeat("\n", 3000)}

var badLines = []api.Line{
	{Text: "\n"}, {Text: "a\nb"}, {Text: strings.Repeat("a", 2001)}, {Text: "a", Up: 1}, {Text: "a", Down: -1}, {Text: "a", Boxes: make([]api.Box, 1)}, {Up: 1}, {Down: 1}, {Boxes: make([]api.Box, 1)},
	{Made: true, Text: "a"}, {Made: true, Text: " ", Up: 1}, {Made: true, Up: 1000001}, {Made: true, Up: -1000001}, {Made: true, Down: 1000001}, {Made: true, Down: -1000001}, {Made: true, Up: math.MinInt}, {Made: true, Down: math.MaxInt},
	{Made: true, Boxes: make([]api.Box, 2001)},
}

var goodLines = []api.Line{
	{}, {Text: "a"}, {Text: " a\tb\r\x00\xff"}, {Text: strings.Repeat("é", 1000)}, {Boxes: []api.Box{}}, {Made: true}, {Made: true, Up: 1000000, Down: -1000000}, {Made: true, Up: -1000000, Down: 1000000},
	{Made: true, Boxes: make([]api.Box, 2000)}, {Made: true, Boxes: []api.Box{{Kind: 77, Width: math.MinInt, Name: "a\n", N: []int{1, math.MaxInt}}, {Kind: -1, Size: -5, Colour: "]", N: []int{}}}},
}

// A result is what a call gives: its error, and what stands with it.
type result struct {
	err  api.Errno
	with any
}

// calls has each call that takes a name and tells an error, with all other arguments good.
func calls(s *Store) map[string]func(name string) result {
	return map[string]func(name string) result{
		"Define":      func(name string) result { return result{s.Define(name, "new"), nil} },
		"Append":      func(name string) result { return result{s.Append(name, "new"), nil} },
		"Macro":       func(name string) result { return result{s.Macro(name, text("new")), nil} },
		"Add":         func(name string) result { return result{s.Add(name, text("new")), nil} },
		"Text":        func(name string) result { x, err := s.Text(name); return result{err, x} },
		"Lines":       func(name string) result { l, err := s.Lines(name); return result{err, l} },
		"Remove":      func(name string) result { return result{s.Remove(name), nil} },
		"Rename from": func(name string) result { return result{s.Rename(name, "m"), nil} },
		"Rename to":   func(name string) result { return result{s.Rename("a", name), nil} },
		"Rename":      func(name string) result { return result{s.Rename(name, name), nil} },
		"Alias fresh": func(name string) result { return result{s.Alias(name, "a"), nil} },
		"Alias old":   func(name string) result { return result{s.Alias("m", name), nil} },
		"Alias":       func(name string) result { return result{s.Alias(name, name), nil} },
		"Chop":        func(name string) result { return result{s.Chop(name), nil} },
		"Part":        func(name string) result { return result{s.Part(name, 0, 0), nil} },
		"Length":      func(name string) result { n, err := s.Length(name); return result{err, n} },
	}
}

// badCalls has calls with a text that cannot be, or a line among good ones.
func badCalls(s *Store) map[string]func(name string) result {
	all := map[string]func(name string) result{}
	for i, x := range badTexts {
		all[fmt.Sprint("Define text ", i)] = func(name string) result { return result{s.Define(name, x), nil} }
		all[fmt.Sprint("Append text ", i)] = func(name string) result { return result{s.Append(name, x), nil} }
	}
	for i, l := range badLines {
		for at := range 3 {
			lines := slices.Insert(text("x", "y"), at, l)
			all[fmt.Sprint("Macro line ", i, at)] = func(name string) result { return result{s.Macro(name, lines), nil} }
			all[fmt.Sprint("Add line ", i, at)] = func(name string) result { return result{s.Add(name, lines), nil} }
		}
		long := append(make([]api.Line, 2500), l)
		all[fmt.Sprint("Macro behind too many ", i)] = func(name string) result { return result{s.Macro(name, long), nil} }
		all[fmt.Sprint("Add behind too many ", i)] = func(name string) result { return result{s.Add(name, long), nil} }
	}
	return all
}

func text(texts ...string) []api.Line {
	var lines []api.Line
	for _, t := range texts {
		lines = append(lines, api.Line{Text: t})
	}
	return lines
}

// told checks that there is that error, and that all else is the zero value.
func told(t *testing.T, what string, r result, err api.Errno) {
	t.Helper()
	lines, _ := r.with.([]api.Line)
	zero := r.with == nil || r.with == 0 || r.with == "" || fmt.Sprintf("%T", r.with) == "[]api.Line" && len(lines) == 0
	if r.err != err || !zero {
		t.Errorf("%.60s: %d, %v; want error %d", what, r.err, r.with, err)
	}
}

// seen is all that can be seen of a store, but for which names have one entry.
func seen(s *Store) map[string]string {
	all := map[string]string{}
	for _, name := range s.Names() {
		x, e1 := s.Text(name)
		l, e2 := s.Lines(name)
		n, e3 := s.Length(name)
		all[name] = strings.TrimSpace(fmt.Sprintln(s.Kind(name), x, e1, l, e2, n, e3))
	}
	return all
}

// together tells which names have one entry with a name: what is done to it is done to them.
func together(s *Store, name string) []string {
	k := s.Copy()
	k.Define(name, "marked by together")
	var names []string
	for _, other := range k.Names() {
		if x, _ := k.Text(other); x == "marked by together" {
			names = append(names, other)
		}
	}
	return names
}

func checkTogether(t *testing.T, s *Store, names ...string) {
	t.Helper()
	for _, name := range names {
		if all := together(s, name); !slices.Equal(all, names) {
			t.Errorf("%s: names of its entry %q; want %q", name, all, names)
		}
	}
}

// a and b are one string, m and n are one macro, e is empty.
func small() *Store {
	s := New()
	s.Define("a", "abc")
	s.Alias("b", "a")
	s.Macro("m", []api.Line{{Text: "x"}, {Made: true, Up: 5, Down: 6, Boxes: []api.Box{{Width: 7, N: []int{8, 9}}}}, {Text: ""}})
	s.Alias("n", "m")
	s.Macro("e", nil)
	return s
}

func full() *Store {
	s := small()
	for i := len(s.Names()); i < 500; i++ {
		s.Define(fmt.Sprint("n", i), fmt.Sprint(i))
	}
	return s
}

func checkNames(t *testing.T, s *Store, want ...string) {
	t.Helper()
	if names := s.Names(); !slices.Equal(names, want) {
		t.Errorf("names %q; want %q", names, want)
	}
}

func checkText(t *testing.T, s *Store, name, want string) {
	t.Helper()
	x, err := s.Text(name)
	n, e2 := s.Length(name)
	l, e3 := s.Lines(name)
	if x != want || err != api.OK || n != len(want) || e2 != api.OK || s.Kind(name) != 1 || len(l) != 1 || fmt.Sprint(l[0]) != fmt.Sprint(api.Line{Text: want}) || e3 != api.OK {
		t.Errorf("%s: %.40q %d, %d %d, %v %d, kind %d; want %.40q", name, x, err, n, e2, l, e3, s.Kind(name), want)
	}
}

func checkLines(t *testing.T, s *Store, name string, want []api.Line) {
	t.Helper()
	x, err := s.Text(name)
	n, e2 := s.Length(name)
	l, e3 := s.Lines(name)
	if x != "" || err != api.ErrName || n != len(want) || e2 != api.OK || s.Kind(name) != 2 || fmt.Sprint(l) != fmt.Sprint(want) || e3 != api.OK {
		t.Errorf("%s: %.40q %d, %d %d, %v %d, kind %d; want %v", name, x, err, n, e2, l, e3, s.Kind(name), want)
	}
}

// P3.1: a nil store, and a zero one, are told before all else that is wrong; what tells no error returns nothing.
func TestErrArgIsFirst(t *testing.T) {
	for _, s := range []*Store{nil, {}, new(Store)} {
		for _, name := range append([]string{"a", "m", "q"}, badNames...) {
			for what, call := range calls(s) {
				told(t, what+" "+name, call(name), api.ErrArg)
			}
			told(t, "Define", result{s.Define(name, "a\nb"), nil}, api.ErrArg)
			told(t, "Macro", result{s.Macro(name, make([]api.Line, 2001)), nil}, api.ErrArg)
			if s.Kind(name) != 0 {
				t.Errorf("Kind(%.40q)", name)
			}
		}
		if len(s.Names()) != 0 || s.Copy() != nil {
			t.Error(s.Names(), s.Copy())
		}
	}
}

// P3.1: texts and lines that cannot be are told before names, limits and a full store; and nothing is changed (R4).
func TestErrArgOfTextsAndLines(t *testing.T) {
	for _, s := range []*Store{New(), small(), full()} {
		before := seen(s)
		for what, call := range badCalls(s) {
			for _, name := range []string{"a", "m", "q", "", "]", strings.Repeat("a", 21)} {
				told(t, what+" "+name, call(name), api.ErrArg)
			}
		}
		if !maps.Equal(seen(s), before) {
			t.Error("changed", seen(s), before)
		}
	}
}

// P3.1: a name that cannot be is told next, before a loop and before too much; and nothing is changed (R4).
func TestErrNameIsNext(t *testing.T) {
	for _, s := range []*Store{New(), small(), full()} {
		before := seen(s)
		for _, name := range badNames {
			for what, call := range calls(s) {
				told(t, what+" "+name, call(name), api.ErrName)
			}
			told(t, "Macro", result{s.Macro(name, make([]api.Line, 2001)), nil}, api.ErrName)
			told(t, "Add", result{s.Add(name, make([]api.Line, 2001)), nil}, api.ErrName)
			told(t, "Part", result{s.Part(name, math.MinInt, math.MaxInt), nil}, api.ErrName)
			if s.Kind(name) != 0 {
				t.Errorf("Kind(%.40q)", name)
			}
		}
		if !maps.Equal(seen(s), before) {
			t.Error("changed", seen(s), before)
		}
	}
}

// P3.1: names that are not there.
func TestErrNameOfWhatIsNotThere(t *testing.T) {
	for _, s := range []*Store{New(), small(), full()} {
		before := seen(s)
		for _, what := range []string{"Text", "Lines", "Rename from", "Rename", "Alias old", "Alias", "Chop", "Part", "Length"} {
			told(t, what, calls(s)[what]("q"), api.ErrName)
		}
		told(t, "Remove", calls(s)["Remove"]("q"), api.OK)
		told(t, "Alias", result{s.Alias("r", "q"), nil}, api.ErrName)
		if s.Kind("q") != 0 || !maps.Equal(seen(s), before) {
			t.Error("changed", seen(s), before)
		}
	}
}

// P3.1: too much is told before a full store; and nothing is changed (R4).
func TestErrLimit(t *testing.T) {
	for _, s := range []*Store{New(), small(), full()} {
		s.Define("a", strings.Repeat("x", 1990))
		s.Macro("m", make([]api.Line, 1990))
		before := seen(s)
		told(t, "Append", result{s.Append("a", strings.Repeat("y", 11)), nil}, api.ErrLimit)
		told(t, "Append", result{s.Append("a", strings.Repeat("y", 2000)), nil}, api.ErrLimit)
		told(t, "Add", result{s.Add("m", make([]api.Line, 11)), nil}, api.ErrLimit)
		told(t, "Add", result{s.Add("m", make([]api.Line, 2000)), nil}, api.ErrLimit)
		for _, name := range []string{"a", "m", "q"} {
			told(t, "Macro", result{s.Macro(name, make([]api.Line, 2001)), nil}, api.ErrLimit)
			told(t, "Add", result{s.Add(name, make([]api.Line, 2001)), nil}, api.ErrLimit)
		}
		if !maps.Equal(seen(s), before) {
			t.Error("changed")
		}
	}
}

// P3.2: up to the limits there is room, and an entry of another kind does not count.
func TestUpToTheLimits(t *testing.T) {
	s := New()
	x, y := strings.Repeat("x", 2000), strings.Repeat("y", 2000)
	told(t, "Define", result{s.Define("a", x), nil}, api.OK)
	told(t, "Append nothing", result{s.Append("a", ""), nil}, api.OK)
	told(t, "Append", result{s.Append("a", "z"), nil}, api.ErrLimit)
	checkText(t, s, "a", x)
	told(t, "Append to none", result{s.Append("q", x), nil}, api.OK)
	checkText(t, s, "q", x)
	told(t, "Macro", result{s.Macro("m", make([]api.Line, 2000)), nil}, api.OK)
	told(t, "Add nothing", result{s.Add("m", nil), nil}, api.OK)
	told(t, "Add", result{s.Add("m", make([]api.Line, 1)), nil}, api.ErrLimit)
	checkLines(t, s, "m", make([]api.Line, 2000))
	told(t, "Append to a macro", result{s.Append("m", y), nil}, api.OK)
	checkText(t, s, "m", y)
	told(t, "Add to a string", result{s.Add("a", make([]api.Line, 2000)), nil}, api.OK)
	checkLines(t, s, "a", make([]api.Line, 2000))
	told(t, "Chop", result{s.Chop("a"), nil}, api.OK)
	told(t, "Add", result{s.Add("a", text("z")), nil}, api.OK)
	told(t, "Chop", result{s.Chop("m"), nil}, api.OK)
	told(t, "Append", result{s.Append("m", "z"), nil}, api.OK)
	checkText(t, s, "m", y[1:]+"z")
}

// P3.1 and P3.2: 500 names are the most; names of one entry count each.
func TestErrFull(t *testing.T) {
	s := full()
	if len(s.Names()) != 500 {
		t.Fatal(len(s.Names()))
	}
	before := seen(s)
	for _, k := range []*Store{s, s.Copy()} {
		for _, what := range []string{"Define", "Append", "Macro", "Add", "Alias fresh"} {
			told(t, what, calls(k)[what]("q"), api.ErrFull)
		}
	}
	if !maps.Equal(seen(s), before) {
		t.Error("changed")
	}
	told(t, "Alias of a name to itself", result{s.Alias("a", "a"), nil}, api.ErrLoop)
	for _, what := range []string{"Define", "Append", "Macro", "Add", "Alias fresh"} {
		told(t, what, calls(s)[what]("n499"), api.OK)
	}
	told(t, "Rename", result{s.Rename("n499", "q"), nil}, api.OK)
	told(t, "Define", result{s.Define("n499", ""), nil}, api.ErrFull)
	told(t, "Remove", result{s.Remove("b"), nil}, api.OK)
	told(t, "Alias", result{s.Alias("r", "a"), nil}, api.OK)
	told(t, "Alias", result{s.Alias("n499", "a"), nil}, api.ErrFull)
	told(t, "Rename", result{s.Rename("r", "a"), nil}, api.OK)
	told(t, "Define", result{s.Define("n499", ""), nil}, api.OK)
	told(t, "Define", result{s.Define("b", ""), nil}, api.ErrFull)
}

func TestNamesThatCanBe(t *testing.T) {
	s, want := New(), []string{}
	for c := byte(33); c <= 126; c++ {
		if c != ']' {
			want = append(want, string(rune(c)))
		}
	}
	want = append(want, "12", "B", "[", "\\", "aa", "ab", "x.y", strings.Repeat("b", 20), strings.Repeat("~", 20))
	for _, name := range want {
		told(t, name, result{s.Define(name, name), nil}, api.OK)
		checkText(t, s, name, name)
	}
	slices.Sort(want)
	checkNames(t, s, slices.Compact(want)...)
}

// P3.2: names ascend byte by byte, and are new memory.
func TestNames(t *testing.T) {
	s := New()
	checkNames(t, s)
	for _, name := range []string{"b", "ab", "B", "a", "10", "9", "aa", ".s", "~", "!"} {
		told(t, name, result{s.Macro(name, nil), nil}, api.OK)
	}
	names := s.Names()
	checkNames(t, s, "!", ".s", "10", "9", "B", "a", "aa", "ab", "b", "~")
	names[0] = "changed"
	checkNames(t, s, "!", ".s", "10", "9", "B", "a", "aa", "ab", "b", "~")
}

// P3.2: strings, made in the place of whatever is there.
func TestDefineAndAppend(t *testing.T) {
	for _, x := range []string{"", "a", "abcde", " \t\r\x00\xff]", strings.Repeat("é", 1000)} {
		for _, name := range []string{"a", "b", "m", "e", "q"} {
			s := small()
			told(t, "Define", result{s.Define(name, x), nil}, api.OK)
			checkText(t, s, name, x)
			s = small()
			s.Macro("a", nil)
			told(t, "Append", result{s.Append(name, x), nil}, api.OK)
			checkText(t, s, name, x)
		}
	}
	s := small()
	told(t, "Append", result{s.Append("a", "de"), nil}, api.OK)
	checkText(t, s, "a", "abcde")
	told(t, "Append", result{s.Append("a", ""), nil}, api.OK)
	checkText(t, s, "a", "abcde")
	checkNames(t, s, "a", "b", "e", "m", "n")
}

// P3.2: macros, made in the place of whatever is there.
func TestMacroAndAdd(t *testing.T) {
	for _, lines := range [][]api.Line{nil, {}, goodLines, text("x"), goodLines[5:]} {
		for _, name := range []string{"a", "b", "m", "e", "q"} {
			s := small()
			told(t, "Macro", result{s.Macro(name, lines), nil}, api.OK)
			checkLines(t, s, name, lines)
			s = small()
			first := []api.Line{}
			if s.Kind(name) == 2 {
				first, _ = s.Lines(name)
			}
			told(t, "Add", result{s.Add(name, lines), nil}, api.OK)
			checkLines(t, s, name, append(first, lines...))
			told(t, "Add", result{s.Add(name, text("z")), nil}, api.OK)
			checkLines(t, s, name, append(append(first, lines...), text("z")...))
		}
	}
	for i, l := range goodLines {
		s := New()
		told(t, fmt.Sprint("line ", i), result{s.Add("m", []api.Line{l}), nil}, api.OK)
		checkLines(t, s, "m", []api.Line{l})
	}
}

func TestKind(t *testing.T) {
	s := small()
	for name, want := range map[string]int{"a": 1, "b": 1, "m": 2, "n": 2, "e": 2, "q": 0, "": 0, "]": 0} {
		if k := s.Kind(name); k != want {
			t.Error(name, k, want)
		}
	}
	told(t, "Text of a macro", calls(s)["Text"]("m"), api.ErrName)
	told(t, "Text of an empty macro", calls(s)["Text"]("e"), api.ErrName)
	if l, err := s.Lines("e"); len(l) != 0 || err != api.OK {
		t.Error(l, err)
	}
}

// R5: lines are neither kept nor given out, as deep as they go.
func TestLinesAreCopied(t *testing.T) {
	fresh := func() []api.Line {
		return []api.Line{{Text: "x"}, {Made: true, Up: 1, Boxes: []api.Box{{Width: 2, N: []int{3, 4}}, {Name: "a"}}}}
	}
	spoil := func(lines []api.Line) {
		lines[1].Boxes[0].N[1] = 99
		lines[1].Boxes[1].Name = "changed"
		lines[0].Text = "changed"
	}
	for what, put := range map[string]func(s *Store, lines []api.Line) api.Errno{
		"Macro":       func(s *Store, lines []api.Line) api.Errno { return s.Macro("m", lines) },
		"Add to none": func(s *Store, lines []api.Line) api.Errno { return s.Add("m", lines) },
		"Add":         func(s *Store, lines []api.Line) api.Errno { s.Macro("m", nil); return s.Add("m", lines) },
	} {
		s, lines := New(), fresh()
		told(t, what, result{put(s, lines), nil}, api.OK)
		k := s.Copy()
		spoil(lines)
		checkLines(t, s, "m", fresh())
		out, _ := s.Lines("m")
		spoil(out)
		checkLines(t, s, "m", fresh())
		checkLines(t, k, "m", fresh())
		out, _ = s.Lines("m")
		_ = append(out[:1], text("grown")...)
		checkLines(t, s, "m", fresh())
	}
}

// R5: lists are read up to their length alone, and an argument's room behind it is left as it is.
func TestLinesBehindTheLength(t *testing.T) {
	list := append(text("x", "y"), badLines[0], api.Line{Text: "z"})
	s := New()
	told(t, "Macro", result{s.Macro("m", list[:1]), nil}, api.OK)
	told(t, "Add", result{s.Add("m", list[1:2]), nil}, api.OK)
	told(t, "Add", result{s.Add("m", text("w")), nil}, api.OK)
	checkLines(t, s, "m", text("x", "y", "w"))
	if fmt.Sprint(list) != fmt.Sprint(append(text("x", "y"), badLines[0], api.Line{Text: "z"})) {
		t.Error(list)
	}
}

// P3.3: what is done to the one name is done to the other.
func TestAliasSharesAll(t *testing.T) {
	for what, change := range map[string]func(s *Store, name string) api.Errno{
		"Define": func(s *Store, name string) api.Errno { return s.Define(name, "new") },
		"Append": func(s *Store, name string) api.Errno { return s.Append(name, "new") },
		"Macro":  func(s *Store, name string) api.Errno { return s.Macro(name, text("new")) },
		"Add":    func(s *Store, name string) api.Errno { return s.Add(name, text("new")) },
		"Chop":   func(s *Store, name string) api.Errno { return s.Chop(name) },
		"Part":   func(s *Store, name string) api.Errno { return s.Part(name, 1, 1) },
	} {
		for _, pair := range [][]string{{"a", "b"}, {"b", "a"}, {"m", "n"}, {"n", "m"}} {
			s := small()
			before := seen(s)
			told(t, what, result{change(s, pair[0]), nil}, api.OK)
			all := seen(s)
			if all[pair[0]] != all[pair[1]] || all[pair[0]] == before[pair[0]] {
				t.Error(what, pair, all, before)
			}
			slices.Sort(pair)
			checkTogether(t, s, pair...)
		}
	}
}

func TestAlias(t *testing.T) {
	s := small()
	checkTogether(t, s, "a", "b")
	checkTogether(t, s, "m", "n")
	told(t, "of an alias", result{s.Alias("c", "b"), nil}, api.OK)
	checkTogether(t, s, "a", "b", "c")
	told(t, "that it is", result{s.Alias("a", "c"), nil}, api.OK)
	told(t, "that it is", result{s.Alias("c", "a"), nil}, api.OK)
	checkTogether(t, s, "a", "b", "c")
	checkText(t, s, "a", "abc")
	told(t, "in the place of another", result{s.Alias("m", "a"), nil}, api.OK)
	checkTogether(t, s, "a", "b", "c", "m")
	checkTogether(t, s, "n")
	if s.Kind("n") != 2 {
		t.Error("the other name has lost its entry")
	}
	told(t, "with its last name", result{s.Alias("n", "m"), nil}, api.OK)
	checkTogether(t, s, "a", "b", "c", "m", "n")
	checkTogether(t, s, "e")
	for _, name := range []string{"a", "n", "e"} {
		told(t, "of itself", result{s.Alias(name, name), nil}, api.ErrLoop)
	}
	told(t, "of itself, not there", result{s.Alias("q", "q"), nil}, api.ErrName)
	told(t, "of none, in the place of another", result{s.Alias("a", "q"), nil}, api.ErrName)
	checkNames(t, s, "a", "b", "c", "e", "m", "n")
	checkTogether(t, s, "a", "b", "c", "m", "n")
}

func TestRemove(t *testing.T) {
	s := small()
	told(t, "Remove", result{s.Remove("a"), nil}, api.OK)
	told(t, "Remove again", result{s.Remove("a"), nil}, api.OK)
	checkNames(t, s, "b", "e", "m", "n")
	checkText(t, s, "b", "abc")
	told(t, "Define anew", result{s.Define("a", "x"), nil}, api.OK)
	checkText(t, s, "b", "abc")
	checkTogether(t, s, "a")
	checkTogether(t, s, "b")
	for _, name := range []string{"n", "m", "e", "b", "a"} {
		told(t, name, result{s.Remove(name), nil}, api.OK)
		if s.Kind(name) != 0 {
			t.Error(name)
		}
	}
	checkNames(t, s)
}

// P3.3: a rename moves one name, and no more.
func TestRename(t *testing.T) {
	s := small()
	told(t, "to a new name", result{s.Rename("a", "z"), nil}, api.OK)
	checkNames(t, s, "b", "e", "m", "n", "z")
	checkTogether(t, s, "b", "z")
	checkText(t, s, "z", "abc")
	told(t, "anew", result{s.Define("a", "x"), nil}, api.OK)
	checkTogether(t, s, "a")
	checkText(t, s, "b", "abc")
	told(t, "to a name of another", result{s.Rename("z", "m"), nil}, api.OK)
	checkTogether(t, s, "b", "m")
	checkTogether(t, s, "n")
	told(t, "to another name of it", result{s.Rename("m", "b"), nil}, api.OK)
	checkNames(t, s, "a", "b", "e", "n")
	checkText(t, s, "b", "abc")
	told(t, "to itself", result{s.Rename("b", "b"), nil}, api.OK)
	checkNames(t, s, "a", "b", "e", "n")
	checkText(t, s, "b", "abc")
	for _, pair := range [][2]string{{"q", "a"}, {"q", "r"}, {"q", "q"}, {"a", "]"}, {"]", "a"}, {"]", "]"}, {"a", ""}, {"a", strings.Repeat("a", 21)}} {
		told(t, strings.Join(pair[:], " to "), result{s.Rename(pair[0], pair[1]), nil}, api.ErrName)
		checkNames(t, s, "a", "b", "e", "n")
		checkText(t, s, "a", "x")
	}
}

func TestChop(t *testing.T) {
	s := New()
	s.Define("a", "aé\n"[:3])
	for _, want := range []string{"a\xc3", "a", "", "", ""} {
		told(t, "Chop", result{s.Chop("a"), nil}, api.OK)
		checkText(t, s, "a", want)
	}
	s.Macro("m", goodLines)
	for i := len(goodLines) - 1; i > -3; i-- {
		told(t, "Chop", result{s.Chop("m"), nil}, api.OK)
		checkLines(t, s, "m", goodLines[:max(i, 0)])
	}
	told(t, "Add", result{s.Add("m", text("x")), nil}, api.OK)
	checkLines(t, s, "m", text("x"))
}

// P3.3: the examples of the chapter, and the greatest numbers there are.
func TestPart(t *testing.T) {
	for _, k := range []struct {
		from, to int
		want     string
	}{
		{1, -2, "bcd"}, {0, 0, "a"}, {0, -1, "abcde"}, {-1, 0, "abcde"}, {-1, -1, "e"}, {4, 4, "e"}, {3, 1, "bcd"}, {-2, 1, "bcd"}, {-4, -2, "bcd"}, {-2, -4, "bcd"}, {2, 2, "c"}, {-3, 2, "c"},
		{3, 9, "de"}, {9, 3, "de"}, {-9, 1, "ab"}, {1, -9, "ab"}, {-9, -4, "ab"}, {-9, 9, "abcde"}, {9, -9, "abcde"}, {5, 9, ""}, {9, 5, ""}, {5, 5, ""}, {-6, -6, ""}, {-9, -6, ""}, {-5, -5, "a"}, {5, -1, "e"}, {-6, 0, "a"},
		{math.MinInt, math.MaxInt, "abcde"}, {math.MaxInt, math.MinInt, "abcde"}, {math.MaxInt, math.MaxInt, ""}, {math.MinInt, math.MinInt, ""}, {2, math.MaxInt, "cde"}, {math.MinInt, 2, "abc"}, {math.MaxInt, -1, "e"}, {math.MinInt, -5, "a"},
	} {
		s := New()
		s.Define("a", "abcde")
		s.Macro("m", text(strings.Split("abcde", "")...))
		told(t, "Part", result{s.Part("a", k.from, k.to), nil}, api.OK)
		checkText(t, s, "a", k.want)
		told(t, "Part", result{s.Part("m", k.from, k.to), nil}, api.OK)
		checkLines(t, s, "m", text(strings.Split(k.want, "")...))
		told(t, "Add", result{s.Add("m", text("x")), nil}, api.OK)
		checkLines(t, s, "m", text(strings.Split(k.want+"x", "")...))
	}
	s := small()
	s.Define("a", "")
	for _, n := range []int{math.MinInt, -1, 0, 1, math.MaxInt} {
		told(t, "Part of nothing", result{s.Part("a", n, -n), nil}, api.OK)
		told(t, "Part of nothing", result{s.Part("e", n, 0), nil}, api.OK)
	}
	checkText(t, s, "b", "")
	checkLines(t, s, "e", nil)
}

// P3.4: Append of parts is Define of the whole; so is Add of parts.
func TestPartsAreTheWhole(t *testing.T) {
	whole := strings.Repeat("abcdefghij", 3)
	for i := range len(whole) + 1 {
		for k := i; k <= len(whole); k++ {
			one, two := New(), New()
			one.Define("a", whole)
			one.Macro("m", text(strings.Split(whole, "")...))
			for _, part := range []string{whole[:i], whole[i:k], whole[k:]} {
				told(t, "Append", result{two.Append("a", part), nil}, api.OK)
				told(t, "Add", result{two.Add("m", text(strings.Split(part, "")...)), nil}, api.OK)
			}
			if !maps.Equal(seen(one), seen(two)) {
				t.Fatal(i, k, seen(two))
			}
		}
	}
}

// P3.4: a copy is apart, in both directions, and its names are together as they were.
func TestCopyIsApart(t *testing.T) {
	change := func(s *Store) {
		s.Append("a", "d")
		s.Add("m", text("w"))
		s.Chop("n")
		s.Part("n", 1, 1)
		s.Add("n", text("v", "u"))
		s.Rename("b", "z")
		s.Define("new", "x")
		s.Remove("e")
	}
	for _, first := range []func(s, k *Store) (changed, other *Store){func(s, k *Store) (*Store, *Store) { return s, k }, func(s, k *Store) (*Store, *Store) { return k, s }} {
		s := small()
		s.Chop("m")
		before := seen(s)
		changed, other := first(s, s.Copy())
		if !maps.Equal(seen(changed), before) || !maps.Equal(seen(other), before) {
			t.Error("not the same", seen(changed), seen(other))
		}
		change(changed)
		if !maps.Equal(seen(other), before) || maps.Equal(seen(changed), before) {
			t.Error("not apart", seen(changed), seen(other))
		}
		for _, k := range []*Store{other, other.Copy()} {
			k.Define("a", "x")
			checkText(t, k, "b", "x")
			k.Add("n", text("t"))
			if !maps.Equal(map[string]string{"m": seen(k)["m"]}, map[string]string{"m": seen(k)["n"]}) {
				t.Error("aliases do not hold in a copy")
			}
		}
		if x, _ := changed.Text("a"); x != "abcd" {
			t.Error(x)
		}
	}
	s := New()
	s.Macro("m", text("x", "y", "z"))
	s.Chop("m")
	k := s.Copy()
	told(t, "Add", result{s.Add("m", text("s")), nil}, api.OK)
	told(t, "Add", result{k.Add("m", text("k")), nil}, api.OK)
	checkLines(t, s, "m", text("x", "y", "s"))
	checkLines(t, k, "m", text("x", "y", "k"))
	if k := New().Copy(); k == nil || len(k.Names()) != 0 || k.Define("x", "") != api.OK {
		t.Error("a copy of an empty store is none")
	}
}
