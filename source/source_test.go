package source

import (
	"fmt"
	"math"
	"slices"
	"strings"
	"testing"

	"frisket/api"
)

var badNames = []string{"", strings.Repeat("a", 101), strings.Repeat("é", 51), strings.Repeat("a", 1000000)}

var goodNames = []string{"a", " ", "]", "\n", "\x00", "\xff", "a b/c.d", strings.Repeat("a", 21), strings.Repeat("a", 100), strings.Repeat("é", 50)}

var badLines = []api.Line{
	{Text: "\n"}, {Text: "a\n"}, {Text: strings.Repeat("a", 2001)}, {Text: "a", Up: 1}, {Text: "a", Down: -1}, {Text: "a", Boxes: make([]api.Box, 1)}, {Up: 1}, {Down: 1}, {Boxes: make([]api.Box, 1)},
	{Made: true, Text: "a"}, {Made: true, Up: 1000001}, {Made: true, Up: -1000001}, {Made: true, Down: 1000001}, {Made: true, Down: -1000001}, {Made: true, Up: math.MinInt}, {Made: true, Down: math.MaxInt},
	{Made: true, Boxes: make([]api.Box, 2001)},
}

var goodLines = []api.Line{
	{}, {Text: "a"}, {Text: " a\tb\r\x00\xff"}, {Text: strings.Repeat("é", 1000)}, {Made: true}, {Made: true, Up: 1000000, Down: -1000000}, {Made: true, Up: -1000000, Down: 1000000},
	{Made: true, Boxes: make([]api.Box, 2000)}, {Made: true, Up: 5, Boxes: []api.Box{{Kind: 77, Width: math.MinInt, Name: "a\n", N: []int{1, math.MaxInt}}, {Kind: -1, Size: -5, Colour: "]"}}},
}

// badTexts has files with a line that is too long, or with too many lines.
func badTexts() []string {
	long := strings.Repeat("a", 2001)
	return []string{
		long, long + "\n", "a\n" + long, "a\n" + long + "\nb", "\n" + long + "\n\n", strings.Repeat("a", 100000), strings.Repeat("\n", 20000) + "a", strings.Repeat("\n", 20001), strings.Repeat("a\n", 20001), strings.Repeat("a\n", 30000) + long,
	}
}

func goodTexts() []string {
	long := strings.Repeat("a", 2000)
	return []string{"", "\n", "a", "a\n", long, long + "\n" + long, strings.Repeat("\n", 20000), strings.Repeat("a\n", 19999) + "a", strings.Repeat("a\n", 20000), "\r\n\x00\xff\n"}
}

func text(texts ...string) []api.Line {
	var lines []api.Line
	for _, t := range texts {
		lines = append(lines, api.Line{Text: t})
	}
	return lines
}

// calls has each call that puts something on top, or in the place of a file, with what is good.
func calls(s *Stack) map[string]func() api.Errno {
	return map[string]func() api.Errno{
		"File":    func() api.Errno { return s.File("new", "1\n2\n") },
		"Macro":   func() api.Errno { return s.Macro("new", text("1", "2"), []string{"3"}) },
		"Wait":    func() api.Errno { return s.Wait(text("1", "2")) },
		"Instead": func() api.Errno { return s.Instead("new", "1\n2\n") },
	}
}

// badCalls has calls with a name, a text, lines or a number that cannot be.
func badCalls(s *Stack) map[string]func() api.Errno {
	all := map[string]func() api.Errno{}
	for i, name := range badNames {
		all[fmt.Sprint("File name ", i)] = func() api.Errno { return s.File(name, "a") }
		all[fmt.Sprint("Macro name ", i)] = func() api.Errno { return s.Macro(name, text("a"), nil) }
		all[fmt.Sprint("Instead name ", i)] = func() api.Errno { return s.Instead(name, "a") }
	}
	for i, x := range badTexts() {
		all[fmt.Sprint("File text ", i)] = func() api.Errno { return s.File("f", x) }
		all[fmt.Sprint("Instead text ", i)] = func() api.Errno { return s.Instead("f", x) }
	}
	for i, l := range badLines {
		for at := range 3 {
			lines := slices.Insert(text("x", "y"), at, l)
			all[fmt.Sprint("Macro line ", i, at)] = func() api.Errno { return s.Macro("m", lines, nil) }
			all[fmt.Sprint("Wait line ", i, at)] = func() api.Errno { return s.Wait(lines) }
		}
		// Above the lines of an entry each line is looked at, too.
		long := append(make([]api.Line, 2500), l)
		all[fmt.Sprint("Macro last line ", i)] = func() api.Errno { return s.Macro("m", long, nil) }
		all[fmt.Sprint("Wait last line ", i)] = func() api.Errno { return s.Wait(long) }
	}
	for _, n := range []int{20001, 30000} {
		all[fmt.Sprint("Macro lines ", n)] = func() api.Errno { return s.Macro("m", make([]api.Line, n), nil) }
		all[fmt.Sprint("Wait lines ", n)] = func() api.Errno { return s.Wait(make([]api.Line, n)) }
	}
	for _, n := range []int{-1, 101, -100, 1000, math.MinInt, math.MaxInt} {
		all[fmt.Sprint("Shift ", n)] = func() api.Errno { return s.Shift(n) }
	}
	return all
}

// small has all kinds of frames, some of them read in part, one at its end.
func small() *Stack {
	s := New()
	s.File("f", "f1\nf2\nf3\n")
	s.Next()
	s.Macro("m", []api.Line{{Text: "m1"}, {Made: true, Up: 5, Down: 6, Boxes: []api.Box{{Width: 7, N: []int{8, 9}}}}}, []string{"x", "y"})
	s.Next()
	s.File("g", "g1")
	s.Macro("n", nil, []string{"z"})
	s.Wait(text("w"))
	return s
}

// stackOf has that many macros.
func stackOf(n int) *Stack {
	s := New()
	for i := range n {
		s.Macro(fmt.Sprint("m", i), text("x"), nil)
	}
	return s
}

func state(s *Stack) string {
	l, err := s.Peek()
	return fmt.Sprintf("%d frames, name %q, line %d, args %q, next %+v %d", s.Depth(), s.Name(), s.Line(), s.Args(), l, err)
}

// seen is all that can be seen of a stack: what it tells, how it is read, what is below each macro.
func seen(s *Stack) string {
	all := []string{state(s)}
	for k := s.Copy(); k.Depth() > 0; {
		l, err := k.Next()
		all = append(all, fmt.Sprint(l, err), state(k))
	}
	for k := s.Copy(); k.Return(false) == api.OK; {
		all = append(all, state(k))
	}
	return strings.Join(all, "\n")
}

// A want is what a stack is to tell.
type want struct {
	depth int
	name  string
	line  int
	args  []string
	next  string // empty: there is none; made: it is made
}

func check(t *testing.T, s *Stack, w want) {
	t.Helper()
	l, err := s.Peek()
	peeked := err == api.OK && l.Text == w.next && !l.Made
	if w.next == "" {
		peeked = err == api.ErrNone && fmt.Sprint(l) == fmt.Sprint(api.Line{})
	} else if w.next == "made" {
		peeked = err == api.OK && l.Made
	}
	if s.Depth() != w.depth || s.Name() != w.name || s.Line() != w.line || !slices.Equal(s.Args(), w.args) || !peeked {
		t.Errorf("%s; want %+v", state(s), w)
	}
}

// took checks that these are the next lines.
func took(t *testing.T, s *Stack, texts ...string) {
	t.Helper()
	for _, x := range texts {
		p, e1 := s.Peek()
		l, e2 := s.Next()
		if l.Text != x || e2 != api.OK || fmt.Sprint(p) != fmt.Sprint(l) || e1 != api.OK {
			t.Errorf("Next: %.40q %d, Peek %.40q %d; want %.40q", l.Text, e2, p.Text, e1, x)
		}
	}
}

// ended checks that there is no line any more, and that a Next then takes all frames away.
func ended(t *testing.T, s *Stack) {
	t.Helper()
	p, e1 := s.Peek()
	l, e2 := s.Next()
	if e1 != api.ErrNone || e2 != api.ErrNone || fmt.Sprint(p, l) != fmt.Sprint(api.Line{}, api.Line{}) {
		t.Errorf("at the end: Peek %v %d, Next %v %d", p, e1, l, e2)
	}
	check(t, s, want{})
}

func did(t *testing.T, err, want api.Errno) {
	t.Helper()
	if err != want {
		t.Errorf("error %d; want %d", err, want)
	}
}

// P5.1, R7: a nil stack, and a zero one, are told before all else that is wrong; what tells no error returns nothing.
func TestErrArgOfNil(t *testing.T) {
	for _, s := range []*Stack{nil, {}, new(Stack)} {
		all := calls(s)
		for what, call := range badCalls(s) {
			all[what] = call
		}
		all["Return"] = func() api.Errno { return s.Return(false) }
		all["Return all"] = func() api.Errno { return s.Return(true) }
		all["Shift"] = func() api.Errno { return s.Shift(1) }
		for what, call := range all {
			if err := call(); err != api.ErrArg {
				t.Errorf("%s of %v: %d", what, s, err)
			}
		}
		for _, read := range []func() (api.Line, api.Errno){s.Next, s.Peek} {
			if l, err := read(); err != api.ErrArg || fmt.Sprint(l) != fmt.Sprint(api.Line{}) {
				t.Error(l, err)
			}
		}
		if s.Args() != nil || s.Name() != "" || s.Line() != 0 || s.Depth() != 0 || s.Copy() != nil {
			t.Error(s.Args(), s.Name(), s.Line(), s.Depth(), s.Copy())
		}
	}
}

// P5.1, R4: what cannot be is told before what is not there (an empty stack) and before a full stack, and changes nothing.
func TestErrArgIsFirst(t *testing.T) {
	full := stackOf(49)
	full.Wait(text("w"))
	for _, s := range []*Stack{New(), small(), stackOf(50), full} {
		before := seen(s)
		for what, call := range badCalls(s) {
			if err := call(); err != api.ErrArg {
				t.Errorf("%s: %d", what, err)
			}
		}
		if after := seen(s); after != before {
			t.Errorf("before %s\nafter %s", before, after)
		}
	}
}

// P5.1, P5.2, R4: ErrState where there is no file or macro, ahead of a full stack; it changes nothing.
func TestErrState(t *testing.T) {
	macros, waits, files := stackOf(50), New(), New()
	waits.Wait(text("w"))
	for range 50 {
		files.File("f", "f1\nf2")
	}
	for _, s := range []*Stack{New(), macros, waits, stackOf(3)} {
		before := seen(s)
		did(t, s.Instead("f", "x"), api.ErrState)
		if after := seen(s); after != before {
			t.Errorf("before %s\nafter %s", before, after)
		}
	}
	for _, s := range []*Stack{New(), files, waits} {
		before := seen(s)
		for n := range 101 {
			did(t, s.Shift(n), api.ErrState)
		}
		did(t, s.Return(false), api.ErrState)
		did(t, s.Return(true), api.ErrState)
		if after := seen(s); after != before {
			t.Errorf("before %s\nafter %s", before, after)
		}
	}
}

// P5.2, P5.3, R4: the 51st frame is one too many, of all kinds, also where some are at their end; a file may be put in the place of another there.
func TestErrLimit(t *testing.T) {
	for i := range 50 {
		s := New()
		for j := range 50 {
			did(t, s.File("f", []string{"", "f1\nf2"}[j%2]), api.OK)
			if j == i {
				did(t, s.Instead("g", "g1\ng2"), api.OK)
			}
		}
		for range 2 {
			before := seen(s)
			for _, what := range []string{"File", "Macro", "Wait"} {
				did(t, calls(s)[what](), api.ErrLimit)
			}
			if after := seen(s); after != before {
				t.Errorf("before %s\nafter %s", before, after)
			}
			did(t, s.Instead("new", ""), api.OK)
			if s.Depth() != 50 || s.Name() != "new" {
				t.Error(state(s))
			}
		}
	}
}

// P5.2: frames at their end count for the limit, but for those that waited on the top; the next line frees the others.
func TestLimitAndEnds(t *testing.T) {
	s := stackOf(49)
	did(t, s.Macro("m", nil, nil), api.OK)
	did(t, s.Wait(nil), api.ErrLimit)
	took(t, s, "x")
	check(t, s, want{49, "m48", 0, nil, "x"})
	did(t, s.Wait(nil), api.OK)
	check(t, s, want{50, "m48", 0, nil, "x"})
	for _, what := range []string{"File", "Macro", "Wait"} {
		k := s.Copy()
		did(t, calls(k)[what](), api.OK)
		did(t, k.Wait(nil), api.ErrLimit)
		took(t, k, "1", "2")
		if err := calls(k)[what](); (what == "Wait") != (err == api.OK) || what != "Wait" && err != api.ErrLimit {
			t.Error(what, "behind its end", err)
		}
	}
	took(t, s, "x")
	check(t, s, want{48, "m47", 0, nil, "x"})
}

// P5.1, P5.2: names of up to 100 bytes are good, whatever they are, and are told.
func TestGoodNames(t *testing.T) {
	for _, name := range goodNames {
		s := New()
		did(t, s.Macro(name, nil, nil), api.OK)
		check(t, s, want{1, name, 0, nil, ""})
		did(t, s.File(name, "a"), api.OK)
		check(t, s, want{2, name, 0, nil, "a"})
		did(t, s.File("other", "a"), api.OK)
		did(t, s.Instead(name, "b"), api.OK)
		check(t, s, want{3, name, 0, nil, "b"})
	}
}

// P5.1, P5.2: lines as in layer 3 are good, and come as they are; also more of them than an entry of a store has.
func TestGoodLines(t *testing.T) {
	long := slices.Repeat(goodLines, 300)[:2500]
	for _, lines := range [][]api.Line{nil, {}, goodLines, long} {
		macro, wait := New(), New()
		did(t, macro.Macro("m", lines, nil), api.OK)
		did(t, wait.Wait(lines), api.OK)
		for _, s := range []*Stack{macro, wait} {
			for i, line := range lines {
				if l, err := s.Next(); err != api.OK || fmt.Sprint(l) != fmt.Sprint(line) {
					t.Errorf("line %d: %.80s %d", i, fmt.Sprint(l), err)
				}
			}
			ended(t, s)
		}
	}
	for _, n := range []int{2000, 2001, 19999, 20000} {
		s := New()
		did(t, s.Macro("m", make([]api.Line, n), nil), api.OK)
		did(t, s.Wait(make([]api.Line, n)), api.OK)
		for range 2 * n {
			took(t, s, "")
		}
		ended(t, s)
	}
}

// P5.1, P5.2: a file has up to 20000 lines of up to 2000 bytes, and gives them all.
func TestGoodTexts(t *testing.T) {
	for _, x := range goodTexts() {
		s := New()
		did(t, s.File("f", x), api.OK)
		did(t, s.File("g", "a"), api.OK)
		did(t, s.Instead("h", x), api.OK)
		lines := Lines(x)
		took(t, s, lines...)
		if s.Line() != len(lines) {
			t.Error("Line", s.Line(), len(lines))
		}
		if s.Depth() != 2 || len(lines) > 0 && s.Name() != "h" {
			t.Error(state(s))
		}
		took(t, s, lines...)
		ended(t, s)
	}
}

// P5.2, and the chapter's example: the topmost is read, what is below goes on where it was.
func TestExample(t *testing.T) {
	s := New()
	did(t, s.File("f", "one\ntwo"), api.OK)
	took(t, s, "one")
	did(t, s.Macro("m", text("a"), nil), api.OK)
	took(t, s, "a", "two")
	ended(t, s)
	ended(t, s)
	did(t, s.Wait(text("b")), api.OK)
	took(t, s, "b")
	ended(t, s)
}

// P5.2: a frame at its end is there until the next line is asked for; Peek passes it by and leaves it.
func TestFramesAtTheirEnd(t *testing.T) {
	s := New()
	s.File("f", "f1\nf2\n")
	took(t, s, "f1")
	s.File("g", "g1")
	s.Macro("m", text("m1"), []string{"x"})
	s.Macro("e", nil, []string{"y"})
	s.Wait(text("w"))
	check(t, s, want{5, "e", 0, []string{"y"}, "w"})
	took(t, s, "w")
	check(t, s, want{5, "e", 0, []string{"y"}, "m1"})
	check(t, s, want{5, "e", 0, []string{"y"}, "m1"})
	took(t, s, "m1")
	check(t, s, want{3, "m", 0, []string{"x"}, "g1"})
	took(t, s, "g1")
	check(t, s, want{2, "g", 1, nil, "f2"})
	took(t, s, "f2")
	check(t, s, want{1, "f", 2, nil, ""})
	check(t, s, want{1, "f", 2, nil, ""})
	ended(t, s)
}

// P5.2: a push takes away what waited on the top and is at its end, and nothing else that is at its end.
func TestPushOntoWhatWaited(t *testing.T) {
	for what := range calls(nil) {
		s := New()
		s.File("f", "f1")
		s.Macro("m", text("m1"), nil)
		s.File("g", "")
		s.Macro("e", nil, nil)
		s.Wait(text("u", "v"))
		took(t, s, "u")
		s.Wait(text("w"))
		check(t, s, want{6, "e", 0, nil, "w"})
		took(t, s, "w")
		check(t, s, want{6, "e", 0, nil, "v"})
		if what == "Instead" {
			did(t, calls(s)[what](), api.OK)
			check(t, s, want{3, "new", 0, nil, "1"})
			took(t, s, "1", "2", "m1", "f1")
			continue
		}
		did(t, calls(s)[what](), api.OK)
		if s.Depth() != 6 {
			t.Error(what, s.Depth())
		}
		took(t, s, "1", "2", "v")
		s.Wait(nil)
		if s.Depth() != 5 {
			t.Error(what, s.Depth())
		}
		s.Wait(nil)
		if s.Depth() != 5 {
			t.Error(what, s.Depth())
		}
		took(t, s, "m1", "f1")
		ended(t, s)
	}
}

// P5.2: without a line waiting is a frame, too.
func TestWaitForNothing(t *testing.T) {
	s := New()
	for _, none := range [][]api.Line{nil, {}} {
		did(t, s.Wait(none), api.OK)
		check(t, s, want{depth: 1})
	}
	did(t, s.File("f", ""), api.OK)
	check(t, s, want{1, "f", 0, nil, ""})
	did(t, s.Macro("m", nil, nil), api.OK)
	check(t, s, want{2, "m", 0, nil, ""})
	did(t, s.Wait(nil), api.OK)
	check(t, s, want{3, "m", 0, nil, ""})
	ended(t, s)
}

// P5.2: Return takes the topmost macro away, at its end or not, and all above it.
func TestReturn(t *testing.T) {
	s := small()
	check(t, s, want{5, "n", 0, []string{"z"}, "w"})
	did(t, s.Return(false), api.OK)
	check(t, s, want{3, "g", 0, []string{"x", "y"}, "g1"})
	took(t, s, "g1")
	check(t, s, want{3, "g", 1, []string{"x", "y"}, "made"})
	did(t, s.Return(false), api.OK)
	check(t, s, want{1, "f", 1, nil, "f2"})
	did(t, s.Return(false), api.ErrState)
	took(t, s, "f2", "f3")
	s.Macro("m", text("m1"), nil)
	took(t, s, "m1")
	did(t, s.Return(false), api.OK)
	check(t, s, want{1, "f", 3, nil, ""})
	ended(t, s)
}

// P5.2: Return of all takes every macro away, and all above the lowest; what is below stays.
func TestReturnAll(t *testing.T) {
	s := small()
	did(t, s.Return(true), api.OK)
	check(t, s, want{1, "f", 1, nil, "f2"})
	did(t, s.Return(true), api.ErrState)
	s.File("g", "g1\ng2")
	s.Wait(text("w"))
	s.Macro("e", nil, nil)
	s.File("h", "h1")
	s.Macro("k", text("k1"), nil)
	s.Wait(text("v"))
	took(t, s, "v", "k1")
	check(t, s, want{6, "k", 0, nil, "h1"})
	did(t, s.Return(true), api.OK)
	check(t, s, want{3, "g", 0, nil, "w"})
	took(t, s, "w", "g1", "g2", "f2", "f3")
	ended(t, s)
}

// P5.2: Instead takes the topmost file away, at its end or not, and all above it.
func TestInstead(t *testing.T) {
	s := small()
	did(t, s.Instead("h", "h1\nh2\n"), api.OK)
	check(t, s, want{3, "h", 0, []string{"x", "y"}, "h1"})
	took(t, s, "h1")
	check(t, s, want{3, "h", 1, []string{"x", "y"}, "h2"})
	took(t, s, "h2")
	check(t, s, want{3, "h", 2, []string{"x", "y"}, "made"})
	did(t, s.Instead("i", ""), api.OK)
	check(t, s, want{3, "i", 0, []string{"x", "y"}, "made"})
	s.Return(true)
	did(t, s.Instead("k", "k1"), api.OK)
	check(t, s, want{1, "k", 0, nil, "k1"})
	took(t, s, "k1")
	ended(t, s)
}

// P5.2: Args are any strings, any number, of the topmost macro; also where a file or waiting lines are above it.
func TestArgs(t *testing.T) {
	many := slices.Repeat([]string{"", "a b", "\n", "\x00\xff", "]", strings.Repeat("a", 3000)}, 100)
	for _, args := range [][]string{nil, {}, {""}, {"a"}, many} {
		s := New()
		s.Macro("m", text("m1"), []string{"other"})
		did(t, s.Macro("n", text("n1"), args), api.OK)
		check(t, s, want{2, "n", 0, args, "n1"})
		s.File("f", "f1")
		s.Wait(text("w"))
		check(t, s, want{4, "f", 0, args, "w"})
		took(t, s, "w", "f1", "n1")
		check(t, s, want{2, "n", 0, args, "m1"})
		took(t, s, "m1")
		check(t, s, want{1, "m", 0, []string{"other"}, ""})
	}
	s := New()
	s.File("f", "f1")
	s.Wait(text("w"))
	if s.Args() != nil {
		t.Error(s.Args())
	}
}

// P5.2: Shift drops arguments of the topmost macro alone, at most all.
func TestShift(t *testing.T) {
	var args []string
	for i := range 250 {
		args = append(args, fmt.Sprint(i))
	}
	for had := range 250 {
		for n := range 101 {
			s := New()
			s.Macro("m", text("m1"), args)
			s.Macro("n", text("n1"), args[:had])
			s.File("f", "f1")
			s.Wait(text("w"))
			did(t, s.Shift(n), api.OK)
			check(t, s, want{4, "f", 0, args[min(n, had):had], "w"})
			did(t, s.Shift(1), api.OK)
			check(t, s, want{4, "f", 0, args[min(n+1, had):had], "w"})
			s.Return(false)
			check(t, s, want{1, "m", 0, args, "m1"})
		}
	}
}

// P5.2: Name is that of the topmost macro or file, Line counts for the topmost file.
func TestNameAndLine(t *testing.T) {
	s := New()
	s.Wait(text("w"))
	check(t, s, want{1, "", 0, nil, "w"})
	s.File("f", "f1\nf2\nf3")
	check(t, s, want{2, "f", 0, nil, "f1"})
	took(t, s, "f1", "f2")
	s.Macro("m", text("m1", "m2"), nil)
	check(t, s, want{3, "m", 2, nil, "m1"})
	took(t, s, "m1")
	check(t, s, want{3, "m", 2, nil, "m2"})
	s.File("g", "g1\ng2")
	check(t, s, want{4, "g", 0, nil, "g1"})
	took(t, s, "g1")
	s.Wait(text("v"))
	check(t, s, want{5, "g", 1, nil, "v"})
	took(t, s, "v", "g2")
	check(t, s, want{4, "g", 2, nil, "m2"})
	took(t, s, "m2")
	check(t, s, want{3, "m", 2, nil, "f3"})
	took(t, s, "f3")
	check(t, s, want{2, "f", 3, nil, "w"})
	took(t, s, "w")
	check(t, s, want{1, "", 0, nil, ""})
}

// R5: what was given is not changed, and what is done to it later reaches no frame.
func TestArgumentsAreNotKept(t *testing.T) {
	for _, kind := range []string{"Macro", "Wait"} {
		s, args := New(), []string{"x", "y"}
		lines := []api.Line{{Text: "a"}, {Made: true, Boxes: []api.Box{{Name: "b", N: []int{1, 2}}}}}
		if kind == "Macro" {
			s.Macro("m", lines, args)
		} else {
			s.Macro("m", nil, args)
			s.Wait(lines)
		}
		s.Shift(1)
		before := seen(s)
		if fmt.Sprint(lines, args) != fmt.Sprint([]api.Line{{Text: "a"}, {Made: true, Boxes: []api.Box{{Name: "b", N: []int{1, 2}}}}}, []string{"x", "y"}) {
			t.Error(lines, args)
		}
		lines[0].Text, lines[1].Boxes[0].Name, lines[1].Boxes[0].N[0], args[1] = "q", "q", 9, "q"
		if after := seen(s); after != before {
			t.Errorf("before %s\nafter %s", before, after)
		}
	}
}

// R5: what was told is new, and what is done to it reaches no frame, and no copy.
func TestResultsAreNew(t *testing.T) {
	s := small()
	took(t, s, "w")
	s.Return(false)
	took(t, s, "g1")
	k := s.Copy()
	before := seen(s)
	s.Args()[0] = "q"
	p, _ := s.Peek()
	p.Boxes[0].Name, p.Boxes[0].N[0] = "q", 99
	if seen(s) != before || seen(k) != before {
		t.Error(seen(s), seen(k), before)
	}
	l, _ := s.Next()
	l.Boxes[0].Name, l.Boxes[0].N[0] = "q", 99
	if seen(k) != before {
		t.Error(seen(k), before)
	}
}

// R5: a copy tells the same, and nothing that is done to the one is done to the other.
func TestCopiesAreApart(t *testing.T) {
	for _, made := range []func() *Stack{New, small, func() *Stack { return stackOf(50) }} {
		acts := calls(nil)
		for _, what := range []string{"Next", "Return", "Return all", "Shift", "read"} {
			acts[what] = nil
		}
		for what := range acts {
			s := made()
			k := s.Copy()
			before := seen(s)
			if seen(k) != before {
				t.Error(seen(k), before)
			}
			act(k, what)
			if seen(s) != before {
				t.Errorf("%s of the copy: %s\nbefore %s", what, seen(s), before)
			}
			k = s.Copy()
			act(s, what)
			if seen(k) != before {
				t.Errorf("%s of the stack: %s\nbefore %s", what, seen(k), before)
			}
		}
	}
}

// act does one thing to a stack.
func act(s *Stack, what string) {
	switch what {
	case "Next":
		s.Next()
	case "Return":
		s.Return(false)
	case "Return all":
		s.Return(true)
		s.File("other", "other")
	case "Shift":
		s.Shift(1)
	case "read":
		for s.Depth() > 0 {
			s.Next()
		}
		s.Macro("other", text("other"), []string{"other"})
	default:
		calls(s)[what]()
	}
}

// The lines of a text, as the chapter's Terms say it.
func TestLines(t *testing.T) {
	for x, want := range map[string][]string{
		"": nil, "\n": {""}, "a": {"a"}, "a\n": {"a"}, "a\n\n": {"a", ""}, "\n\n": {"", ""}, "\na": {"", "a"}, "a\nb": {"a", "b"}, "a\n\nb": {"a", "", "b"}, "a\r\nb\r\n": {"a\r", "b\r"}, " \n": {" "}, "\n ": {"", " "},
		strings.Repeat("x", 5000) + "\n\xff": {strings.Repeat("x", 5000), "\xff"},
	} {
		if lines := Lines(x); !slices.Equal(lines, want) {
			t.Errorf("Lines(%.40q): %.80q; want %.80q", x, lines, want)
		}
	}
	if lines := Lines(strings.Repeat("a\n", 100000)); len(lines) != 100000 || lines[99999] != "a" {
		t.Error(len(lines))
	}
}
