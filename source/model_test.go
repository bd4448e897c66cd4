package source

import (
	"fmt"
	"math/rand"
	"slices"
	"strings"
	"testing"

	"frisket/api"
)

// held is a frame as what is left of it; it is never changed.
type held struct {
	kind       byte // f a file, m a macro, w what waits
	name       string
	rest, args []string
	taken      int
}

// model is a stack as a list of what is held, the topmost first; it is never changed either.
type model []held

func (m model) first(kind byte) int {
	return slices.IndexFunc(m, func(h held) bool { return h.kind == kind })
}

func (m model) push(h held) (model, api.Errno) {
	below := m
	for len(below) > 0 && below[0].kind == 'w' && len(below[0].rest) == 0 {
		below = below[1:]
	}
	if len(below) == 50 {
		return m, api.ErrLimit
	}
	return append(model{h}, below...), api.OK
}

func (m model) next() (model, string, api.Errno) {
	for i, h := range m {
		if len(h.rest) > 0 {
			line := h.rest[0]
			h.rest, h.taken = h.rest[1:], h.taken+1
			return append(model{h}, m[i+1:]...), line, api.OK
		}
	}
	return nil, "", api.ErrNone
}

func (m model) back(all bool) (model, api.Errno) {
	left, err := m, api.ErrState
	for i, h := range m {
		if h.kind == 'm' && (all || err != api.OK) {
			left, err = m[i+1:], api.OK
		}
	}
	return left, err
}

func (m model) instead(h held) (model, api.Errno) {
	i := m.first('f')
	if i < 0 {
		return m, api.ErrState
	}
	return append(model{h}, m[i+1:]...), api.OK
}

func (m model) shift(n int) (model, api.Errno) {
	i := m.first('m')
	if i < 0 {
		return m, api.ErrState
	}
	k := slices.Clone(m)
	for range n {
		if len(k[i].args) > 0 {
			k[i].args = k[i].args[1:]
		}
	}
	return k, api.OK
}

// differs tells in what a stack is not as the model; empty: in nothing.
func (m model) differs(s *Stack) string {
	name, line, args := "", 0, []string(nil)
	if i := slices.IndexFunc(m, func(h held) bool { return h.kind != 'w' }); i >= 0 {
		name = m[i].name
	}
	if i := m.first('f'); i >= 0 {
		line = m[i].taken
	}
	if i := m.first('m'); i >= 0 {
		args = m[i].args
	}
	_, next, err := m.next()
	l, e := s.Peek()
	if s.Depth() != len(m) || s.Name() != name || s.Line() != line || !slices.Equal(s.Args(), args) || l.Text != next || l.Made || e != err {
		return fmt.Sprint(state(s), m)
	}
	return ""
}

// A move does one thing to both, and tells what each makes of it.
type move func(s *Stack, m model) (after model, got, want string)

func told(m model, got, want api.Errno) (model, string, string) {
	return m, fmt.Sprint(got), fmt.Sprint(want)
}

func moveFile(name, x string) move {
	return func(s *Stack, m model) (model, string, string) {
		k, want := m.push(held{kind: 'f', name: name, rest: Lines(x)})
		return told(k, s.File(name, x), want)
	}
}

func moveMacro(name string, lines, args []string) move {
	return func(s *Stack, m model) (model, string, string) {
		k, want := m.push(held{kind: 'm', name: name, rest: lines, args: args})
		return told(k, s.Macro(name, text(lines...), args), want)
	}
}

func moveWait(lines ...string) move {
	return func(s *Stack, m model) (model, string, string) {
		k, want := m.push(held{kind: 'w', rest: lines})
		return told(k, s.Wait(text(lines...)), want)
	}
}

func moveNext(s *Stack, m model) (model, string, string) {
	k, line, want := m.next()
	l, got := s.Next()
	return k, fmt.Sprint(l.Text, got), fmt.Sprint(line, want)
}

func moveReturn(all bool) move {
	return func(s *Stack, m model) (model, string, string) {
		k, want := m.back(all)
		return told(k, s.Return(all), want)
	}
}

func moveInstead(name, x string) move {
	return func(s *Stack, m model) (model, string, string) {
		k, want := m.instead(held{kind: 'f', name: name, rest: Lines(x)})
		return told(k, s.Instead(name, x), want)
	}
}

func moveShift(n int) move {
	return func(s *Stack, m model) (model, string, string) {
		k, want := m.shift(n)
		return told(k, s.Shift(n), want)
	}
}

func moves() []move {
	return []move{
		moveFile("f", "a\nb\n"), moveFile("g", ""), moveMacro("m", []string{"c", "d"}, []string{"x", "y", "z"}), moveMacro("n", nil, []string{"u"}), moveWait("e"), moveWait(),
		moveNext, moveReturn(false), moveReturn(true), moveInstead("h", "i\nj"), moveShift(1), moveShift(2),
	}
}

// P5.1, P5.2: a stack does what a plain model does, in all runs of up to 5 of 12 moves; each goes on from a copy.
func TestShortRunsAgainstAModel(t *testing.T) {
	all := moves()
	var run func(s *Stack, m model, done []int)
	run = func(s *Stack, m model, done []int) {
		if len(done) == 5 {
			return
		}
		for i, move := range all {
			k, done := s.Copy(), append(done, i)
			after, got, want := move(k, m)
			if d := after.differs(k); got != want || d != "" {
				t.Fatal(done, got, want, d)
			}
			run(k, after, done)
		}
		if d := m.differs(s); d != "" {
			t.Fatal("what was copied after ", done, d)
		}
	}
	run(New(), nil, nil)
}

// P5.1, P5.2, P5.3: the same in long runs, some of which are at the limit for long; never are there more than 50 frames.
func TestLongRunsAgainstAModel(t *testing.T) {
	limits := 0
	for seed := range 400 {
		r := rand.New(rand.NewSource(int64(seed)))
		all := moves()
		if seed%2 == 0 {
			all = append(all[:8], moveWait("p", "q"), moveMacro("o", []string{"r"}, nil))
		}
		s, m := New(), model(nil)
		for step := range 400 {
			i := r.Intn(len(all))
			after, got, want := all[i](s, m)
			if d := after.differs(s); got != want || d != "" || s.Depth() > 50 {
				t.Fatal(seed, step, i, got, want, d)
			}
			if want == fmt.Sprint(api.ErrLimit) {
				limits++
			}
			m = after
		}
	}
	if limits < 1000 {
		t.Error("the limit was met", limits, "times")
	}
}

// P5.3: a file's lines come in order, once, whatever is put on top meanwhile and read to its end.
func TestLinesOfAFile(t *testing.T) {
	for seed := range 200 {
		r := rand.New(rand.NewSource(int64(seed)))
		var lines []string
		for i := range r.Intn(60) {
			lines = append(lines, fmt.Sprint("file ", i))
		}
		s := New()
		s.Wait(text("below"))
		s.File("f", strings.Join(lines, "\n"))
		var came []string
		for puts := 300; ; {
			for puts > 0 && r.Intn(2) == 0 {
				puts--
				putOnTop(s, r)
			}
			l, err := s.Next()
			if err == api.ErrNone {
				break
			}
			if strings.HasPrefix(l.Text, "file") {
				came = append(came, l.Text)
				if s.Line() != len(came) || s.Name() != "f" || s.Depth() != 2 {
					t.Fatal(seed, state(s), came)
				}
			}
		}
		if !slices.Equal(came, lines) {
			t.Fatal(seed, came)
		}
	}
}

// putOnTop puts something on top, or does to what was put there what takes nothing from below.
func putOnTop(s *Stack, r *rand.Rand) {
	lines := strings.Split("uvwxyz"[r.Intn(7):], "")
	switch r.Intn(6) {
	case 0:
		s.File("other", strings.Join(lines, "\n"))
	case 1:
		s.Macro("m", text(lines...), lines)
	case 2:
		s.Wait(text(lines...))
	case 3:
		s.Return(r.Intn(2) == 0)
	case 4:
		s.Shift(r.Intn(3))
	case 5:
		s.Peek()
	}
}

// The lines of a text, against a count byte by byte, for all texts of up to 8 of 3 bytes.
func TestLinesAgainstAModel(t *testing.T) {
	var all func(x string)
	all = func(x string) {
		var want []string
		part := ""
		for _, c := range []byte(x) {
			if c == '\n' {
				want, part = append(want, part), ""
			} else {
				part += string(rune(c))
			}
		}
		if part != "" {
			want = append(want, part)
		}
		if lines := Lines(x); !slices.Equal(lines, want) {
			t.Fatalf("Lines(%q): %q; want %q", x, lines, want)
		}
		if len(x) < 8 {
			all(x + "a")
			all(x + "b")
			all(x + "\n")
		}
	}
	all("")
}
