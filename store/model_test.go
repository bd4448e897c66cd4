package store

import (
	"fmt"
	"math/rand"
	"slices"
	"strings"
	"testing"

	"frisket/api"
)

// thing is an entry as a list of pieces: the bytes of a string, the texts of a macro's lines.
type thing struct {
	macro  bool
	pieces []string
}

// model is a store as plain lists: each name with the number of its thing; things are never taken away.
type model struct {
	names  []string
	which  []int
	things []thing
}

func (m *model) at(name string) int {
	return slices.Index(m.names, name)
}

// point has a name name a thing.
func (m *model) point(name string, thing int) {
	m.drop(name)
	m.names, m.which = append(m.names, name), append(m.which, thing)
}

func (m *model) drop(name string) {
	if i := m.at(name); i >= 0 {
		m.names, m.which = slices.Delete(m.names, i, i+1), slices.Delete(m.which, i, i+1)
	}
}

func (m *model) put(name string, macro, behind bool, pieces []string) api.Errno {
	i := m.at(name)
	if i < 0 {
		m.things = append(m.things, thing{macro, pieces})
		m.point(name, len(m.things)-1)
		return api.OK
	}
	old := &m.things[m.which[i]]
	if behind && old.macro == macro {
		pieces = append(slices.Clone(old.pieces), pieces...)
	}
	*old = thing{macro, pieces}
	return api.OK
}

// move has name to name what name from names, which is dropped if a rename is meant.
func (m *model) move(from, to string, rename bool) api.Errno {
	i := m.at(from)
	if i < 0 {
		return api.ErrName
	}
	which := m.which[i]
	if rename {
		m.drop(from)
	} else if from == to {
		return api.ErrLoop
	}
	m.point(to, which)
	return api.OK
}

func (m *model) part(name string, from, to int) api.Errno {
	i := m.at(name)
	if i < 0 {
		return api.ErrName
	}
	k := &m.things[m.which[i]]
	n := len(k.pieces)
	var left []string
	for place, piece := range k.pieces {
		a, b := from, to
		if a < 0 {
			a += n
		}
		if b < 0 {
			b += n
		}
		if a <= place && place <= b || b <= place && place <= a {
			left = append(left, piece)
		}
	}
	k.pieces = left
	return api.OK
}

func (m *model) chop(name string) api.Errno {
	i := m.at(name)
	if i < 0 {
		return api.ErrName
	}
	if k := &m.things[m.which[i]]; len(k.pieces) > 0 {
		k.pieces = k.pieces[:len(k.pieces)-1]
	}
	return api.OK
}

// differs tells in what a store is not as the model; empty: in nothing.
func (m *model) differs(s *Store) string {
	names := slices.Sorted(slices.Values(m.names))
	if !slices.Equal(s.Names(), names) {
		return fmt.Sprint("names ", s.Names(), names)
	}
	for i, name := range m.names {
		k, kind := m.things[m.which[i]], 1
		lines := text(strings.Join(k.pieces, ""))
		if k.macro {
			kind, lines = 2, text(k.pieces...)
		}
		n, e1 := s.Length(name)
		l, e2 := s.Lines(name)
		x, e3 := s.Text(name)
		asText := !k.macro && e3 == api.OK && x == lines[0].Text || k.macro && e3 == api.ErrName && x == ""
		if n != len(k.pieces) || e1 != api.OK || fmt.Sprint(l) != fmt.Sprint(lines) || e2 != api.OK || !asText || s.Kind(name) != kind {
			return fmt.Sprint(name, n, e1, l, e2, x, e3, s.Kind(name), k)
		}
	}
	return ""
}

// do does one thing to both, and tells what each makes of it.
func (m *model) do(s *Store, r *rand.Rand) (what string, got, want api.Errno) {
	pick := func() string { return string("abcdefg"[r.Intn(7)]) }
	name, other, from, to := pick(), pick(), r.Intn(17)-8, r.Intn(17)-8
	pieces := strings.Split("uvwxyz"[r.Intn(7):], "")
	what = fmt.Sprint(name, other, from, to, pieces)
	switch k := r.Intn(10); k {
	case 0:
		return "Define " + what, s.Define(name, strings.Join(pieces, "")), m.put(name, false, false, pieces)
	case 1:
		return "Append " + what, s.Append(name, strings.Join(pieces, "")), m.put(name, false, true, pieces)
	case 2:
		return "Macro " + what, s.Macro(name, text(pieces...)), m.put(name, true, false, pieces)
	case 3:
		return "Add " + what, s.Add(name, text(pieces...)), m.put(name, true, true, pieces)
	case 4:
		m.drop(name)
		return "Remove " + what, s.Remove(name), api.OK
	case 5:
		return "Rename " + what, s.Rename(name, other), m.move(name, other, true)
	case 6, 7:
		return "Alias " + what, s.Alias(other, name), m.move(name, other, false)
	case 8:
		return "Chop " + what, s.Chop(name), m.chop(name)
	}
	return "Part " + what, s.Part(name, from, to), m.part(name, from, to)
}

// P3.2, P3.3, P3.4: a store does what a plain model does; a copy goes on as the store, and the store stays apart.
func TestAgainstAModel(t *testing.T) {
	for seed := range 300 {
		r := rand.New(rand.NewSource(int64(seed)))
		s, m := New(), &model{}
		for step := range 120 {
			what, got, want := m.do(s, r)
			if d := m.differs(s); got != want || d != "" {
				t.Fatal(seed, step, what, got, want, d)
			}
			if step%10 == 9 {
				old := s
				s = s.Copy()
				for _, name := range old.Names() {
					old.Append(name, "!")
					old.Add(name, text("!"))
				}
				if d := m.differs(s); d != "" {
					t.Fatal(seed, step, "the copy", d)
				}
			}
		}
	}
}
