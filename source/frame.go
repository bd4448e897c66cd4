package source

import (
	"iter"
	"slices"

	"frisket/api"
	"frisket/store"
)

// The kinds of frames.
const (
	aFile   = 1
	aMacro  = 2
	waiting = 3
)

const maxName = 100 // bytes of a frame's name

// A frame is what is read: its lines, of which some were taken. Neither a line nor an argument is changed in place, for a stack's copy has the same.
type frame struct {
	kind  int
	name  string
	lines []api.Line
	taken int
	args  []string
}

func fileFrame(name, text string) frame {
	f := frame{kind: aFile, name: name}
	for _, line := range Lines(text) {
		f.lines = append(f.lines, api.Line{Text: line})
	}
	return f
}

func (f *frame) isFile() bool {
	return f.kind == aFile
}

func (f *frame) isMacro() bool {
	return f.kind == aMacro
}

func (f *frame) isNamed() bool {
	return f.kind != waiting
}

func (f *frame) unread() bool {
	return f.taken < len(f.lines)
}

// staysBelow tells whether the frame is there on when another is put on top of it.
func (f *frame) staysBelow() bool {
	return f.kind != waiting || f.unread()
}

// fromTop goes over the frames from the topmost down, each with how many are below it.
func (s *Stack) fromTop() iter.Seq2[int, *frame] {
	return func(yield func(int, *frame) bool) {
		for at := s.Depth() - 1; at >= 0; at-- {
			if !yield(at, &s.frames[at]) {
				return
			}
		}
	}
}

// topmost returns where the topmost frame is that is as asked, -1 if there is none.
func (s *Stack) topmost(is func(*frame) bool) int {
	for at, f := range s.fromTop() {
		if is(f) {
			return at
		}
	}
	return -1
}

// lowestMacro returns where the lowest macro is, -1 if there is none.
func (s *Stack) lowestMacro() int {
	lowest := -1
	for at, f := range s.fromTop() {
		if f.isMacro() {
			lowest = at
		}
	}
	return lowest
}

// push puts a frame on top, in the place of what waited there and is at its end.
func (s *Stack) push(f frame) api.Errno {
	kept := s.topmost((*frame).staysBelow) + 1
	if kept == maxFrames {
		return api.ErrLimit
	}
	s.cut(kept)
	s.frames = append(s.frames, f)
	return api.OK
}

// cut leaves only the lowest frames, as many as are kept.
func (s *Stack) cut(kept int) {
	s.frames = slices.Delete(s.frames, kept, len(s.frames))
}

func validName(name string) bool {
	return name != "" && len(name) <= maxName
}

// validLines asks a store which lines are right: that looks at all of them before it minds that they are more than it keeps.
func validLines(lines []api.Line) bool {
	return len(lines) <= api.MaxLines && store.New().Macro("lines", lines) != api.ErrArg
}

func copyLines(lines []api.Line) []api.Line {
	var copied []api.Line
	for _, l := range lines {
		copied = append(copied, copyLine(l))
	}
	return copied
}

func copyLine(l api.Line) api.Line {
	l.Boxes = slices.Clone(l.Boxes)
	for i := range l.Boxes {
		l.Boxes[i].N = slices.Clone(l.Boxes[i].N)
	}
	return l
}
