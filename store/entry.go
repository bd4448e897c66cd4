package store

import (
	"slices"
	"strings"

	"frisket/api"
)

// The kinds of entries, as Kind returns them.
const (
	aString = 1
	aMacro  = 2
)

const (
	maxLines  = 2000    // of an entry
	maxBoxes  = 2000    // of a line
	maxMotion = 1000000 // ahead of a line's base, or behind it
)

// An entry is a string with its text, or a macro with its lines.
type entry struct {
	kind  int
	text  string
	lines []api.Line
}

// length is how many pieces the entry has: bytes of a string, lines of a macro.
func (e *entry) length() int {
	if e.kind == aString {
		return len(e.text)
	}
	return len(e.lines)
}

// place is the place that is meant by n: if n is below 0, it counts from the end.
func (e *entry) place(n int) int {
	if n < 0 {
		return n + e.length()
	}
	return n
}

// keep leaves the pieces from first to last, both with them; both may lie outside.
func (e *entry) keep(first, last int) {
	// last may be the greatest number there is: it is cut before anything is added.
	end := max(0, min(last, e.length()-1)+1)
	first = max(0, min(first, end))
	if e.kind == aString {
		e.text = e.text[first:end]
	} else {
		e.lines = e.lines[first:end]
	}
}

func validText(text string) bool {
	return len(text) <= api.MaxLine && !strings.Contains(text, "\n")
}

func validLines(lines []api.Line) bool {
	return !slices.ContainsFunc(lines, func(l api.Line) bool { return !validLine(l) })
}

func validLine(l api.Line) bool {
	if !l.Made {
		// What has a text is nothing else: motions and boxes would have no meaning there.
		return validText(l.Text) && l.Up == 0 && l.Down == 0 && len(l.Boxes) == 0
	}
	return l.Text == "" && validMotion(l.Up) && validMotion(l.Down) && len(l.Boxes) <= maxBoxes
}

func validMotion(n int) bool {
	return n >= -maxMotion && n <= maxMotion
}

func copyLines(lines []api.Line) []api.Line {
	copied := slices.Clone(lines)
	for i := range copied {
		copied[i].Boxes = copyBoxes(copied[i].Boxes)
	}
	return copied
}

func copyBoxes(boxes []api.Box) []api.Box {
	copied := slices.Clone(boxes)
	for i := range copied {
		copied[i].N = slices.Clone(copied[i].N)
	}
	return copied
}
