package font

import (
	"strconv"
	"strings"
)

func write(f Font) string {
	var text strings.Builder
	line := func(words ...string) { text.WriteString(strings.Join(words, " ") + "\n") }
	if f.Special {
		line("font", f.Name, "special")
	} else {
		line("font", f.Name)
	}
	line("space", strconv.Itoa(f.Space))
	for _, g := range f.Glyphs {
		line("g", g.Name, strconv.Itoa(g.Width))
	}
	for _, l := range f.Ligs {
		line("l", l.A, l.B, l.Is)
	}
	for _, k := range f.Kerns {
		line("k", k.A, k.B, strconv.Itoa(k.By))
	}
	return text.String()
}

// read reads each line of a description by itself, in any order, and passes over what is not as it should be.
func read(s string) Font {
	var f Font
	for line := range strings.Lines(s) {
		// No line has more than four words; what is more stays in the last one, where it is wrong.
		words := strings.SplitN(strings.TrimSuffix(line, "\n"), " ", 4)
		kind, count := words[0], len(words)
		switch {
		case kind == "font" && count == 2:
			f.Name = words[1]
		case kind == "font" && count == 3:
			f.Name, f.Special = words[1], true
		case kind == "space" && count == 2:
			f.Space = number(words[1])
		case kind == "g" && count == 3:
			f.Glyphs = append(f.Glyphs, Glyph{Name: words[1], Width: number(words[2])})
		case kind == "l" && count == 4:
			f.Ligs = append(f.Ligs, Lig{A: words[1], B: words[2], Is: words[3]})
		case kind == "k" && count == 4:
			f.Kerns = append(f.Kerns, Kern{A: words[1], B: words[2], By: number(words[3])})
		}
	}
	return f
}

// number reads a number; of what is none it gives one that is written otherwise.
func number(word string) int {
	n, err := strconv.Atoi(word)
	if err != nil {
		return 0
	}
	return n
}
