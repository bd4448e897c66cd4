package font

import (
	"slices"
	"strings"
)

// The bytes of which names are made; each is a glyph of all standard fonts but S.
const (
	firstByte = 33
	lastByte  = 126
)

const joinedWidth = 550 // of ff, fi, fl in R

// Standard returns the standard fonts: R, I, B, M, S.
func Standard() []Font {
	roman := byteGlyphs(romanWidth)
	italic := byteGlyphs(func(b byte) int { return max(0, romanWidth(b)-20) })
	bold := byteGlyphs(func(b byte) int { return romanWidth(b) + 50 })
	mono := byteGlyphs(func(byte) int { return 600 })
	return []Font{
		{Name: "R", Space: 250, Glyphs: withJoined(roman, joinedWidth), Ligs: romanLigs(), Kerns: romanKerns()},
		{Name: "I", Space: 250, Glyphs: italic},
		{Name: "B", Space: 250, Glyphs: withJoined(bold, joinedWidth+50), Ligs: romanLigs()},
		{Name: "M", Space: 600, Glyphs: mono},
		{Name: "S", Space: 250, Glyphs: inOrder(signs()), Special: true},
	}
}

// byteGlyphs are the glyphs of one byte, of the widths that are told.
func byteGlyphs(width func(byte) int) []Glyph {
	var glyphs []Glyph
	for b := byte(firstByte); b <= lastByte; b++ {
		glyphs = append(glyphs, Glyph{Name: string(rune(b)), Width: width(b)})
	}
	return glyphs
}

// withJoined puts what ligatures become to glyphs.
func withJoined(glyphs []Glyph, width int) []Glyph {
	for _, l := range romanLigs() {
		glyphs = append(glyphs, Glyph{Name: l.Is, Width: width})
	}
	return inOrder(glyphs)
}

func inOrder(glyphs []Glyph) []Glyph {
	slices.SortFunc(glyphs, glyphOrder)
	return glyphs
}

func romanWidth(b byte) int {
	isOf := func(row string) bool { return strings.IndexByte(row, b) >= 0 }
	switch {
	case isOf("ijltf.,:;'|!`"):
		return 250
	case isOf(`()[]{}-rs/\"`):
		return 350
	case isOf("mw"):
		return 750
	case isOf("MW@%"):
		return 900
	case b >= 'A' && b <= 'Z':
		return 650
	}
	return 500
}

func romanLigs() []Lig {
	return []Lig{{"f", "f", "ff"}, {"f", "i", "fi"}, {"f", "l", "fl"}}
}

func romanKerns() []Kern {
	return []Kern{{"A", "V", -80}, {"A", "W", -60}, {"T", "o", -70}, {"V", "A", -80}, {"Y", "o", -90}}
}

// signs are the glyphs of the special font.
func signs() []Glyph {
	return []Glyph{
		{"bu", 460}, {"em", 1000}, {"en", 500}, {"hy", 350}, {"sq", 600},
		{"mu", 600}, {"di", 600}, {"pl", 600}, {"mi", 600}, {"eq", 600},
		{"<=", 600}, {">=", 600}, {"!=", 600}, {"->", 1000}, {"<-", 1000},
		{"sr", 500}, {"is", 400}, {"su", 700}, {"pd", 700}, {"if", 700},
		{"*a", 550}, {"*b", 550}, {"*g", 500}, {"*d", 500}, {"*p", 600},
		{"*l", 550}, {"*s", 600}, {"*w", 700},
		{"co", 800}, {"dg", 500}, {"sc", 500}, {"rh", 1000}, {"br", 10}, {"ul", 500}, {"ru", 500},
	}
}
