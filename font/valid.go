package font

import (
	"cmp"
	"slices"
	"strings"
)

// What a font has at most.
const (
	maxGlyphs = 400
	maxLigs   = 50
	maxKerns  = 500
	maxWidth  = 3000
	maxKern   = 500  // of a kern's By
	maxSize   = 1000 // points
	maxName   = 10   // bytes of a name, a font's or a glyph's
)

func validGlyphs(glyphs []Glyph) bool {
	right := func(g Glyph) bool { return isGlyphName(g.Name) && isWidth(g.Width) }
	return len(glyphs) <= maxGlyphs && all(glyphs, right) && ascends(glyphs, glyphOrder)
}

// validLigs asks for glyphs that are valid already.
func validLigs(ligs []Lig, glyphs []Glyph) bool {
	right := func(l Lig) bool { return among(glyphs, l.A) && among(glyphs, l.B) && among(glyphs, l.Is) }
	return len(ligs) <= maxLigs && all(ligs, right) && ascends(ligs, ligOrder)
}

// validKerns asks for glyphs that are valid already.
func validKerns(kerns []Kern, glyphs []Glyph) bool {
	right := func(k Kern) bool {
		return k.By != 0 && k.By >= -maxKern && k.By <= maxKern && among(glyphs, k.A) && among(glyphs, k.B)
	}
	return len(kerns) <= maxKerns && all(kerns, right) && ascends(kerns, kernOrder)
}

// ascends tells whether each element of a list is above the one ahead of it.
func ascends[T any](list []T, order func(a, b T) int) bool {
	for i := 1; i < len(list); i++ {
		if order(list[i-1], list[i]) >= 0 {
			return false
		}
	}
	return true
}

func all[T any](list []T, right func(T) bool) bool {
	return !slices.ContainsFunc(list, func(element T) bool { return !right(element) })
}

// among tells whether a glyph of the name is there; the names ascend.
func among(glyphs []Glyph, name string) bool {
	_, is := slices.BinarySearchFunc(glyphs, Glyph{Name: name}, glyphOrder)
	return is
}

func glyphOrder(a, b Glyph) int {
	return strings.Compare(a.Name, b.Name)
}

func ligOrder(a, b Lig) int {
	return cmp.Or(strings.Compare(a.A, b.A), strings.Compare(a.B, b.B))
}

func kernOrder(a, b Kern) int {
	return cmp.Or(strings.Compare(a.A, b.A), strings.Compare(a.B, b.B))
}

func isFontName(name string) bool {
	return isName(name, isLetterOrDigit) && !isDigit(name[0])
}

func isGlyphName(name string) bool {
	return isName(name, isVisible)
}

// isName tells whether a name is as long as it may be, of bytes that are as asked.
func isName(name string, is func(byte) bool) bool {
	if len(name) < 1 || len(name) > maxName {
		return false
	}
	for i := range len(name) {
		if !is(name[i]) {
			return false
		}
	}
	return true
}

func isLetterOrDigit(b byte) bool {
	return b >= 'a' && b <= 'z' || b >= 'A' && b <= 'Z' || isDigit(b)
}

func isDigit(b byte) bool {
	return b >= '0' && b <= '9'
}

func isVisible(b byte) bool {
	return b >= firstByte && b <= lastByte
}

func isWidth(n int) bool {
	return n >= 0 && n <= maxWidth
}

func isSize(n int) bool {
	return n >= 1 && n <= maxSize
}
