package font

import (
	"fmt"
	"slices"
	"sort"
	"strings"
	"testing"

	"frisket/api"
)

// romanWidths are the widths of R, as the chapter lists them.
func romanWidths() map[string]int {
	widths := map[string]int{"fi": 550, "fl": 550, "ff": 550}
	for b := 33; b <= 126; b++ {
		widths[string(rune(b))] = 500
	}
	for _, row := range []struct {
		width int
		names string
	}{
		{650, "A B C D E F G H I J K L M N O P Q R S T U V W X Y Z"},
		{250, "i j l t f . , : ; ' | ! \x60"},
		{350, `( ) [ ] { } - r s / \ "`},
		{750, "m w"},
		{900, "M W @ %"},
		{500, "0 1 2 3 4 5 6 7 8 9"},
	} {
		for _, name := range strings.Fields(row.names) {
			widths[name] = row.width
		}
	}
	return widths
}

const special = `font S special
space 250
g != 600
g *a 550
g *b 550
g *d 500
g *g 500
g *l 550
g *p 600
g *s 600
g *w 700
g -> 1000
g <- 1000
g <= 600
g >= 600
g br 10
g bu 460
g co 800
g dg 500
g di 600
g em 1000
g en 500
g eq 600
g hy 350
g if 700
g is 400
g mi 600
g mu 600
g pd 700
g pl 600
g rh 1000
g ru 500
g sc 500
g sq 600
g sr 500
g su 700
g ul 500
`

// standardText is the description of one of R, I, B, M.
func standardText(name string, space int, widths map[string]int, ends string) string {
	var names []string
	for n := range widths {
		names = append(names, n)
	}
	sort.Strings(names)
	text := fmt.Sprintf("font %s\nspace %d\n", name, space)
	for _, n := range names {
		text += fmt.Sprintf("g %s %d\n", n, widths[n])
	}
	return text + ends
}

func standardTexts() []string {
	ligs := "l f f ff\nl f i fi\nl f l fl\n"
	roman, italic, bold, mono := romanWidths(), map[string]int{}, map[string]int{}, map[string]int{}
	for name, width := range roman {
		bold[name] = width + 50
		if len(name) == 1 {
			italic[name], mono[name] = width-20, 600
		}
	}
	return []string{
		standardText("R", 250, roman, ligs+"k A V -80\nk A W -60\nk T o -70\nk V A -80\nk Y o -90\n"),
		standardText("I", 250, italic, ""),
		standardText("B", 250, bold, ligs),
		standardText("M", 600, mono, ""),
		special,
	}
}

// The standard fonts, each as its description; P7.3: they are valid, and Parse of Write is the font.
func TestStandard(t *testing.T) {
	fonts := Standard()
	if len(fonts) != 5 {
		t.Fatal(len(fonts))
	}
	for i, want := range standardTexts() {
		f := fonts[i]
		s, err := Write(f)
		if s != want || err != api.OK || !Valid(f) || !modelValid(f) {
			t.Errorf("%s: %d\n%s\nwant\n%s", f.Name, err, s, want)
		}
		g, err := Parse(s)
		if err != api.OK || !Same(f, g) || f.Special != (i == 4) {
			t.Error(f.Name, err)
		}
		if Mono(f) != (f.Name == "M") {
			t.Error("Mono", f.Name)
		}
	}
}

// P7.2: the standard fonts, asked.
func TestStandardAsked(t *testing.T) {
	var names []string
	for b := range 256 {
		names = append(names, string([]byte{byte(b)}))
	}
	names = append(names, "", "fi", "fl", "ff", "ffi", "bu", "em", "->", "*a", "co", "zz")
	for _, f := range Standard() {
		for _, size := range []int{1, 7, 10, 12, 1000} {
			for _, a := range names {
				checkGlyph(t, f, a, size, api.OK)
			}
		}
		for _, a := range []string{"A", "V", "W", "T", "Y", "o", "f", "i", "l", "ff", "fi", "em", ""} {
			for _, b := range []string{"A", "V", "W", "T", "Y", "o", "f", "i", "l", "ff", "fi", "em", ""} {
				checkPair(t, f, a, b, 11, api.OK)
			}
		}
	}
}

// The chapter's examples, and its words that decide.
func TestExamples(t *testing.T) {
	fonts := Standard()
	roman, italic, bold := fonts[0], fonts[1], fonts[2]
	if w, err := Width(roman, "m", 10); w != 75 || err != api.OK {
		t.Error("m of R", w, err)
	}
	if k, err := Kerning(roman, "A", "V", 12); k != -10 || err != api.OK {
		t.Error("A V of R", k, err)
	}
	if roman.Space != italic.Space || roman.Space != bold.Space {
		t.Error("spaces", italic.Space, bold.Space)
	}
	for _, name := range []string{"ff", "fi", "fl"} {
		if w, err := Width(bold, name, 100); w != 600 || err != api.OK {
			t.Error("of B", name, w, err)
		}
		if Has(italic, name) || Has(fonts[3], name) || Has(fonts[4], name) {
			t.Error("has", name)
		}
		for i, f := range fonts {
			if s, is := Join(f, name[:1], name[1:]); is != (i == 0 || i == 2) || is != (s == name) {
				t.Error("Join", f.Name, name, s, is)
			}
		}
	}
}

// P7.2: descriptions, as they are written, and texts that are none.
func TestDescriptions(t *testing.T) {
	s := "font X\nspace 250\ng A 650\ng V 640\ng f 250\ng ff 555\nl f f ff\nk A V -80\nk V A 81\n"
	if text, err := Write(good()); text != s || err != api.OK {
		t.Errorf("%q %d", text, err)
	}
	if f, err := Parse(s); !Same(f, good()) || err != api.OK {
		t.Error(f, err)
	}
	for s, want := range map[string]Font{
		"font X\nspace 0\n":                                 {Name: "X"},
		"font special\nspace 3000\n":                        {Name: "special", Space: 3000},
		"font special special\nspace 1\ng special 2\n":      {Name: "special", Special: true, Space: 1, Glyphs: []Glyph{{"special", 2}}},
		"font g\nspace 1\ng font 1\ng g 3\ng k 0\ng l 9\n":  {Name: "g", Space: 1, Glyphs: []Glyph{{"font", 1}, {"g", 3}, {"k", 0}, {"l", 9}}},
		"font X\nspace 1\ng 0 1\ng 1 0\nl 0 1 1\nk 0 0 5\n": {Name: "X", Space: 1, Glyphs: []Glyph{{"0", 1}, {"1", 0}}, Ligs: []Lig{{"0", "1", "1"}}, Kerns: []Kern{{"0", "0", 5}}},
	} {
		if f, err := Parse(s); !Same(f, want) || err != api.OK {
			t.Errorf("%q: %+v %d", s, f, err)
		}
		if text, err := Write(want); text != s || err != api.OK {
			t.Errorf("%+v: %q %d", want, text, err)
		}
	}
	head := "font X\nspace 1\n"
	for _, s := range []string{
		"", "\n", "font\nspace 1\n", "font \nspace 1\n", "font X", "font X\n", "space 1\n", "font X\nspace 1", "font X\n\nspace 1\n", "font X\nspace 1\n\n", "\nfont X\nspace 1\n", "space 1\nfont X\n", "font X\r\nspace 1\r\n",
		"font X special special\nspace 1\n", "font X Special\nspace 1\n", "font X special \nspace 1\n", "font X \nspace 1\n", "font X  special\nspace 1\n", " font X\nspace 1\n", "font  X\nspace 1\n", "font\tX\nspace 1\n", "Font X\nspace 1\n",
		"font X\nfont X\nspace 1\n", "font X\nspace 1\nspace 1\n", "font X\nspace\n", "font X\nspace \n", "font X\nspace x\n", "font X\nspace 01\n", "font X\nspace +1\n", "font X\nspace -0\n", "font X\nspace -1\n", "font X\nspace 3001\n", "font X\nspace 1_0\n", "font X\nspace 0x1\n", "font X\nspace 1.0\n", "font X\nspace 1 \n", "font X\nspace 1 2\n", "font X\nspace 99999999999999999999\n", "font X\nspace 18446744073709551617\n",
		"font 1\nspace 1\n", "font X-\nspace 1\n", "font abcdefghijk\nspace 1\n",
		head + "g a\n", head + "g a 1 2\n", head + "g  1\n", head + "g a  1\n", head + "g a 1", head + "g a 1\n\n", head + "ga 1\n", head + "g a x\n", head + "g a -0\n", head + "g a 3001\n", head + "g a -1\n", head + "g abcdefghijk 1\n", head + "g é 1\n", head + "g b 1\ng a 1\n", head + "g a 1\ng a 1\n", "font X\ng a 1\nspace 1\n", "g a 1\n" + head,
		head + "g a 1\nl a a\n", head + "g a 1\nl a a a a\n", head + "g a 1\nl a a b\n", head + "l a a a\ng a 1\n", head + "g a 1\nl a a a\nl a a a\n", head + "g a 1\ng b 1\nl b a a\nl a a a\n",
		head + "g a 1\nk a a\n", head + "g a 1\nk a a 0\n", head + "g a 1\nk a a -0\n", head + "g a 1\nk a a +1\n", head + "g a 1\nk a a 01\n", head + "g a 1\nk a a -01\n", head + "g a 1\nk a a 1 1\n", head + "g a 1\nk a a 501\n", head + "g a 1\nk a a -501\n", head + "g a 1\nk a b 1\n", head + "g a 1\nk a a x\n", head + "g a 1\nk a a 1\nl a a a\n", head + "g a 1\nk a a 1\nk a a 2\n", head + "g a 1\nk a a --1\n",
		head + "x\n", head + "# x\n", strings.Repeat("\n", 100000), strings.Repeat("font ", 100000), head + strings.Repeat("g a 1\n", 100000), strings.Repeat("x", 1000000),
	} {
		if f, err := Parse(s); err != api.ErrForm || !isZero(f) {
			t.Errorf("Parse(%.60q): %+v %d", s, f, err)
		}
	}
}

// P7.1: the generic question, of lists of any kind.
func TestAscends(t *testing.T) {
	order := func(a, b int) int { return a - b }
	for want, lists := range map[bool][][]int{true: {nil, {}, {5}, {1, 2}, {-3, 0, 9}}, false: {{1, 1}, {2, 1}, {1, 2, 2}, {1, 3, 2}, {2, 1, 3}, {1, 2, 3, 3}}} {
		for _, list := range lists {
			kept := slices.Clone(list)
			if ascends(list, order) != want || !slices.Equal(list, kept) {
				t.Error(list)
			}
		}
	}
}
