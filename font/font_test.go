package font

import (
	"fmt"
	"math"
	"slices"
	"strings"
	"testing"

	"frisket/api"
)

// good is a valid font with all that a font may have.
func good() Font {
	return Font{Name: "X", Space: 250, Glyphs: []Glyph{{"A", 650}, {"V", 640}, {"f", 250}, {"ff", 555}}, Ligs: []Lig{{"f", "f", "ff"}}, Kerns: []Kern{{"A", "V", -80}, {"V", "A", 81}}}
}

// with is good, changed.
func with(change func(f *Font)) Font {
	f := good()
	change(&f)
	return f
}

func many(n int) []Glyph {
	var glyphs []Glyph
	for i := range n {
		glyphs = append(glyphs, Glyph{fmt.Sprintf("g%03d", i), i})
	}
	return glyphs
}

// badFonts are fonts that are not valid, each for one reason alone.
func badFonts() map[string]Font {
	return map[string]Font{
		"nothing":            {},
		"no name":            with(func(f *Font) { f.Name = "" }),
		"a long name":        with(func(f *Font) { f.Name = "Abcdefghijk" }),
		"a digit first":      with(func(f *Font) { f.Name = "1X" }),
		"a sign in a name":   with(func(f *Font) { f.Name = "X-" }),
		"a space below 0":    with(func(f *Font) { f.Space = -1 }),
		"a broad space":      with(func(f *Font) { f.Space = 3001 }),
		"the broadest space": with(func(f *Font) { f.Space = math.MaxInt }),
		"glyph no name":      with(func(f *Font) { f.Glyphs[0].Name = ""; f.Kerns = nil }),
		"glyph long":         with(func(f *Font) { f.Glyphs[3].Name = "ffghijklmno"; f.Ligs = nil }),
		"glyph blank":        with(func(f *Font) { f.Glyphs[3].Name = "f f"; f.Ligs = nil }),
		"glyph below 0":      with(func(f *Font) { f.Glyphs[3].Width = -1 }),
		"glyph broad":        with(func(f *Font) { f.Glyphs[0].Width = 3001 }),
		"glyph least":        with(func(f *Font) { f.Glyphs[1].Width = math.MinInt }),
		"glyphs descend":     with(func(f *Font) { f.Glyphs[0], f.Glyphs[1] = f.Glyphs[1], f.Glyphs[0] }),
		"glyphs descend end": with(func(f *Font) { f.Glyphs[2], f.Glyphs[3] = f.Glyphs[3], f.Glyphs[2] }),
		"glyph twice":        with(func(f *Font) { f.Glyphs = append(f.Glyphs, Glyph{"ff", 555}) }),
		"too many glyphs":    {Name: "X", Glyphs: many(401)},
		"lig A none":         with(func(f *Font) { f.Ligs[0].A = "g" }),
		"lig B none":         with(func(f *Font) { f.Ligs[0].B = "" }),
		"lig Is none":        with(func(f *Font) { f.Ligs[0].Is = "fi" }),
		"lig twice":          with(func(f *Font) { f.Ligs = append(f.Ligs, f.Ligs[0]) }),
		"lig pair twice":     with(func(f *Font) { f.Ligs = append(f.Ligs, Lig{"f", "f", "V"}) }),
		"ligs descend by A":  with(func(f *Font) { f.Ligs = append(f.Ligs, Lig{"V", "ff", "ff"}) }),
		"ligs descend by B":  with(func(f *Font) { f.Ligs = append(f.Ligs, Lig{"f", "V", "ff"}) }),
		"lig of no glyphs":   {Name: "X", Ligs: []Lig{{"a", "b", "c"}}},
		"kern A none":        with(func(f *Font) { f.Kerns[0].A = "" }),
		"kern B none":        with(func(f *Font) { f.Kerns[0].B = "B" }),
		"kern 0":             with(func(f *Font) { f.Kerns[0].By = 0 }),
		"kern high":          with(func(f *Font) { f.Kerns[0].By = 501 }),
		"kern low":           with(func(f *Font) { f.Kerns[1].By = -501 }),
		"kern twice":         with(func(f *Font) { f.Kerns = append(f.Kerns, f.Kerns[1]) }),
		"kern pair twice":    with(func(f *Font) { f.Kerns = append(f.Kerns, Kern{"V", "A", 82}) }),
		"kerns descend by A": with(func(f *Font) { f.Kerns = append(f.Kerns, Kern{"A", "ff", 1}) }),
		"kerns descend by B": with(func(f *Font) { f.Kerns[1] = Kern{"A", "A", 1} }),
		"kern of no glyphs":  {Name: "X", Kerns: []Kern{{"a", "b", 1}}},
	}
}

// P7.1: ErrArg of a font that is not valid, ahead of all else, and nothing beside the error (R3).
func TestFontsThatAreNotValid(t *testing.T) {
	for what, f := range badFonts() {
		if Valid(f) {
			t.Error("valid:", what)
		}
		for _, size := range []int{10, 0} {
			for _, name := range []string{"A", "f", "none", ""} {
				if n, err := Width(f, name, size); n != 0 || err != api.ErrArg {
					t.Error("Width:", what, name, size, n, err)
				}
				if n, err := Kerning(f, name, "V", size); n != 0 || err != api.ErrArg {
					t.Error("Kerning:", what, name, size, n, err)
				}
			}
			if n, err := Space(f, size); n != 0 || err != api.ErrArg {
				t.Error("Space:", what, size, n, err)
			}
		}
		if s, is := Join(f, "f", "f"); s != "" || is {
			t.Error("Join:", what, s)
		}
		if s, err := Write(f); s != "" || err != api.ErrArg {
			t.Error("Write:", what, s, err)
		}
		if g, err := Parse(modelWrite(f)); err != api.ErrForm || !isZero(g) {
			t.Error("Parse:", what, g, err)
		}
	}
}

// Terms: what a font may be at its bounds.
func TestFontsAtTheirBounds(t *testing.T) {
	for what, f := range map[string]Font{
		"good":          good(),
		"a name alone":  {Name: "a"},
		"a long name":   with(func(f *Font) { f.Name = "zZ34567890" }),
		"special":       with(func(f *Font) { f.Special = true }),
		"no space":      with(func(f *Font) { f.Space = 0 }),
		"a broad space": with(func(f *Font) { f.Space = 3000 }),
		"no width":      with(func(f *Font) { f.Glyphs[0].Width = 0 }),
		"a broad glyph": with(func(f *Font) { f.Glyphs[3].Width = 3000 }),
		"a long glyph":  with(func(f *Font) { f.Glyphs = append(f.Glyphs, Glyph{"ffghijklmn", 1}) }),
		"by bytes": with(func(f *Font) {
			f.Glyphs = []Glyph{{"!", 1}, {"A", 1}, {"V", 1}, {"f", 1}, {"f!", 1}, {"ff", 1}, {"g", 1}}
		}),
		"kern high":       with(func(f *Font) { f.Kerns[0].By = 500 }),
		"kern low":        with(func(f *Font) { f.Kerns[0].By = -500 }),
		"kern 1":          with(func(f *Font) { f.Kerns[0].By = 1 }),
		"kern -1":         with(func(f *Font) { f.Kerns[0].By = -1 }),
		"kerns by A":      with(func(f *Font) { f.Kerns = []Kern{{"A", "V", 1}, {"V", "A", 1}, {"V", "V", 1}, {"f", "A", 1}} }),
		"a pair as both":  with(func(f *Font) { f.Kerns = append(f.Kerns, Kern{"f", "f", 1}) }),
		"joined to one":   with(func(f *Font) { f.Ligs[0].Is = "f" }),
		"ligs by A and B": with(func(f *Font) { f.Ligs = []Lig{{"A", "f", "A"}, {"f", "A", "f"}, {"f", "V", "A"}, {"ff", "A", "A"}} }),
	} {
		if !Valid(f) {
			t.Error("not valid:", what)
		}
		checkFont(t, f, []string{"A", "V", "f", "ff", "B", ""}, 12)
	}
	for b := range 256 {
		s := string([]byte{byte(b)})
		letter := s >= "a" && s <= "z" || s >= "A" && s <= "Z"
		digit := s >= "0" && s <= "9"
		if Valid(Font{Name: s}) != letter || Valid(Font{Name: "X" + s}) != (letter || digit) || Valid(Font{Name: "abcdefghi" + s}) != (letter || digit) || Valid(Font{Name: s + "X"}) != letter {
			t.Errorf("a font with %q in its name", s)
		}
		seen := b >= 33 && b <= 126
		for _, name := range []string{s, "a" + s, s + "a", "abcdefghi" + s} {
			if Valid(Font{Name: "X", Glyphs: []Glyph{{name, 1}}}) != seen {
				t.Errorf("a glyph %q", name)
			}
		}
		if Valid(Font{Name: "X", Glyphs: []Glyph{{"abcdefghij" + s, 1}}}) {
			t.Errorf("a glyph of 11 bytes with %q", s)
		}
	}
}

// Terms: at most 400 glyphs, 50 ligatures, 500 kerns.
func TestCounts(t *testing.T) {
	f := Font{Name: "X", Glyphs: many(400)}
	for i := range 400 {
		f.Ligs = append(f.Ligs, Lig{f.Glyphs[i].Name, f.Glyphs[0].Name, f.Glyphs[1].Name})
		f.Kerns = append(f.Kerns, Kern{f.Glyphs[i].Name, f.Glyphs[0].Name, -1}, Kern{f.Glyphs[i].Name, f.Glyphs[1].Name, 1})
	}
	for _, c := range []struct {
		ligs, kerns int
		valid       bool
	}{{0, 0, true}, {50, 0, true}, {0, 500, true}, {50, 500, true}, {51, 0, false}, {51, 500, false}, {0, 501, false}, {50, 501, false}, {400, 800, false}} {
		g := f
		g.Ligs, g.Kerns = f.Ligs[:c.ligs], f.Kerns[:c.kerns]
		if Valid(g) != c.valid || modelValid(g) != c.valid {
			t.Error(c)
		}
		checkText(t, modelWrite(g))
	}
	f.Ligs, f.Kerns = f.Ligs[:50], f.Kerns[:500]
	for i, g := range f.Glyphs {
		if n, err := Width(f, g.Name, 100); n != i || err != api.OK {
			t.Error(g, n, err)
		}
		if s, is := Join(f, g.Name, "g000"); is != (i < 50) || is != (s == "g001") {
			t.Error(g, s, is)
		}
		n, err := Kerning(f, g.Name, "g001", 100)
		if m, e := Kerning(f, g.Name, "g000", 100); err != api.OK || e != api.OK || n != -m || n != map[bool]int{true: 1}[i < 250] {
			t.Error(g, n, m)
		}
	}
}

// P7.1: ErrArg of a size; it is ahead of ErrNone, and of Scale's ErrRange.
func TestSizes(t *testing.T) {
	f := good()
	for _, size := range []int{math.MinInt, -1000, -1, 0, 1, 2, 999, 1000, 1001, 10000, math.MaxInt} {
		want, none, out := api.OK, api.ErrNone, api.ErrRange
		if size < 1 || size > 1000 {
			want, none, out = api.ErrArg, api.ErrArg, api.ErrArg
		}
		w, e1 := Width(f, "A", size)
		w0, e2 := Width(f, "B", size)
		s, e3 := Space(f, size)
		k, e4 := Kerning(f, "A", "V", size)
		k0, e5 := Kerning(f, "A", "A", size)
		n, e6 := Scale(-7, size)
		n0, e7 := Scale(3001, size)
		if got := []api.Errno{e1, e2, e3, e4, e5, e6, e7}; !slices.Equal(got, []api.Errno{want, none, want, want, want, want, out}) {
			t.Error(size, got)
		}
		numbers := []int{0, 0, 0, 0, 0, 0, 0}
		if want == api.OK {
			numbers = []int{modelUnits(650, size), 0, modelUnits(250, size), modelUnits(-80, size), 0, modelUnits(-7, size), 0}
		}
		if got := []int{w, w0, s, k, k0, n, n0}; !slices.Equal(got, numbers) {
			t.Error(size, got, numbers)
		}
	}
}

// P7.2, P7.3: Scale of all thousandths at all sizes, rounded down, also below 0; widths never shrink as sizes grow.
func TestScale(t *testing.T) {
	for n := -3000; n <= 3000; n++ {
		last := 0
		for size := 1; size <= 1000; size++ {
			u, err := Scale(n, size)
			if err != api.OK || 100*u > n*size || 100*(u+1) <= n*size {
				t.Fatal(n, size, u, err)
			}
			if n >= 0 && u < last {
				t.Fatal("shrinks", n, size, last, u)
			}
			last = u
		}
	}
	for _, n := range []int{math.MinInt, -1000000, -3001, 3001, 1000000, math.MaxInt} {
		if u, err := Scale(n, 10); u != 0 || err != api.ErrRange {
			t.Error(n, u, err)
		}
	}
	for _, c := range [][3]int{{-80, 12, -10}, {-100, 1, -1}, {-99, 1, -1}, {-1, 1, -1}, {99, 1, 0}, {100, 1, 1}, {0, 1, 0}, {-3000, 1000, -30000}, {3000, 1000, 30000}, {500, 10, 50}, {3000, 1, 30}, {-101, 1, -2}} {
		if u, err := Scale(c[0], c[1]); u != c[2] || err != api.OK {
			t.Error(c, u, err)
		}
	}
}

// P7.3: widths never shrink as sizes grow, of any glyph and of spaces.
func TestWidthsNeverShrink(t *testing.T) {
	f := good()
	for _, g := range f.Glyphs {
		last := 0
		for size := 1; size <= 1000; size++ {
			w, err := Width(f, g.Name, size)
			if err != api.OK || w < last || w != modelUnits(g.Width, size) {
				t.Fatal(g, size, last, w, err)
			}
			last = w
		}
	}
	last := 0
	for size := 1; size <= 1000; size++ {
		w, err := Space(f, size)
		if err != api.OK || w < last || w != modelUnits(f.Space, size) {
			t.Fatal(size, last, w, err)
		}
		last = w
	}
}

// P7.2: what is not there: of Width ErrNone, of Kerning 0, of Join false.
func TestNone(t *testing.T) {
	f := good()
	for _, name := range []string{"", "a", "F", "fff", "f ", " ", "\n", "é", "\xff", "zzzzzzzzzzzz", strings.Repeat("f", 100000)} {
		if n, err := Width(f, name, 10); n != 0 || err != api.ErrNone {
			t.Error("Width", name, n, err)
		}
		for _, other := range []string{name, "A", "f", "V"} {
			for _, pair := range [][2]string{{name, other}, {other, name}} {
				if n, err := Kerning(f, pair[0], pair[1], 10); n != 0 || err != api.OK {
					t.Error("Kerning", pair, n, err)
				}
				if s, is := Join(f, pair[0], pair[1]); s != "" || is {
					t.Error("Join", pair, s)
				}
			}
		}
		if Has(f, name) {
			t.Error("Has", name)
		}
	}
	// A pair is in its order.
	turned := with(func(f *Font) { f.Ligs = []Lig{{"A", "f", "V"}}; f.Kerns = f.Kerns[:1] })
	if s, is := Join(turned, "f", "A"); s != "" || is {
		t.Error("Join", s)
	}
	if s, is := Join(turned, "A", "f"); s != "V" || !is {
		t.Error("Join", s, is)
	}
	if n, err := Kerning(turned, "V", "A", 10); n != 0 || err != api.OK {
		t.Error("Kerning", n, err)
	}
}

// P7.2: Has of any font, by looking.
func TestHas(t *testing.T) {
	f := Font{Space: -1, Glyphs: []Glyph{{"b", 1}, {"", -5}, {"a b", 1}, {"b", 2}, {"a", 1}, {strings.Repeat("a", 50), 1}}}
	for name, want := range map[string]bool{"a": true, "b": true, "": true, "a b": true, strings.Repeat("a", 50): true, strings.Repeat("a", 49): false, "A": false, " ": false, "c": false} {
		if Has(f, name) != want {
			t.Errorf("%q: %t", name, !want)
		}
	}
	if Has(Font{}, "") || Has(Font{}, "a") || !Has(good(), "A") || !Has(good(), "ff") {
		t.Error("others")
	}
}

// P7.2: Mono looks at all widths and at Space; of no glyphs it is true.
func TestMono(t *testing.T) {
	for want, fonts := range map[bool][]Font{
		true: {{}, {Name: "X"}, {Name: "X", Space: 250}, {Name: "X", Space: 5, Glyphs: []Glyph{{"a", 5}}}, {Name: "X", Special: true, Glyphs: []Glyph{{"a", 0}, {"b", 0}}},
			{Name: "X", Space: 9, Glyphs: []Glyph{{"a", 9}, {"b", 9}}, Ligs: []Lig{{"a", "a", "b"}}, Kerns: []Kern{{"a", "a", 7}}}},
		false: {{Name: "X", Space: 5, Glyphs: []Glyph{{"a", 4}}}, {Space: 5, Glyphs: []Glyph{{"a", 4}}}, {Name: "X", Space: 5, Glyphs: []Glyph{{"a", 5}, {"b", 6}}}, {Name: "X", Space: 5, Glyphs: []Glyph{{"a", 6}, {"b", 5}}},
			{Name: "X", Space: 5, Glyphs: []Glyph{{"a", 6}, {"b", 6}}}, {Name: "X", Glyphs: []Glyph{{"a", 5}, {"b", 5}}}, good()},
	} {
		for _, f := range fonts {
			if Mono(f) != want {
				t.Errorf("Mono(%+v): %t", f, !want)
			}
		}
	}
}

// Same looks at all of a font; an empty list and none are the same (R5).
func TestSame(t *testing.T) {
	if !Same(good(), good()) || !Same(Font{}, Font{}) || !Same(Font{Glyphs: []Glyph{}, Kerns: []Kern{}}, Font{Ligs: []Lig{}}) {
		t.Error("the same")
	}
	if broad := make([]Glyph, 4, 100); copy(broad, good().Glyphs) != 4 || !Same(good(), with(func(f *Font) { f.Glyphs = broad })) {
		t.Error("a slice with room behind it")
	}
	for i, f := range []Font{
		{},
		with(func(f *Font) { f.Name = "Y" }),
		with(func(f *Font) { f.Special = true }),
		with(func(f *Font) { f.Space = 251 }),
		with(func(f *Font) { f.Glyphs = nil }),
		with(func(f *Font) { f.Glyphs = f.Glyphs[:3] }),
		with(func(f *Font) { f.Glyphs = append(f.Glyphs, Glyph{"g", 1}) }),
		with(func(f *Font) { f.Glyphs[3].Width++ }),
		with(func(f *Font) { f.Glyphs[3].Name = "fg" }),
		with(func(f *Font) { f.Ligs = nil }),
		with(func(f *Font) { f.Ligs[0].A = "A" }),
		with(func(f *Font) { f.Ligs[0].B = "A" }),
		with(func(f *Font) { f.Ligs[0].Is = "A" }),
		with(func(f *Font) { f.Kerns = f.Kerns[:1] }),
		with(func(f *Font) { f.Kerns[0].A = "V" }),
		with(func(f *Font) { f.Kerns[1].B = "V" }),
		with(func(f *Font) { f.Kerns[1].By-- }),
		with(func(f *Font) { f.Kerns[0], f.Kerns[1] = f.Kerns[1], f.Kerns[0] }),
	} {
		if Same(good(), f) || Same(f, good()) || !Same(f, f) {
			t.Error(i)
		}
	}
}

// R5: arguments stay, and what is in a result is its own.
func TestMemory(t *testing.T) {
	f := good()
	s, _ := Write(f)
	g, _ := Parse(s)
	h, _ := Parse(s)
	Width(f, "A", 10)
	Join(f, "f", "f")
	Kerning(f, "A", "V", 10)
	g.Glyphs[0].Width, g.Ligs[0].Is, g.Kerns[0].By = 1, "A", 1
	_ = append(h.Glyphs, Glyph{"x", 1})
	if !Same(f, good()) || !Same(h, good()) || s != modelWrite(good()) {
		t.Error("changed")
	}
	list := Standard()
	list[0].Ligs[0].Is, list[0].Glyphs[0].Width, list[0].Kerns[0].By = "x", 1, 1
	list[4].Glyphs[0].Width = 1
	again := Standard()
	if !Same(list[2], again[2]) || !Same(list[1], again[1]) || !Same(list[3], again[3]) || Same(list[0], again[0]) || Same(list[4], again[4]) {
		t.Error("fonts that share")
	}
	for i := range again {
		if !Valid(again[i]) {
			t.Error("Standard gives what it gave", i)
		}
	}
}
