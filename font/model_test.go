package font

import (
	"fmt"
	"math/rand"
	"regexp"
	"slices"
	"sort"
	"strings"
	"testing"

	"frisket/api"
)

const (
	nameForm   = `[!-~]{1,10}`
	numberForm = `(?:0|[1-9][0-9]{0,3})`
)

var (
	fontNameForm  = regexp.MustCompile(`^[a-zA-Z][a-zA-Z0-9]{0,9}$`)
	glyphNameForm = regexp.MustCompile(`^` + nameForm + `$`)
	textForm      = regexp.MustCompile(`^font ([a-zA-Z][a-zA-Z0-9]{0,9})( special)?\nspace (` + numberForm + `)\n((?:g ` + nameForm + ` ` + numberForm + `\n)*)((?:l ` + nameForm + ` ` + nameForm + ` ` + nameForm + `\n)*)((?:k ` + nameForm + ` ` + nameForm + ` -?[1-9][0-9]{0,2}\n)*)$`)
)

// modelList tells whether keys, of which some may be known, make a list that ascends.
func modelList(keys []string, most int) bool {
	met := map[string]bool{}
	for _, key := range keys {
		met[key] = true
	}
	return len(keys) <= most && len(met) == len(keys) && sort.StringsAreSorted(keys)
}

func modelValid(f Font) bool {
	has := map[string]bool{}
	var glyphs, ligs, kerns []string
	valid := fontNameForm.MatchString(f.Name) && f.Space >= 0 && f.Space <= 3000
	for _, g := range f.Glyphs {
		has[g.Name] = true
		valid = valid && glyphNameForm.MatchString(g.Name) && g.Width >= 0 && g.Width <= 3000
		glyphs = append(glyphs, g.Name)
	}
	for _, l := range f.Ligs {
		valid = valid && has[l.A] && has[l.B] && has[l.Is]
		ligs = append(ligs, l.A+" "+l.B) // a blank is below all bytes of names
	}
	for _, k := range f.Kerns {
		valid = valid && has[k.A] && has[k.B] && k.By != 0 && k.By >= -500 && k.By <= 500
		kerns = append(kerns, k.A+" "+k.B)
	}
	return valid && modelList(glyphs, 400) && modelList(ligs, 50) && modelList(kerns, 500)
}

func modelWrite(f Font) string {
	text := fmt.Sprintf("font %s%s\nspace %d\n", f.Name, map[bool]string{true: " special"}[f.Special], f.Space)
	for _, g := range f.Glyphs {
		text += fmt.Sprintf("g %s %d\n", g.Name, g.Width)
	}
	for _, l := range f.Ligs {
		text += fmt.Sprintf("l %s %s %s\n", l.A, l.B, l.Is)
	}
	for _, k := range f.Kerns {
		text += fmt.Sprintf("k %s %s %d\n", k.A, k.B, k.By)
	}
	return text
}

// modelParse reads a description by its form; lines are read by their words.
func modelParse(s string) (f Font, is bool) {
	m := textForm.FindStringSubmatch(s)
	if m == nil {
		return Font{}, false
	}
	f.Name, f.Special = m[1], m[2] != ""
	fmt.Sscan(m[3], &f.Space)
	for _, line := range strings.Split(strings.TrimSuffix(m[4], "\n"), "\n") {
		var g Glyph
		if n, _ := fmt.Sscanf(line, "g %s %d", &g.Name, &g.Width); n == 2 {
			f.Glyphs = append(f.Glyphs, g)
		}
	}
	for _, line := range strings.Split(strings.TrimSuffix(m[5], "\n"), "\n") {
		var l Lig
		if n, _ := fmt.Sscanf(line, "l %s %s %s", &l.A, &l.B, &l.Is); n == 3 {
			f.Ligs = append(f.Ligs, l)
		}
	}
	for _, line := range strings.Split(strings.TrimSuffix(m[6], "\n"), "\n") {
		var k Kern
		if n, _ := fmt.Sscanf(line, "k %s %s %d", &k.A, &k.B, &k.By); n == 3 {
			f.Kerns = append(f.Kerns, k)
		}
	}
	return f, modelValid(f)
}

// modelUnits finds the greatest number of units that is not above 10 * size * n / 1000.
func modelUnits(n, size int) int {
	u := n*size/100 + 2
	for 1000*u > 10*size*n {
		u--
	}
	return u
}

// checkFont holds all that is promised of a font against the models.
func checkFont(t *testing.T, f Font, names []string, size int) {
	t.Helper()
	valid, sized := modelValid(f), size >= 1 && size <= 1000
	if Valid(f) != valid {
		t.Fatalf("Valid(%+v): %t", f, !valid)
	}
	text, want := "", api.ErrArg
	if valid {
		text, want = modelWrite(f), api.OK
	}
	if s, err := Write(f); s != text || err != want {
		t.Fatalf("Write(%+v): %q %d", f, s, err)
	}
	checkText(t, modelWrite(f))
	if !sized {
		want = api.ErrArg
	}
	space := 0
	if want == api.OK {
		space = modelUnits(f.Space, size)
	}
	if n, err := Space(f, size); n != space || err != want {
		t.Fatalf("Space(%+v, %d): %d %d", f, size, n, err)
	}
	for _, a := range names {
		checkGlyph(t, f, a, size, want)
		for _, b := range names {
			checkPair(t, f, a, b, size, want)
		}
	}
}

func checkGlyph(t *testing.T, f Font, a string, size int, want api.Errno) {
	t.Helper()
	at := slices.IndexFunc(f.Glyphs, func(g Glyph) bool { return g.Name == a })
	if Has(f, a) != (at >= 0) {
		t.Fatalf("Has(%+v, %q): %t", f, a, at < 0)
	}
	width := 0
	if want == api.OK && at < 0 {
		want = api.ErrNone
	} else if want == api.OK {
		width = modelUnits(f.Glyphs[at].Width, size)
	}
	if n, err := Width(f, a, size); n != width || err != want {
		t.Fatalf("Width(%+v, %q, %d): %d %d; want %d %d", f, a, size, n, err, width, want)
	}
}

func checkPair(t *testing.T, f Font, a, b string, size int, want api.Errno) {
	t.Helper()
	joined, by := "", 0
	for _, l := range f.Ligs {
		if l.A == a && l.B == b && Valid(f) {
			joined = l.Is
		}
	}
	for _, k := range f.Kerns {
		if k.A == a && k.B == b && want == api.OK {
			by = modelUnits(k.By, size)
		}
	}
	if s, is := Join(f, a, b); s != joined || is != (joined != "") {
		t.Fatalf("Join(%+v, %q, %q): %q %t", f, a, b, s, is)
	}
	if n, err := Kerning(f, a, b, size); n != by || err != want {
		t.Fatalf("Kerning(%+v, %q, %q, %d): %d %d; want %d %d", f, a, b, size, n, err, by, want)
	}
}

// checkText holds Parse of any text against its model.
func checkText(t *testing.T, s string) {
	t.Helper()
	want, is := modelParse(s)
	f, err := Parse(s)
	if is && (err != api.OK || !Same(f, want)) || !is && (err != api.ErrForm || !isZero(f)) {
		t.Fatalf("Parse(%q): %+v %d; want %+v %t", s, f, err, want, is)
	}
	if !is {
		return
	}
	if text, err := Write(f); text != s || err != api.OK {
		t.Fatalf("Write of Parse of %q: %q %d", s, text, err)
	}
}

func isZero(f Font) bool { return fmt.Sprintf("%#v", f) == fmt.Sprintf("%#v", Font{}) }

// randomFont makes a font that is often valid.
func randomFont(r *rand.Rand, names []string) Font {
	pick := func() string { return names[r.Intn(len(names))] }
	near := func(list ...int) int { return list[r.Intn(len(list))] }
	f := Font{Name: []string{"X", "special", "g1", "Abcdefgh10"}[r.Intn(4)], Special: r.Intn(2) == 0, Space: near(0, 1, 250, 2999, 3000)}
	for _, n := range names {
		if r.Intn(5) > 0 {
			f.Glyphs = append(f.Glyphs, Glyph{n, near(0, 1, 7, 99, 550, 3000)})
		}
	}
	for range r.Intn(5) {
		f.Ligs = append(f.Ligs, Lig{pick(), pick(), pick()})
	}
	for range r.Intn(5) {
		f.Kerns = append(f.Kerns, Kern{pick(), pick(), near(-500, -81, -1, 1, 60, 500)})
	}
	before := func(a, b [2]string) bool { return a[0] < b[0] || a[0] == b[0] && a[1] < b[1] }
	if r.Intn(8) > 0 {
		sort.Slice(f.Glyphs, func(i, j int) bool { return f.Glyphs[i].Name < f.Glyphs[j].Name })
	}
	if r.Intn(8) > 0 {
		sort.Slice(f.Ligs, func(i, j int) bool {
			return before([2]string{f.Ligs[i].A, f.Ligs[i].B}, [2]string{f.Ligs[j].A, f.Ligs[j].B})
		})
	}
	if r.Intn(8) > 0 {
		sort.Slice(f.Kerns, func(i, j int) bool {
			return before([2]string{f.Kerns[i].A, f.Kerns[i].B}, [2]string{f.Kerns[j].A, f.Kerns[j].B})
		})
	}
	return f
}

// P7.1, P7.2, P7.3: random fonts of few names, valid or nearly so.
func TestRandomFonts(t *testing.T) {
	r := rand.New(rand.NewSource(7))
	names := []string{"!", "a", "ab", "abcdefghij", "b", "~", "-"}
	valid := 0
	for range 20000 {
		f := randomFont(r, names)
		switch r.Intn(20) {
		case 0:
			f.Name = []string{"", "1", "a b", "Abcdefghi10", "é", "X\n"}[r.Intn(6)]
		case 1:
			f.Space = []int{-1, 3001}[r.Intn(2)]
		case 2:
			f.Glyphs = append(f.Glyphs, Glyph{[]string{"~", "~~", "", "~ ", "~\x7f", "\xff", "~bcdefghijk", "~\n"}[r.Intn(8)], []int{0, -1, 3000, 3001}[r.Intn(4)]})
		case 3:
			f.Kerns = append(f.Kerns, Kern{"~", "~", []int{0, 1, -501, 501, -500}[r.Intn(5)]})
		case 4:
			f.Ligs = append(f.Ligs, Lig{"~", "~", []string{"", "a", "c"}[r.Intn(3)]})
		}
		if modelValid(f) {
			valid++
		}
		checkFont(t, f, append(names, "", "c", "a ", strings.Repeat("a", 100)), []int{-1, 0, 1, 3, 9, 12, 999, 1000, 1001}[r.Intn(9)])
	}
	if valid < 2000 || valid > 18000 {
		t.Error("valid ones", valid)
	}
}

// P7.2: Parse reads nothing but what Write writes: each text that is one, two or three changes away.
func TestParseOfChanged(t *testing.T) {
	r := rand.New(rand.NewSource(8))
	pieces := []string{"", " ", "\n", "0", "1", "-", "+", "g", "l", "k", "a", "b", "special", " special", "font", "space", "\t", "\r", "é", "9999", "g a 1\n", "k a b 1\n", "l a a b\n", "space 1\n", "font X\n", "-0", "01", "~", "\x00", "_"}
	for range 300 {
		f := randomFont(r, []string{"a", "b", "g", "k", "l"})
		s := modelWrite(f)
		checkText(t, s)
		for range 100 {
			changed := s
			for range 1 + r.Intn(3) {
				from := r.Intn(len(changed) + 1)
				to := min(from+r.Intn(3), len(changed))
				changed = changed[:from] + pieces[r.Intn(len(pieces))] + changed[to:]
			}
			checkText(t, changed)
		}
	}
}

// P7.2: all short changes of one text: each byte left out, doubled, or another one; each line elsewhere.
func TestParseOfAllChanged(t *testing.T) {
	s := "font X special\nspace 250\ng a 0\ng b 3000\ng fi 10\nl a b fi\nl b a a\nk a b -500\nk b b 7\n"
	if _, err := Parse(s); err != api.OK {
		t.Fatal(err)
	}
	for i := range len(s) {
		checkText(t, s[:i])
		checkText(t, s[i:])
		checkText(t, s[:i]+s[i+1:])
		for b := range 256 {
			checkText(t, s[:i]+string([]byte{byte(b)})+s[i:])
			checkText(t, s[:i]+string([]byte{byte(b)})+s[i+1:])
		}
	}
	checkText(t, s+"\n")
	lines := strings.SplitAfter(strings.TrimSuffix(s, "\n"), "\n")
	lines[len(lines)-1] += "\n"
	for i := range lines {
		rest := slices.Concat(lines[:i], lines[i+1:])
		for j := range len(rest) + 1 {
			checkText(t, strings.Join(slices.Insert(slices.Clone(rest), j, lines[i]), ""))
			checkText(t, strings.Join(slices.Insert(slices.Clone(lines), j, lines[i]), ""))
		}
	}
}
