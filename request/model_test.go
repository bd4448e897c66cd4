package request

import (
	"math/rand"
	"regexp"
	"slices"
	"strings"
	"testing"

	"frisket/api"
)

// A piece is what belongs together outside of quotes: a \ with the byte behind it, or one that is no blank.
const piece = `(?s:\\.|\\$|[^ \t\\])`

var (
	wordForm      = regexp.MustCompile(`^(?:"((?s:\\.|\\$|""|[^"\\])*)(?:"(` + piece + `*)|$)|(` + piece + `+))`)
	quoteForm     = regexp.MustCompile(`(?s)(\\.)|""`)
	lineForm      = regexp.MustCompile(`^([.'])[ \t]*([^ \t]*)((?s:.*))$`)
	conditionForm = regexp.MustCompile(`^[ \t]*(!*)(?:([oetn])|([dr])([^ \t]+)|([^a-zA-Z0-9 \t(+\-.|!\\].*)|([^oetndr! \t][^ \t]*))[ \t]*((?s:.*))$`)
	braceForm     = regexp.MustCompile(`(?s)\\.`)
	// Within quotes a \" would have its quote doubled, and a \ at the end would take the one there.
	lostForm = regexp.MustCompile(`\n|^(?:.*[^\\])?\\(?:\\\\)*$|^(?:[^\\]|\\[^"])*\\".*[ \t]|[ \t](?:[^\\]|\\[^"])*\\"|^"(?:[^\\]|\\[^"])*\\"`)
)

// latin writes each byte as a character of its own, because regexps go over characters.
func latin(s string) string {
	var runes []rune
	for _, b := range []byte(s) {
		runes = append(runes, rune(b))
	}
	return string(runes)
}

func bytesOf(s string) string {
	var bytes []byte
	for _, r := range s {
		bytes = append(bytes, byte(r))
	}
	return string(bytes)
}

func modelWords(s string) []string {
	var words []string
	for s = latin(s); ; {
		s = strings.TrimLeft(s, " \t")
		m := wordForm.FindStringSubmatch(s)
		if m == nil {
			return words
		}
		word := quoteForm.ReplaceAllStringFunc(m[1], func(pair string) string {
			if pair == `""` {
				return `"`
			}
			return pair
		})
		words = append(words, bytesOf(word+m[2]+m[3]))
		s = s[len(m[0]):]
	}
}

func modelSplit(line string) (Request, bool) {
	m := lineForm.FindStringSubmatch(latin(line))
	if m == nil {
		return Request{}, false
	}
	r := Request{Name: bytesOf(m[2]), Rest: bytesOf(m[3]), Quiet: m[1] == "'"}
	r.Rest = r.Rest[min(1, len(r.Rest)):]
	r.Args = modelWords(r.Rest)
	return r, true
}

func modelCondition(s string) (Cond, bool) {
	m := conditionForm.FindStringSubmatch(latin(s))
	if m == nil {
		return Cond{}, false
	}
	for i := range m {
		m[i] = bytesOf(m[i])
	}
	c := Cond{Not: len(m[1])%2 == 1, Name: m[4] + m[6], Rest: m[7]}
	switch {
	case m[2]+m[3] != "":
		c.Kind = (m[2] + m[3])[0]
	case m[6] != "":
		c.Kind = 'x'
	default:
		parts := strings.SplitN(m[5][1:]+m[7], m[5][:1], 3)
		if len(parts) < 3 {
			return Cond{}, false
		}
		c.Kind, c.Left, c.Right, c.Rest = '\'', parts[0], parts[1], strings.TrimLeft(parts[2], " \t")
	}
	return c, true
}

func modelBraces(line string, depth int) (int, int) {
	depth = max(depth, 0)
	for _, at := range braceForm.FindAllStringIndex(latin(line), -1) {
		was := depth
		switch latin(line)[at[0]:at[1]] {
		case `\{`:
			depth++
		case `\}`:
			depth = max(depth-1, 0)
		}
		if was > 0 && depth == 0 {
			return 0, len(bytesOf(latin(line)[:at[1]]))
		}
	}
	return depth, -1
}

// checkModel holds all that is promised of a line against the models.
func checkModel(t *testing.T, s string) {
	t.Helper()
	if words, want := Words(s), modelWords(s); !slices.Equal(words, want) {
		t.Fatalf("Words(%q): %q; want %q", s, words, want)
	}
	for _, line := range []string{s, "." + s, "'" + s} {
		r, is, err := Split(line, '.', '\'')
		want, wanted := modelSplit(line)
		if shown(r) != shown(want) || is != wanted || err != api.OK {
			t.Fatalf("Split(%q): %s %t %d; want %s %t", line, shown(r), is, err, shown(want), wanted)
		}
	}
	for _, text := range []string{s, "'" + s, "d" + s, "!" + s, "x" + s} {
		c, err := Condition(text)
		if want, ok := modelCondition(text); c != want || ok != (err == api.OK) || !ok && err != api.ErrForm {
			t.Fatalf("Condition(%q): %+v %d; want %+v %t", text, c, err, want, ok)
		}
	}
	for depth := -1; depth < 4; depth++ {
		after, end := Braces(s, depth)
		if want, ends := modelBraces(s, depth); after != want || end != ends {
			t.Fatalf("Braces(%q, %d): %d %d; want %d %d", s, depth, after, end, want, ends)
		}
	}
	checkWritten(t, "x", []string{s})
}

// checkWritten holds what Write makes of arguments against what may be written, and against what is read of it: P6.4.
func checkWritten(t *testing.T, name string, args []string) {
	t.Helper()
	lost := slices.ContainsFunc(args, func(arg string) bool { return lostForm.MatchString(latin(arg)) })
	line, err := Write(name, args)
	if lost {
		if line != "" || err != api.ErrForm {
			t.Fatalf("Write(%q, %q): %q %d", name, args, line, err)
		}
		return
	}
	r, is, e := Split(line, '.', '\'')
	if err != api.OK || e != api.OK || !is || r.Name != name || r.Quiet || !slices.Equal(r.Args, args) || !slices.Equal(Words(r.Rest), args) {
		t.Fatalf("Write(%q, %q): %q %d, which is %s %t %d", name, args, line, err, shown(r), is, e)
	}
	// It is as short as its arguments let it be.
	want := "." + name
	for _, arg := range args {
		if arg == "" || arg[0] == '"' || strings.ContainsAny(arg, " \t") {
			arg = `"` + strings.Join(strings.Split(arg, `"`), `""`) + `"`
		}
		want += " " + arg
	}
	if line != want {
		t.Fatalf("Write(%q, %q): %q; want %q", name, args, line, want)
	}
}

// P6.2, P6.3, P6.4, of all short lines.
func TestAllShortLines(t *testing.T) {
	for _, bytes := range []string{" \t\"\\ab.'", `o d!1'"\`, ` \{}"a`} {
		lines := []string{""}
		for i := 0; i < len(lines); i++ {
			checkModel(t, lines[i])
			for j := range bytes {
				if len(lines[i]) < 5 {
					lines = append(lines, lines[i]+bytes[j:j+1])
				}
			}
		}
	}
}

var allPieces = []string{
	" ", " ", "\t", "  ", `"`, `"`, `""`, `\`, `\`, `\"`, `\ `, `\\`, "'", "!", ".", "a", "b", "o", "e", "t", "n", "d", "r", "x", "1", ">", "(", ")", "+", "-", "|", "/", "~", "\x00", "\x7f", "\x80", "\xff", "é", "\r", `\{`, `\}`, `\{`, `\}`, "{", "}", "abc", `"a b"`, "'a'b'",
}

func randomLine(random *rand.Rand, most int) string {
	s := ""
	for range random.Intn(most) {
		s += allPieces[random.Intn(len(allPieces))]
	}
	return s
}

// P6.2, P6.3, P6.4, of long lines.
func TestLongLines(t *testing.T) {
	random := rand.New(rand.NewSource(1))
	for range 40000 {
		checkModel(t, randomLine(random, 30))
	}
}

// P6.3, P6.4, of several arguments, some of which cannot be written.
func TestManyArguments(t *testing.T) {
	random := rand.New(rand.NewSource(2))
	for range 40000 {
		var args []string
		for range random.Intn(6) {
			args = append(args, randomLine(random, 5))
		}
		name := strings.NewReplacer(" ", "", "\t", "").Replace(randomLine(random, 4)) + "x"
		checkWritten(t, name, args)
	}
}

// R1: whatever the arguments are, there is a result.
func TestTerminates(t *testing.T) {
	random := rand.New(rand.NewSource(3))
	for range 5000 {
		s := randomLine(random, 60) + strings.Repeat("\n", random.Intn(2)) + randomLine(random, 60)
		control, quiet := byte(random.Intn(256)), byte(random.Intn(256))
		_, is, err := Split(s, control, quiet)
		_, e := Condition(s)
		_, f := Write(s, []string{s, s})
		if bad := strings.Contains(s, "\n"); bad && (is || err != api.ErrArg || e != api.ErrArg || f != api.ErrArg) {
			t.Fatalf("%q: %t %d %d %d", s, is, err, e, f)
		}
		Words(s)
		Braces(s, random.Intn(20)-10)
	}
}
