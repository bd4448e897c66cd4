package expand

import (
	"math/rand"
	"regexp"
	"slices"
	"strings"
	"testing"

	"frisket/api"
)

const short = `[!-'),.-Z\\-~*]`

var namedEscape = regexp.MustCompile(`^\\(?:(n)([+-]?)|([*$]))(?:(` + short + `)|\((` + short + short + `)|\[([!-\\^-~]{1,20})\])`)

// modelExpand expands by the document's rules, one after the other, byte by byte; it knows no limits.
func modelExpand(s string, copy bool, look Look) string {
	out := ""
	for s != "" {
		m := namedEscape.FindStringSubmatch(s)
		w := strings.HasPrefix(s, `\w`) && len(s) > 2 && s[2] != '\\'
		switch {
		case strings.HasPrefix(s, `\"`):
			return out
		case m != nil && m[1] == "n":
			out += look('n', m[4]+m[5]+m[6], map[string]int{"+": 1, "-": -1}[m[2]])
			s = s[len(m[0]):]
		case m != nil:
			s = look(m[3][0], m[4]+m[5]+m[6], 0) + s[len(m[0]):]
		case !copy && w && strings.Contains(s[3:], s[2:3]):
			text, rest, _ := strings.Cut(s[3:], s[2:3])
			out += look('w', modelExpand(text, copy, look), 0)
			s = rest
		case copy && (strings.HasPrefix(s, `\\`) || strings.HasPrefix(s, `\.`)):
			out, s = out+s[1:2], s[2:]
		case s[0] == '\\' && len(s) > 1 && strings.IndexByte("n*$w", s[1]) < 0:
			out, s = out+s[:2], s[2:]
		default:
			out, s = out+s[:1], s[1:]
		}
	}
	return out
}

// modelNames reads the names by the document's rules; it cuts the text of \w off ahead of reading in it, and gives "" where \" ends all.
func modelNames(s string) []string {
	var names []string
	for s != "" {
		m := namedEscape.FindStringSubmatch(s)
		w := strings.HasPrefix(s, `\w`) && len(s) > 2 && s[2] != '\\'
		switch {
		case strings.HasPrefix(s, `\"`):
			return append(names, "")
		case m != nil:
			names, s = append(names, m[1]+m[3]+":"+m[4]+m[5]+m[6]), s[len(m[0]):]
		case w && strings.Contains(s[3:], s[2:3]):
			text, rest, _ := strings.Cut(s[3:], s[2:3])
			names, s = append(names, modelNames(text)...), rest
			if slices.Contains(names, "") {
				return names
			}
		case s[0] == '\\' && len(s) > 1 && strings.IndexByte("n*$w", s[1]) < 0:
			s = s[2:]
		default:
			s = s[1:]
		}
	}
	return names
}

// namesAsked is which names Expand asks for where each answer is empty, so that nothing is put ahead. In a text of \w a \" ends just that text.
func namesAsked(s string) []string {
	var names []string
	Expand(s, false, func(kind byte, name string, step int) string {
		if kind != 'w' {
			names = append(names, string(rune(kind))+":"+name)
		}
		return ""
	})
	return names
}

// The answers end, as those that are read again ask for nothing that has such an answer itself.
func modelLook(asked *[]string) Look {
	return func(kind byte, name string, step int) string {
		*asked = append(*asked, string(rune(kind))+name+string(rune('1'+step)))
		answer := "<" + name + ">"
		switch {
		case kind == '*' && name == "x":
			answer = `\nx\\`
		case kind == '*' && name == "n":
			answer = `\`
		case kind == '*' && name == "w":
			answer = `\w'n`
		case kind == '*' && name == "*":
			answer = "'"
		case kind == '$':
			answer = `\n`
		}
		return answer
	}
}

// checkModel holds all that is promised of s against the model, and against its consequences.
func checkModel(t *testing.T, s string) {
	t.Helper()
	plain := true
	for _, copy := range []bool{false, true} {
		var asked, wanted []string
		got, err := Expand(s, copy, modelLook(&asked))
		want := modelExpand(s, copy, modelLook(&wanted))
		if got != want || err != api.OK || !slices.Equal(asked, wanted) {
			t.Fatalf("Expand(%q, %t) = %q, %d, asks %q; want %q, asks %q", s, copy, got, err, asked, want, wanted)
		}
		if !copy {
			plain = len(wanted) == 0 && want == s
		}
	}
	if Plain(s) != plain {
		t.Fatalf("Plain(%q) is %t", s, !plain)
	}
	want := modelNames(s)
	if n := len(want); n > 0 && want[n-1] == "" {
		want = want[:n-1]
	}
	if names := Names(s); !slices.Equal(names, want) {
		t.Fatalf("Names(%q) = %q; want %q", s, names, want)
	}
	if asked := namesAsked(s); !strings.Contains(s, `\"`) && !slices.Equal(want, asked) {
		t.Fatalf("Names(%q) = %q; asked are %q", s, want, asked)
	}
	checkProtected(t, s)
}

// P4.3: Expand in copy mode of Protect is the text, and asks for nothing.
func checkProtected(t *testing.T, s string) {
	t.Helper()
	protected, err := Protect(s)
	if protected != strings.Join(strings.Split(s, `\`), `\\`) || err != api.OK {
		t.Fatalf("Protect(%q) = %q, %d", s, protected, err)
	}
	asked := 0
	back, err := Expand(protected, true, repeated("", &asked))
	if back != s || err != api.OK || asked != 0 {
		t.Fatalf("Expand of Protect of %q is %q, %d, asks %d", s, back, err, asked)
	}
}

// P4.2 and P4.3, of all short texts.
func TestAllShortTexts(t *testing.T) {
	const bytes = `\n*w$'"x.([+`
	texts := []string{""}
	for i := 0; i < len(texts); i++ {
		checkModel(t, texts[i])
		for j := range bytes {
			if len(texts[i]) < 5 {
				texts = append(texts, texts[i]+bytes[j:j+1])
			}
		}
	}
}

func randomText(random *rand.Rand, pieces []string, most int) string {
	s := ""
	for range random.Intn(most) {
		s += pieces[random.Intn(len(pieces))]
	}
	return s
}

var allPieces = []string{
	`\`, `\`, `\n`, `\*`, `\$`, `\w`, `\w'`, `\"`, `\.`, `\e`, `\f`, "n", "w", "x", "e", "'", "'", `"`, "(", "[", "]", "]", "+", "-", ".", " ", "\t", "\x00", "\x7f", "\x80", "\xff", "é", `\nx`, `\*x`, `\*n`, `\*w`, `\**`, `\$1`, `\n[`, `\*(`, "abcdefghij",
}

// P4.2 and P4.3, of long texts.
func TestLongTexts(t *testing.T) {
	random := rand.New(rand.NewSource(1))
	for range 60000 {
		checkModel(t, randomText(random, allPieces, 30))
	}
}

// R1: whatever the text and the answers are, there is a result, or one of the two errors.
func TestTerminates(t *testing.T) {
	random := rand.New(rand.NewSource(2))
	limits := 0
	for range 3000 {
		s := randomText(random, allPieces, 60)
		asked := 0
		got, err := Expand(s, random.Intn(2) > 0, func(kind byte, name string, step int) string {
			asked++
			return strings.Repeat(`\*x`, random.Intn(4)) + randomText(random, allPieces, 30)
		})
		if err != api.OK && got != "" || err != api.OK && err != api.ErrLimit || len(got) > 8000 || asked > 500 {
			t.Fatalf("%q: %q, %d, asks %d", s, got, err, asked)
		}
		if err == api.ErrLimit {
			limits++
		}
		if bad, err := Expand(s+"\n", false, repeated("", &asked)); bad != "" || err != api.ErrArg {
			t.Fatalf("%q: %q, %d", s, bad, err)
		}
	}
	if limits < 100 || limits > 2900 {
		t.Error("limits:", limits)
	}
}

// P4.3: a plain text is left as it is; so is it ahead of another one, which is expanded as by itself.
// The pieces end no text in the beginning of an escape (as in \n, which is plain): that and the next text's front would make one.
func TestPlainAhead(t *testing.T) {
	random := rand.New(rand.NewSource(3))
	pieces := []string{"a", "nx", "'", " ", `\\`, `\e`, `\fB`, `\(xy`, `\n `, `\*+`, `\$(( `, `\n[] `, `\w\\ `, `\.`, `\h'1'`, `\nx`, `\w'a'`}
	plain := 0
	for range 20000 {
		first, second := randomText(random, pieces, 10), randomText(random, allPieces, 20)
		var asked, alone []string
		same, err := Expand(first, false, modelLook(&asked))
		if Plain(first) != (len(asked) == 0) {
			t.Fatalf("Plain(%q)", first)
		}
		if len(asked) > 0 {
			continue
		}
		plain++
		if same != first || err != api.OK {
			t.Fatalf("%q is plain, and becomes %q, %d", first, same, err)
		}
		both, err := Expand(first+second, false, modelLook(&asked))
		want, _ := Expand(second, false, modelLook(&alone))
		if both != first+want || err != api.OK || !slices.Equal(asked, alone) {
			t.Fatalf("%q and %q: %q, %d, asks %q; want %q, asks %q", first, second, both, err, asked, first+want, alone)
		}
	}
	if plain < 5000 {
		t.Error("plain:", plain)
	}
}

// P4.2: Join puts back what was cut behind a \.
func TestJoinOfCuts(t *testing.T) {
	random := rand.New(rand.NewSource(4))
	for range 5000 {
		var whole, lines []string
		for range random.Intn(5) {
			line := ""
			for n := random.Intn(4); n > 0; n-- {
				part := randomText(random, []string{"a", `\\`, " ", `\n`, "b"}, 6)
				line += part
				lines = append(lines, part+`\`)
			}
			part := randomText(random, []string{"a", `\\`, `\nx`}, 6)
			whole, lines = append(whole, line+part), append(lines, part)
		}
		if joined := Join(lines); !slices.Equal(joined, whole) {
			t.Fatalf("Join(%q) = %q; want %q", lines, joined, whole)
		}
	}
}
