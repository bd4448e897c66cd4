package expand

import (
	"errors"
	"fmt"
	"slices"
	"strings"
	"testing"

	"frisket/api"
)

var badTexts = []string{"\n", "a\n", "\na", `\nx` + "\n", `\"` + "\n", `\w'` + "\n'", strings.Repeat("a", 2001), strings.Repeat(`\`, 2001), strings.Repeat("a", 2000) + "\n", strings.Repeat("\n", 3000), strings.Repeat(`\*l`, 700)}

// answers is a Look of texts by kind and name; it keeps what it was asked, as kind, name and step.
type answers struct {
	texts map[string]string
	asked []string
}

func (a *answers) look(kind byte, name string, step int) string {
	what := string(rune(kind)) + ":" + name
	a.asked = append(a.asked, fmt.Sprintf("%s:%d", what, step))
	return a.texts[what]
}

// repeated answers each question with one text.
func repeated(text string, asked *int) Look {
	return func(byte, string, int) string { *asked++; return text }
}

func rep(n int) string { return strings.Repeat("a", n) }

// some has answers of each kind, among them such as are read again.
var some = map[string]string{
	"n:x": "3", "n:xy": "4", "n:abc": "5", "n:\\": "b", "n:e": `\nx`, "n:w": `\`, "*:s": "str", "*:x": `\nx`, "*:b": `\`, "*:d": `\\`, "*:n": `\n`, "*:c": `u\"v`, "*:w": `\w'`, "*:q": "'", "*:p": `\\nx`, "*:l": "u\nv", "*:t": `\*x\*s`,
	"$:1": "arg", "$:2": `\*x`, "$:*": "all", "$:@": `"all"`, "$:0": "me", "$:10": "ten", "w:": "0", "w:a": "10", "w:a3": "20", "w:10": "30", "w:str": "40", "w:u": "50", "w:'": "60", "w:a\\": "70", `w:\\`: "80", `w:\e`: "90", "w: ": `\nx`,
}

// ask is an input, what it is expanded to, and the questions that are asked for it.
type ask struct{ text, want, asked string }

func checkAsks(t *testing.T, copy bool, list []ask) {
	t.Helper()
	for _, k := range list {
		a := &answers{texts: some}
		s, err := Expand(k.text, copy, a.look)
		if asked := strings.Join(a.asked, " "); s != k.want || err != api.OK || asked != k.asked {
			t.Errorf("Expand(%q, %t) = %q, %d, asks %q; want %q, asks %q", k.text, copy, s, err, asked, k.want, k.asked)
		}
	}
}

// named has escapes that stand for something in both modes.
var named = []ask{
	{"", "", ""}, {"a b\tc", "a b\tc", ""}, {"\x00\xff\r", "\x00\xff\r", ""},
	{`a\nxb`, "a3b", "n:x:0"}, {`\n(xyz`, "4z", "n:xy:0"}, {`\n[abc]d`, "5d", "n:abc:0"}, {`\n[x]`, "3", "n:x:0"},
	{`\n+x`, "3", "n:x:1"}, {`\n-x`, "3", "n:x:-1"}, {`\n+(xy`, "4", "n:xy:1"}, {`\n-[abc]`, "5", "n:abc:-1"},
	{`\*sx`, "strx", "*:s:0"}, {`\*[s]`, "str", "*:s:0"}, {`\$1`, "arg", "$:1:0"}, {`\$(10`, "ten", "$:10:0"}, {`\$10`, "arg0", "$:1:0"}, {`\$*\$@\$0`, `all"all"me`, "$:*:0 $:@:0 $:0:0"},
	{`\nx\*s\$1\n+x`, "3strarg3", "n:x:0 *:s:0 $:1:0 n:x:1"},
	{`\*?\$?\n?`, "", "*:?:0 $:?:0 n:?:0"},
	// An answer of \* and \$ is read again, one of \n is not.
	{`a\*xb`, "a3b", "*:x:0 n:x:0"}, {`\$2`, "3", "$:2:0 *:x:0 n:x:0"}, {`\*t.`, "3str.", "*:t:0 *:x:0 n:x:0 *:s:0"}, {`\ne`, `\nx`, "n:e:0"}, {`\nwnx`, `\nx`, "n:w:0"},
	// Its end and the rest make an escape together.
	{`\*bnx`, "3", "*:b:0 n:x:0"}, {`\*nx`, "3", "*:n:0 n:x:0"}, {`\*n(xyz`, "4z", "*:n:0 n:xy:0"}, {`\*b*s`, "str", "*:b:0 *:s:0"}, {`\*b"x`, "", "*:b:0"}, {`\*n\*s`, "b*s", `*:n:0 n:\:0`},
	// \" and all behind it goes, behind an answer too.
	{`x\"y`, "x", ""}, {`\"`, "", ""}, {`a\"\nx`, "a", ""}, {`a\*cb\nx`, "au", "*:c:0"}, {`\nx\"`, "3", "n:x:0"},
	// An answer stands as it is.
	{`\*l\*l`, "u\nvu\nv", "*:l:0 *:l:0"},
	// A name may be a \, or have one; ] is a name.
	{`\n\nx`, "bnx", `n:\:0`}, {`\n+\nx`, "bnx", `n:\:1`}, {`\n\`, "b", `n:\:0`}, {`\*\\nx`, "3", `*:\:0 n:x:0`}, {`\n(\nx`, "x", `n:\n:0`}, {`\n[\nx]x`, "x", `n:\nx:0`}, {`\n]\n(]]`, "", "n:]:0 n:]]:0"},
	{`\n!\n~\n*\n)\n,\n.\n'\n"`, "", `n:!:0 n:~:0 n:*:0 n:):0 n:,:0 n:.:0 n:':0 n:":0`},
	{`\n[+]\n[(]\n[[]\n[-x]\n[!~]`, "", "n:+:0 n:(:0 n:[:0 n:-x:0 n:!~:0"}, {`\n[a]]`, "]", "n:a:0"},
	{`\n[abcdefghijklmnopqrst]x`, "x", "n:abcdefghijklmnopqrst:0"}, {`\*[abcdefghijklmnopqrst]`, "", "*:abcdefghijklmnopqrst:0"},
}

// malformed has escapes without a name, or without an end: they stay, and what follows is read on.
var malformed = []string{
	`\`, `a\`, `\n`, `\*`, `\$`, `\n+`, `\n-`, `\n `, `\n+ `, "\\n\t", "\\n\x7f", "\\n\x80", "\\n\x1f", "\\n\x00", "\\né", `\n++`, `\n+-x`, `\n--x`, `\*+`, `\*-x`, `\$+1`, `\$-1`,
	`\n(`, `\n(x`, `\n(x `, `\n( x`, `\n(()`, `\n(x(`, `\n(x[`, `\n(x+`, `\n(x-`, `\n([x`, `\n(+x`, `\n(-x`, "\\n(x\x7f", "\\n(\xc3\xa9", `\*(x`, `\$(1`, `\n+(x`,
	`\n[`, `\n[x`, `\n[]`, `\n[]x]`, `\n[ ]`, `\n[x y]`, `\n[x ]`, "\\n[x\x7f]", "\\n[\xc3\xa9]", "\\n[\x00]", `\*[]`, `\$[1`, `\n-[`, `\n+[]`, `\n[abcdefghijklmnopqrstu]`, `\*[abcdefghijklmnopqrstu]`, `\n[abcdefghijklmnopqrst`, `\n[` + rep(1900) + `]`,
	`\f`, `\fB`, `\f(xy`, `\s+3`, `\(xy`, `\[name]`, `\h'x'`, `\{\}`, `\-`, `\ `, "\\\t", "\\\x00", "\\\xff", `\e`, `\e\fB`, `\N`, `\Nx`, `\W'a'`, `\%a\%`,
}

// checkStays checks that s stays, and what is ahead of it and behind it is not touched by that.
func checkStays(t *testing.T, copy bool, s string) {
	t.Helper()
	checkAsks(t, copy, []ask{{s, s, ""}, {s + ` \nx`, s + " 3", "n:x:0"}, {`\nx` + s, "3" + s, "n:x:0"}, {s + ` \"`, s + " ", ""}})
}

// P4.2, Expand: names, answers, what stays.
func TestNamesAndAnswers(t *testing.T) {
	checkAsks(t, false, named)
	checkAsks(t, true, named)
	for _, s := range malformed {
		checkStays(t, false, s)
		checkStays(t, true, s)
	}
	// What follows is read on from the very next byte.
	checkAsks(t, false, []ask{
		{`\n([\nx`, `\n([3`, "n:x:0"}, {`\n(a\nx`, "nx", `n:a\:0`}, {`\n[\nx`, `\n[3`, "n:x:0"}, {`\n[a \nx]`, `\n[a 3]`, "n:x:0"}, {`\n[]\nx`, `\n[]3`, "n:x:0"}, {`\n+-\nx`, `\n+-3`, "n:x:0"}, {`\*+\nx`, `\*+3`, "n:x:0"},
		{`\f\nx`, `\f3`, "n:x:0"}, {`\h'\nx'`, `\h'3'`, "n:x:0"}, {`\e\nx`, `\e3`, "n:x:0"}, {`\s(\nx`, `\s(3`, "n:x:0"}, {`\enx`, `\enx`, ""}, {`\f"x`, `\f"x`, ""},
		{`\*b`, `\`, "*:b:0"}, {`\nx\*b`, `3\`, "n:x:0 *:b:0"}, {`\*b\*s`, `\\*s`, "*:b:0"},
	})
}

func TestNotInCopyMode(t *testing.T) {
	checkAsks(t, false, []ask{
		{`\\`, `\\`, ""}, {`\\nx`, `\\nx`, ""}, {`\\\nx`, `\\3`, "n:x:0"}, {`\\\\nx`, `\\\\nx`, ""}, {`\\"x`, `\\"x`, ""}, {`\\\"x`, `\\`, ""}, {`\e`, `\e`, ""}, {`\.`, `\.`, ""}, {`\.\nx`, `\.3`, "n:x:0"}, {`\\\`, `\\\`, ""},
		{`\*d`, `\\`, "*:d:0"}, {`\*dnx`, `\\nx`, "*:d:0"}, {`\*pnx`, `\\nxnx`, "*:p:0"}, {`\n\\nx`, "b3", `n:\:0 n:x:0`}, {`\n\\\nx`, `b\\nx`, `n:\:0`},
	})
}

func TestText(t *testing.T) {
	checkAsks(t, false, []ask{
		{`\w'a'`, "10", "w:a:0"}, {`\w''b`, "0b", "w::0"}, {`x\w'a\nx'y`, "x20y", "n:x:0 w:a3:0"}, {`\w'\*s'`, "40", "*:s:0 w:str:0"},
		// The quote is any byte but \.
		{`\waba`, "", "w:b:0"}, {`\w a `, "10", "w:a:0"}, {`\wnan\nx`, "103", "w:a:0 n:x:0"}, {"\\w\xffa\xff", "10", "w:a:0"}, {"\\w\x00a\x00", "10", "w:a:0"}, {`\w"a"b`, "10b", "w:a:0"}, {`\w(a(`, "10", "w:a:0"}, {`\wxa\x`, "70", `w:a\:0`}, {`\waa\nx`, "03", "w::0 n:x:0"},
		{`\w\a\`, `\w\a\`, ""}, {`\w\nx\`, `\w3\`, "n:x:0"}, {`\w\\nx\\`, `\w\\nx\\`, ""},
		// It ends at the next such byte, in whatever it stands.
		{`\w'\n'x'`, `x'`, `w:\n:0`}, {`\w'\*[a'b]`, `b]`, `w:\*[a:0`}, {`\w'\'a'`, `a'`, `w:\:0`}, {`\w'\\'a`, `80a`, `w:\\:0`},
		// The quote of an answer in it does not end it; one that is put ahead does.
		{`\w'\*q'a`, "60a", "*:q:0 w:':0"}, {`\*wa'b`, "10b", "*:w:0 w:a:0"}, {`\w"a\*q`, `\w"a'`, "*:q:0"}, {`\w'a\*q'b`, "b", `*:q:0 w:a':0`},
		// Texts in texts; the inner one's answer is not read again, the outer one's neither.
		{`\w'\w"a"'b`, "30b", "w:a:0 w:10:0"}, {`\w'\w" "'`, "", `w: :0 w:\nx:0`}, {`\w' '`, `\nx`, "w: :0"}, {`\w'\w"'a"`, `a"`, `w:\w":0`},
		// In it things stay, and are left out, as elsewhere.
		{`\w'\e'`, "90", `w:\e:0`}, {`\w'\\nx'`, "", `w:\\nx:0`}, {`\w'u\"v'a`, "50a", "w:u:0"}, {`\w'\*c'a`, "50a", "*:c:0 w:u:0"}, {`\w'\*t\"x'\nx`, "3", "*:t:0 *:x:0 n:x:0 *:s:0 w:3str:0 n:x:0"}, {`\w'a\'b`, "70b", `w:a\:0`},
		{`\w'\*b'nx`, "nx", `*:b:0 w:\:0`}, {`\w'\*n'x`, "x", `*:n:0 w:\n:0`}, {`\w'\*d'a`, "80a", `*:d:0 w:\\:0`},
		// Without an end it stays.
		{`\w`, `\w`, ""}, {`a\w`, `a\w`, ""}, {`\w'`, `\w'`, ""}, {`\w'a`, `\w'a`, ""}, {`\w'\nx`, `\w'3`, "n:x:0"}, {`\w'\w"a"`, `\w'10`, "w:a:0"}, {`\w'\"'a`, "0a", "w::0"}, {`\w'a\"`, `\w'a`, ""}, {`\w\w'a'`, `\w10`, "w:a:0"},
		{`\*w`, `\w'`, "*:w:0"}, {"\\w'\\*l'", "", "*:l:0 w:u\nv:0"}, {"\\*w\\*l'", "", "*:w:0 *:l:0 w:u\nv:0"},
	})
}

func TestCopyMode(t *testing.T) {
	checkAsks(t, true, []ask{
		{`\\`, `\`, ""}, {`\\nx`, `\nx`, ""}, {`\\\nx`, `\3`, "n:x:0"}, {`\\\\nx`, `\\nx`, ""}, {`\\\\`, `\\`, ""}, {`\\"x`, `\"x`, ""}, {`\\\"x`, `\`, ""}, {`\\.`, `\.`, ""}, {`\\\.`, `\.`, ""}, {`\\\`, `\\`, ""}, {`\\e`, `\e`, ""},
		{`\.`, ".", ""}, {`\.x`, ".x", ""}, {`\..`, "..", ""}, {`\.\.nx`, "..nx", ""}, {`\e`, `\e`, ""}, {`\fB\"c`, `\fB`, ""}, {`\fB\\c\.d\ee`, `\fB\c.d\ee`, ""},
		{`\w'\nx'`, `\w'3'`, "n:x:0"}, {`\w'a'`, `\w'a'`, ""}, {`\w`, `\w`, ""}, {`\w\nx`, `\w3`, "n:x:0"}, {`\w'\n'x'`, `\w'x'`, "n:':0"}, {`\w'\\'`, `\w'\'`, ""}, {`\w'u\"v'a`, `\w'u`, ""}, {`\w\\nx`, `\w\nx`, ""}, {`\w\.`, `\w.`, ""}, {`\\w'a'`, `\w'a'`, ""}, {`\w"a\"b"`, `\w"a`, ""},
		// What is one byte now is not read again, but an answer is read in copy mode, too.
		{`\\\\\\nx`, `\\\nx`, ""}, {`\*d`, `\`, "*:d:0"}, {`\*dnx`, `\nx`, "*:d:0"}, {`\*p`, `\nx`, "*:p:0"}, {`\*b\nx`, `\nx`, "*:b:0"}, {`\*b.`, ".", "*:b:0"}, {`\*b`, `\`, "*:b:0"}, {`\\*s`, `\*s`, ""}, {`\\\*s`, `\str`, "*:s:0"}, {`\ne\\`, `\nx\`, "n:e:0"}, {`\nw\.`, `\.`, "n:w:0"}, {`\*wa'`, `\w'a'`, "*:w:0"},
	})
}

// P4.1: a text or a Look that cannot be is told ahead of limits, and nothing is asked.
func TestErrArg(t *testing.T) {
	for _, copy := range []bool{false, true} {
		for _, s := range badTexts {
			asked := 0
			if x, err := Expand(s, copy, repeated(`\*l\*l`, &asked)); x != "" || err != api.ErrArg || asked != 0 {
				t.Errorf("Expand(%.20q, %t) = %q, %d, asks %d; want ErrArg", s, copy, x, err, asked)
			}
		}
		for _, s := range append([]string{"", "a", `\nx`}, badTexts...) {
			if x, err := Expand(s, copy, nil); x != "" || err != api.ErrArg {
				t.Errorf("Expand(%.20q, %t, nil) = %q, %d; want ErrArg", s, copy, x, err)
			}
		}
		for _, s := range []string{rep(2000), strings.Repeat("é", 1000), strings.Repeat(`\fB `, 500)} {
			if x, err := Expand(s, copy, (&answers{}).look); x != s || err != api.OK {
				t.Errorf("Expand(%.20q, %t) = %.20q, %d", s, copy, x, err)
			}
		}
	}
	for _, s := range badTexts {
		if x, err := Protect(s); x != "" || err != api.ErrArg {
			t.Errorf("Protect(%.20q) = %q, %d; want ErrArg", s, x, err)
		}
	}
}

// R1: what a Look throws goes no further.
func TestLookThatPanics(t *testing.T) {
	for _, thrown := range []any{1, "x", errors.New("x"), []int{1}, api.ErrNone, api.ErrLimit, api.OK, nil, map[string]int{}} {
		for _, s := range []string{`a\nx`, `\*xb`, `\w'a'`, `\w'\$1'`} {
			if x, err := Expand(s, false, func(byte, string, int) string { panic(thrown) }); x != "" || err != api.ErrArg {
				t.Errorf("Expand(%q) = %q, %d where %v is thrown; want ErrArg", s, x, err, thrown)
			}
		}
	}
	var none map[string]int
	if x, err := Expand(`\nx`, false, func(byte, string, int) string { none["x"] = 1; return "" }); x != "" || err != api.ErrArg {
		t.Errorf("%q, %d; want ErrArg", x, err)
	}
}

func checkLimit(t *testing.T, what, s string, err api.Errno, asked, want int, limit bool) {
	t.Helper()
	if good := err == api.OK && s != ""; asked != want || good == limit || limit && (s != "" || err != api.ErrLimit) {
		t.Errorf("%s: %.20q, %d, asks %d; want a limit %t, asks %d", what, s, err, asked, limit, want)
	}
}

// P4.1 and Expand: at most 500 questions.
func TestQuestions(t *testing.T) {
	for _, k := range []struct {
		text  string
		times int
		asks  int
	}{{`\nx`, 500, 500}, {`\*x`, 500, 500}, {`\$x`, 500, 500}, {`\w''`, 500, 500}, {`\w'a\nx'`, 250, 500}, {`\w'\w"x"'`, 200, 400}} {
		asked := 0
		s, err := Expand(strings.Repeat(k.text, k.times), false, repeated("1", &asked))
		checkLimit(t, k.text, s, err, asked, k.asks, false)
	}
	for _, k := range []struct {
		text  string
		limit bool
	}{
		{strings.Repeat(`\nx`, 501) + "a", true}, {strings.Repeat(`\*x`, 501), true}, {strings.Repeat(`\$x`, 300) + strings.Repeat(`\nx`, 201), true},
		{strings.Repeat(`\nx`, 498) + `\w'\*x'a`, false}, {strings.Repeat(`\nx`, 499) + `\w'\*x'a`, true}, {`\w'` + strings.Repeat(`\nx`, 499) + `'a`, false}, {`\w'` + strings.Repeat(`\nx`, 500) + `'a`, true},
		{strings.Repeat(`\nx`, 500) + `\w'a'`, true}, {strings.Repeat(`\nx`, 500) + `\"\nx`, false}, {strings.Repeat(`\nx`, 500) + `\n`, false}, {strings.Repeat(`\nx`, 500) + `\w'`, false}, {strings.Repeat(`\nx`, 500) + `\\nx`, false},
		{`\w'\w"` + strings.Repeat(`\nx`, 498) + `"'a`, false}, {`\w'\w"` + strings.Repeat(`\nx`, 499) + `"'a`, true}, {`\w'\nx'` + strings.Repeat(`\nx`, 498) + `a`, false}, {`\w'\nx'` + strings.Repeat(`\nx`, 499) + `a`, true},
	} {
		asked := 0
		s, err := Expand(k.text, false, func(kind byte, name string, step int) string {
			asked++
			if kind == 'n' {
				return "1"
			}
			return ""
		})
		checkLimit(t, k.text[:3]+fmt.Sprint(len(k.text)), s, err, asked, 500, k.limit)
	}
	asked := 0
	s, err := Expand(strings.Repeat(`\nx`, 500)+`\w'\nx'`, true, repeated("1", &asked))
	checkLimit(t, "copy", s, err, asked, 500, true)
	asked = 0
	s, err = Expand(strings.Repeat(`\w''`, 450)+`\nx`, true, repeated("1", &asked))
	checkLimit(t, "copy with texts", s, err, asked, 1, false)
}

// P4.1 and Expand: loops meet one of the limits.
func TestLoops(t *testing.T) {
	for answer, want := range map[string]int{
		`\*x`: 500, `\$x`: 500, `a\*x`: 500, `\*x\*x`: 500, `\w'\*x'`: 500, `\w'\*x`: 500, `\*[x]` + rep(100): 80, rep(100) + `\*x`: 80, `\w'` + rep(100) + `\*x`: 78,
	} {
		for _, copy := range []bool{false, true} {
			asked := 0
			s, err := Expand(`\*x`, copy, func(kind byte, name string, step int) string {
				asked++
				if kind == 'w' {
					return "1"
				}
				return answer
			})
			checkLimit(t, answer, s, err, asked, want, true)
		}
	}
}

// P4.1 and Expand: at most 8000 bytes of result and of what is still to be read, asked behind each answer.
func TestBytes(t *testing.T) {
	for _, k := range []struct {
		text  string
		long  int // how long the answers of the names l are
		limit bool
		asks  int
	}{
		{`\nl`, 8000, false, 1}, {`\nl`, 8001, true, 1}, {`\*l`, 8000, false, 1}, {`\*l`, 8001, true, 1}, {`\$l`, 8000, false, 1}, {`\$l`, 8001, true, 1}, {`\w'l'`, 8000, false, 1}, {`\w'l'`, 8001, true, 1},
		{`a\nlbc`, 7997, false, 1}, {`a\nlbc`, 7998, true, 1}, {`a\*lbc`, 7997, false, 1}, {`a\*lbc`, 7998, true, 1}, {`a\w'l'bc`, 7997, false, 1}, {`a\w'l'bc`, 7998, true, 1},
		// What is still to be read counts as it stands, whatever becomes of it.
		{`\nl\"bc`, 7996, false, 1}, {`\nl\"bc`, 7997, true, 1}, {`\*l\nx`, 7997, false, 2}, {`\*l\nx`, 7998, true, 1}, {`\nl\n[x]`, 7995, false, 2}, {`\nl\n[x]`, 7996, true, 1},
		// It is asked behind each answer, also of short ones.
		{`\nl\nl`, 4000, false, 2}, {`\nl\nl`, 4001, true, 2}, {`\*l\*l`, 4000, false, 2}, {`\*l\$l`, 4001, true, 2}, {`\nl\nx`, 7996, false, 2}, {`\nl\ny`, 7997, false, 2}, {`\nl\n(yy`, 7995, false, 2}, {`\nl\*y`, 7998, true, 1},
		{`\nl\$z`, 7990, false, 2}, {`\nl\$z`, 7991, true, 2},
		// The text of \w is expanded by itself; what counts behind its answer is this.
		{`\w'\nl'`, 8000, false, 2}, {`\w'\nl'`, 8001, true, 1}, {`\w'\*l'`, 8000, false, 2}, {`\w'\*l'`, 8001, true, 1}, {`\w'a\*lb'`, 7998, false, 2}, {`\w'a\*lb'`, 7999, true, 1}, {`\w'\nl\nl'`, 4001, true, 2}, {`\w'\nl'\nl`, 7999, false, 3}, {`\w'\nl'\nl`, 8000, true, 3},
		{`\nl\w'\nl'`, 7992, false, 3},
	} {
		asked := 0
		s, err := Expand(k.text, false, func(kind byte, name string, step int) string {
			asked++
			switch name {
			case "l":
				return rep(k.long)
			case "x":
				return "123"
			case "y":
				return "1234"[:3]
			case "yy":
				return "1234"
			case "z":
				return "1234567890"
			}
			return "1"
		})
		checkLimit(t, fmt.Sprint(k.text, k.long), s, err, asked, k.asks, k.limit)
	}
	asked := 0
	s, err := Expand(`\\\.\nl`, true, repeated(rep(7998), &asked))
	checkLimit(t, "copy", s, err, asked, 1, false)
	s, err = Expand(`\\\.\nl`, true, repeated(rep(7999), &asked))
	checkLimit(t, "copy", s, err, asked, 2, true)
}

// The Look may itself call Expand: each call counts its own questions.
func TestCallsInCalls(t *testing.T) {
	inner := func(byte, string, int) string { return "x" }
	outer := func(byte, string, int) string {
		s, err := Expand(strings.Repeat(`\nx`, 500), false, inner)
		if len(s) != 500 || err != api.OK {
			t.Error(len(s), err)
		}
		if _, err := Expand(`\*x`, false, func(byte, string, int) string { return `\*x` }); err != api.ErrLimit {
			t.Error(err)
		}
		return "y"
	}
	if s, err := Expand(strings.Repeat(`\nx`, 400), false, outer); s != strings.Repeat("y", 400) || err != api.OK {
		t.Error(s, err)
	}
}

// P4.2: Protect.
func TestProtect(t *testing.T) {
	for s, want := range map[string]string{
		"": "", "a b": "a b", `\`: `\\`, `\\`: `\\\\`, `a\nx`: `a\\nx`, `\"x\.`: `\\"x\\.`, rep(2000): rep(2000), strings.Repeat(`\`, 1000): strings.Repeat(`\`, 2000), rep(1998) + `\`: rep(1998) + `\\`, "\xff\\": "\xff\\\\",
	} {
		if x, err := Protect(s); x != want || err != api.OK {
			t.Errorf("Protect(%.20q) = %.20q, %d", s, x, err)
		}
	}
	for _, s := range []string{rep(1999) + `\`, strings.Repeat(`\`, 1001), `\` + rep(1999), strings.Repeat(`\`, 2000)} {
		if x, err := Protect(s); x != "" || err != api.ErrLimit {
			t.Errorf("Protect(%.20q) = %.20q, %d; want ErrLimit", s, x, err)
		}
	}
}

// P4.2: Plain.
func TestPlain(t *testing.T) {
	for _, s := range append([]string{"", "a", `\\`, `\\nx`, `a\fB\\n`, `\.`, `\w`, `\w'`, `\w'a`, `\w\a\`, `\w\\nx\`, `\\w'a'`, `\\"`, `\f"`, `\fw'a'`, "a\nb", rep(3000), strings.Repeat(`\fB`, 3000)}, malformed...) {
		if !Plain(s) {
			t.Errorf("Plain(%.40q) is false", s)
		}
	}
	for _, s := range []string{`\nx`, `\n+x`, `\n(xy`, `\n[x]`, `\*x`, `\$1`, `\w'a'`, `\w''`, `a\"`, `\"`, `\\\nx`, `\\\"`, `\n([\nx`, `\w'\nx`, `\w'\"`, `\w\nx`, `\fBa\nx`, `\n\`, `\n]`, rep(3000) + `\nx`, "\n" + `\nx`} {
		if Plain(s) {
			t.Errorf("Plain(%.40q) is true", s)
		}
	}
	for _, k := range named {
		if asks := k.asked != "" || strings.Contains(k.text, `\"`); Plain(k.text) == asks {
			t.Errorf("Plain(%q) is %t", k.text, !asks)
		}
	}
}

// P4.2: Names.
func TestNames(t *testing.T) {
	for s, want := range map[string]string{
		"": "", "a": "", `\nx`: "n:x", `\n+x\n-y`: "n:x n:y", `\n(xyz`: "n:xy", `\*[abc]`: "*:abc", `\$1\$*`: "$:1 $:*", `\nx\nx`: "n:x n:x", `\nx\*(ab\w'\$1'\"\ny`: "n:x *:ab $:1", `\*x\nx\*x`: "*:x n:x *:x",
		`\\nx`: "", `\\\nx`: "n:x", `\e\nx`: "n:x", `\.\nx`: "n:x", `\fB\*s`: "*:s", `\f\*s`: "*:s", `\"\nx`: "", `\nx\"\ny`: "n:x", `\\"\nx`: "n:x",
		`\w'a'`: "", `\w'\nx\ny'\nz`: "n:x n:y n:z", `\w'\nx`: "n:x", `\w\nx`: "n:x", `\w'\w"\nx"\ny'\nz`: "n:x n:y n:z", `\w'a\"\nx'\ny`: "",
		`\n`: "", `\n([\nx`: "n:x", `\n[\*x`: "*:x", `\n[a \*x]`: "*:x", `\n\\nx`: `n:\ n:x`, `\n[\nx]`: `n:\nx`, `\n(\nx`: `n:\n`, `\n]`: "n:]", `\*+\*-\n++\nx`: "n:x", "a\n" + `\nx`: "n:x", `\`: "", `\nx\`: "n:x",
		// An escape in the text of \w has no byte behind that text's end.
		`\w'\n'x'`: "", `\wa\*(ab`: "", `\w'\*[a'b]`: "", `\w"\$"1`: "", `\w'\w"\n"x"'`: "", `\w'\n+'x`: "", `\w'\n(x'y`: "", `\w'\w"\n'x"`: "", `\w'\n'\nx`: "n:x", `\w"\"\nx`: "n:x", `\w"\"\"\nx`: "", `\w'\'\$1`: "$:1", `\w'\w'\ny`: "n:y", `\w'\\'\ny`: "n:y", `\w'\w"\nx"'\ny`: "n:x n:y",
		`\w'\w"\"'\ny`: "n:y", `\w'\w"a\""'\ny`: "n:y", `\w'\w(a\"('\ny`: "", `\w'\"'\ny`: "", `\w'\nx\"'\ny`: "n:x",
		// Without an end it is no escape, and has no text; so has a quote that is a \.
		`\w'\n"x`: `n:"`, `\w"\n'x`: "n:'", `\w\n\x`: `n:\`, `\nw'\n'x`: "n:w n:'", `\\w'\n'x`: "n:'", `\ew'\n'x`: "n:'", `\w'\*(ab`: "*:ab",
	} {
		if names := Names(s); strings.Join(names, " ") != want {
			t.Errorf("Names(%q) = %q; want %q", s, names, want)
		}
	}
	for _, s := range malformed {
		if names := Names(s); len(names) != 0 {
			t.Errorf("Names(%q) = %q", s, names)
		}
	}
	if names := Names(strings.Repeat(`\nx`, 100000) + "\n"); len(names) != 100000 {
		t.Error(len(names))
	}
}

// P4.2: Join.
func TestJoin(t *testing.T) {
	for _, k := range []struct{ lines, want []string }{
		{nil, nil}, {[]string{}, nil}, {[]string{""}, []string{""}}, {[]string{"a", "b"}, []string{"a", "b"}}, {[]string{"", ""}, []string{"", ""}},
		{[]string{`a\`, "b"}, []string{"ab"}}, {[]string{`a\\`, "b"}, []string{`a\\`, "b"}}, {[]string{`a\\\`, "b"}, []string{`a\\b`}}, {[]string{`a\\\\`, "b"}, []string{`a\\\\`, "b"}},
		{[]string{`a\`}, []string{`a\`}}, {[]string{`a\\\`}, []string{`a\\\`}}, {[]string{`\`}, []string{`\`}}, {[]string{`\`, `\`}, []string{`\`}}, {[]string{`\`, `\`, `\`}, []string{`\`}}, {[]string{`\`, "", "x"}, []string{"", "x"}},
		{[]string{`a\`, `b\`, "c", "d"}, []string{"abc", "d"}}, {[]string{`a\`, `b\`}, []string{`ab\`}}, {[]string{`a\`, "b", `c\\`, `d\`}, []string{"ab", `c\\`, `d\`}}, {[]string{`a\\\`, `\\`, "b"}, []string{`a\\\\`, "b"}}, {[]string{`a\\\`, `\\\`, "b"}, []string{`a\\\\b`}},
		{[]string{`\nx\`, ".b"}, []string{`\nx.b`}}, {[]string{`\a`, `\b `, `c\ `}, []string{`\a`, `\b `, `c\ `}}, {[]string{`a\"\`, "b"}, []string{`a\"b`}}, {[]string{"a\n\\", "b\n"}, []string{"a\nb\n"}}, {[]string{rep(3000) + `\`, rep(3000)}, []string{rep(6000)}},
	} {
		given := slices.Clone(k.lines)
		if joined := Join(given); !slices.Equal(joined, k.want) || !slices.Equal(given, k.lines) {
			t.Errorf("Join(%.60q) = %.60q; want %.60q", k.lines, joined, k.want)
		}
	}
	// R5: the result is new memory.
	lines := []string{"a", "b"}
	Join(lines)[0] = "changed"
	if lines[0] != "a" {
		t.Error("shared")
	}
	many := slices.Repeat([]string{rep(1999) + `\`}, 20000)
	if joined := Join(append(many, "end")); len(joined) != 1 || len(joined[0]) != 1999*20000+3 {
		t.Error(len(joined))
	}
}
