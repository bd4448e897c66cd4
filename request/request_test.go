package request

import (
	"fmt"
	"math"
	"slices"
	"strings"
	"testing"

	"frisket/api"
)

var badLines = []string{"\n", ".x\n", ".\nx", "\n.x", ".x a\nb", "text\n", "o\n", "'a'b'\n", "!!\n", ".x " + rep("a", 1997) + "\n", "." + rep("a", 2000), rep(" ", 2001), rep("a", 2001), "o " + rep("a", 1999), rep("!", 2001), rep("é", 1001), rep("a", 1000000)}

func rep(s string, n int) string { return strings.Repeat(s, n) }

// isIn tells whether a byte is one of a list in which a-z stands for all from a to z.
func isIn(b byte, list ...string) bool {
	return slices.ContainsFunc(list, func(s string) bool { return b >= s[0] && b <= s[len(s)-1] })
}

// shown is r as text; a list without arguments is nil or not.
func shown(r Request) string {
	return fmt.Sprintf("%q %q %q %t", r.Name, r.Args, r.Rest, r.Quiet)
}

// P6.1: a line that cannot be, whatever it begins with; R3: with an error all else is zero.
func TestErrArgOfLines(t *testing.T) {
	for _, line := range badLines {
		if r, is, err := Split(line, '.', '\''); err != api.ErrArg || is || shown(r) != shown(Request{}) {
			t.Errorf("Split(%.40q): %s %t %d", line, shown(r), is, err)
		}
		if c, err := Condition(line); err != api.ErrArg || c != (Cond{}) {
			t.Errorf("Condition(%.40q): %+v %d", line, c, err)
		}
	}
	// ErrArg is ahead of ErrForm.
	for _, s := range []string{"d\n", "\n", "'a\n", "d" + rep(" ", 2000), "'" + rep("a", 2000), "! \n"} {
		if _, err := Condition(s); err != api.ErrArg {
			t.Errorf("Condition(%.40q): %d", s, err)
		}
	}
}

// P6.1: lines as long as may be.
func TestLongestLines(t *testing.T) {
	for line, want := range map[string]Request{
		".x " + rep("a", 1997): {Name: "x", Args: []string{rep("a", 1997)}, Rest: rep("a", 1997)},
		"." + rep("a", 1999):   {Name: rep("a", 1999)},
		"." + rep(" ", 1999):   {},
		". " + rep(`"`, 1998):  {Name: rep(`"`, 1998)},
		".x" + rep(" ", 1998):  {Name: "x", Rest: rep(" ", 1997)},
		".x " + rep("é ", 665): {Name: "x", Args: strings.Fields(rep("é ", 665)), Rest: rep("é ", 665)},
	} {
		if r, is, err := Split(line, '.', '\''); err != api.OK || !is || shown(r) != shown(want) {
			t.Errorf("Split(%.40q): %.80s %t %d", line, shown(r), is, err)
		}
	}
	if r, is, err := Split(rep("a", 2000), '.', '\''); err != api.OK || is || shown(r) != shown(Request{}) {
		t.Error("a long text", shown(r), is, err)
	}
	for s, want := range map[string]Cond{
		"o" + rep(" ", 1999):           {Kind: 'o'},
		"o" + rep("a", 1999):           {Kind: 'o', Rest: rep("a", 1999)},
		"!1 " + rep("a", 1997):         {Not: true, Kind: 'x', Name: "1", Rest: rep("a", 1997)},
		"d" + rep("a", 1999):           {Kind: 'd', Name: rep("a", 1999)},
		rep("1", 2000):                 {Kind: 'x', Name: rep("1", 2000)},
		rep("!", 1999) + "t":           {Not: true, Kind: 't'},
		"'" + rep("a", 1997) + "''":    {Kind: '\'', Left: rep("a", 1997)},
		"''" + rep(" ", 1996) + "' ":   {Kind: '\'', Right: rep(" ", 1996)},
		rep(" ", 1999) + "e":           {Kind: 'e'},
		"'a'b'" + rep(" ", 1994) + "c": {Kind: '\'', Left: "a", Right: "b", Rest: "c"},
	} {
		if c, err := Condition(s); err != api.OK || c != want {
			t.Errorf("Condition(%.40q): %.80v %d", s, c, err)
		}
	}
}

// P6.1: control bytes that are letters, digits, blanks or \, or the same; also of lines that are none.
func TestErrArgOfControls(t *testing.T) {
	for b := range 256 {
		control := byte(b)
		wrong := isIn(control, "a-z", "A-Z", "0-9", " ", "\t", `\`)
		for _, line := range []string{"", "text", ".x", "'x", string([]byte{control}) + "x a"} {
			if strings.Contains(line, "\n") {
				continue
			}
			for _, other := range []byte{'.', '\'', '\n', 0, 255} {
				if other == control {
					continue
				}
				r, is, err := Split(line, control, other)
				q, also, e := Split(line, other, control)
				if (err == api.ErrArg) != wrong || (e == api.ErrArg) != wrong || err+e > 2 {
					t.Errorf("Split(%q) with %q and %q: %d %d", line, control, other, err, e)
				}
				if want := !wrong && line != "" && (line[0] == control || line[0] == other); is != want || also != want {
					t.Errorf("Split(%q) with %q and %q: %t %t", line, control, other, is, also)
				}
				if is && (r.Quiet != (line[0] == other) || q.Quiet == r.Quiet || r.Name != "x") || !is && shown(r)+shown(q) != shown(Request{})+shown(Request{}) {
					t.Errorf("Split(%q) with %q and %q: %s %s", line, control, other, shown(r), shown(q))
				}
			}
			if r, is, err := Split(line, control, control); err != api.ErrArg || is || shown(r) != shown(Request{}) {
				t.Errorf("Split(%q) with %q twice: %s %t %d", line, control, shown(r), is, err)
			}
		}
	}
}

// P6.2: the parts of a control line.
func TestSplit(t *testing.T) {
	for _, k := range []struct {
		line, name, rest string
		args             []string
	}{
		{".", "", "", nil}, {". ", "", "", nil}, {".\t  \t", "", "", nil},
		{".x", "x", "", nil}, {".x ", "x", "", nil}, {".x\t", "x", "", nil}, {".x  ", "x", " ", nil}, {".x \t ", "x", "\t ", nil},
		{". x", "x", "", nil}, {". \t x a", "x", "a", []string{"a"}}, {".\tx\ta", "x", "a", []string{"a"}},
		{".x a", "x", "a", []string{"a"}}, {".x  a ", "x", " a ", []string{"a"}}, {".x \ta\tb", "x", "\ta\tb", []string{"a", "b"}}, {".x\t a", "x", " a", []string{"a"}},
		{`.xx a "b c" d"e`, "xx", `a "b c" d"e`, []string{"a", "b c", `d"e`}},
		{"..", ".", "", nil}, {".. a", ".", "a", []string{"a"}}, {".'", "'", "", nil}, {".''a b", "''a", "b", []string{"b"}},
		// The name goes up to a blank, whatever it has.
		{`."x y" z`, `"x`, `y" z`, []string{`y"`, "z"}}, {`.x"y z"`, `x"y`, `z"`, []string{`z"`}}, {`.\" a`, `\"`, "a", []string{"a"}}, {`.\`, `\`, "", nil}, {`.x\ y z`, `x\`, "y z", []string{"y", "z"}}, {`.x\`, `x\`, "", nil}, {`.\{ a`, `\{`, "a", []string{"a"}},
		{".abcdefghijklmnopqrstuvwxyz a", "abcdefghijklmnopqrstuvwxyz", "a", []string{"a"}}, {".é \xff", "é", "\xff", []string{"\xff"}}, {".\x00\r\v \x00", "\x00\r\v", "\x00", []string{"\x00"}},
		{`.x "`, "x", `"`, []string{""}}, {`.x ""`, "x", `""`, []string{""}}, {`.x \`, "x", `\`, []string{`\`}},
	} {
		for quiet, line := range []string{k.line, "'" + k.line[1:]} {
			want := Request{Name: k.name, Args: k.args, Rest: k.rest, Quiet: quiet == 1}
			if r, is, err := Split(line, '.', '\''); err != api.OK || !is || shown(r) != shown(want) {
				t.Errorf("Split(%q): %s %t %d; want %s", line, shown(r), is, err, shown(want))
			}
			if r, is, err := Split(line, '\'', '.'); err != api.OK || !is || r.Quiet == want.Quiet {
				t.Errorf("Split(%q) the other way round: %s %t %d", line, shown(r), is, err)
			}
			if r, is, err := Split(line, '=', '!'); err != api.OK || is || shown(r) != shown(Request{}) {
				t.Errorf("Split(%q) with others: %s %t %d", line, shown(r), is, err)
			}
		}
	}
	for _, line := range []string{"", "a", " .x", "\t.x", `\.x`, "x.y z", `\&'x`, "-", "\x00.x", "é"} {
		if r, is, err := Split(line, '.', '\''); err != api.OK || is || shown(r) != shown(Request{}) {
			t.Errorf("Split(%q): %s %t %d", line, shown(r), is, err)
		}
	}
}

// P6.2: Words; they are asked of any text, and a line feed is no blank.
func TestWords(t *testing.T) {
	for s, want := range map[string][]string{
		"": nil, " ": nil, " \t \t": nil,
		"a": {"a"}, " a": {"a"}, "\ta\t": {"a"}, "a b": {"a", "b"}, "a \t b\tc  ": {"a", "b", "c"}, "é ü": {"é", "ü"}, "a\nb\n c": {"a\nb\n", "c"}, "\na \n": {"\na", "\n"}, "\r\v a": {"\r\v", "a"}, "\x00 \xff\r": {"\x00", "\xff\r"},
		`"a b"`: {"a b"}, `"a b`: {"a b"}, "\"a\tb\" c": {"a\tb", "c"}, `"a  b " c`: {"a  b ", "c"}, `""`: {""}, `"`: {""}, `"" ""`: {"", ""}, `"" "`: {"", ""}, `" "`: {" "}, `" `: {" "}, `"a" "b`: {"a", "b"},
		// A doubled one is one.
		`"a""b"`: {`a"b`}, `"""`: {`"`}, `""""`: {`"`}, `"""""`: {`""`}, `"""a"`: {`"a`}, `"a"""`: {`a"`}, `"a""`: {`a"`}, `"a"" b" c`: {`a" b`, "c"}, `"a""" b`: {`a"`, "b"}, `"""" b`: {`"`, "b"},
		// What follows the end belongs to it, up to a blank.
		`"a"b c`: {"ab", "c"}, `"a b"c d`: {"a bc", "d"}, `"a"b"c d"`: {`ab"c`, `d"`}, `"a"b""c`: {`ab""c`}, `""a`: {"a"}, `""a"b c"`: {`a"b`, `c"`}, `"a"b\ c d`: {`ab\ c`, "d"}, `"a b"\" c`: {`a b\"`, "c"},
		// Not in front a quote is a byte like others.
		`a"b c"`: {`a"b`, `c"`}, `a"" b`: {`a""`, "b"}, `a""b`: {`a""b`}, `a" "b`: {`a"`, "b"}, `'a b'`: {"'a", "b'"},
		// \ and the byte behind it.
		`c\ d`: {`c\ d`}, "c\\\td e": {"c\\\td", "e"}, `\ `: {`\ `}, `\  a`: {`\ `, "a"}, `a\\ b`: {`a\\`, "b"}, `a\\\ b c`: {`a\\\ b`, "c"}, `a\`: {`a\`}, `a \`: {"a", `\`}, `\`: {`\`}, `\\`: {`\\`},
		`\"a b"`: {`\"a`, `b"`}, `a\" b`: {`a\"`, "b"}, `"a\" b" c`: {`a\" b`, "c"}, `"a\"" b`: {`a\"`, "b"}, `"a\""" b"`: {`a\"" b`}, `"a\\" b"`: {`a\\`, `b"`}, `"a\\"" b"`: {`a\\" b`}, `"a\\\" b" c`: {`a\\\" b`, "c"}, `"a\`: {`a\`}, `"\`: {`\`}, `"a\"`: {`a\"`}, `"a\ b" c`: {`a\ b`, "c"}, `"a"\`: {`a\`},
		`"a""b" c\ d "e\"f" ""`: {`a"b`, `c\ d`, `e\"f`, ""}, "\\\n a": {"\\\n", "a"}, "\"a\nb\" c": {"a\nb", "c"},
	} {
		if words := Words(s); !slices.Equal(words, want) {
			t.Errorf("Words(%q): %q; want %q", s, words, want)
		}
	}
	if words := Words(rep("a ", 100000)); len(words) != 100000 || words[99999] != "a" {
		t.Error("many words", len(words))
	}
	if words := Words(`"` + rep(`"" `, 100000)); len(words) != 1 || words[0] != rep(`" `, 100000) {
		t.Error("a long word", len(words))
	}
}

// P6.2: conditions of each kind, with what stands around them.
func TestCondition(t *testing.T) {
	for s, want := range map[string]Cond{
		"o": {Kind: 'o'}, "e": {Kind: 'e'}, "t": {Kind: 't'}, "n": {Kind: 'n'},
		// One byte, whatever follows.
		"odd": {Kind: 'o', Rest: "dd"}, "e.br": {Kind: 'e', Rest: ".br"}, "t3>2 x": {Kind: 't', Rest: "3>2 x"}, "n!o": {Kind: 'n', Rest: "!o"}, "oe": {Kind: 'o', Rest: "e"}, `t\{x`: {Kind: 't', Rest: `\{x`}, "o'a'b'": {Kind: 'o', Rest: "'a'b'"},
		"o  \t x  y ": {Kind: 'o', Rest: "x  y "}, "o\t": {Kind: 'o'}, "o \t ": {Kind: 'o'},
		"dx": {Kind: 'd', Name: "x"}, "rx": {Kind: 'r', Name: "x"}, "dxx y": {Kind: 'd', Name: "xx", Rest: "y"}, "r.s\ty": {Kind: 'r', Name: ".s", Rest: "y"}, "d!o e": {Kind: 'd', Name: "!o", Rest: "e"}, "dd d": {Kind: 'd', Name: "d", Rest: "d"}, "r'a'b' c": {Kind: 'r', Name: "'a'b'", Rest: "c"}, `d\ x`: {Kind: 'd', Name: `\`, Rest: "x"}, `d"a b"`: {Kind: 'd', Name: `"a`, Rest: `b"`},
		"3>2 yes no": {Kind: 'x', Name: "3>2", Rest: "yes no"}, "1": {Kind: 'x', Name: "1"}, `\nx .br`: {Kind: 'x', Name: `\nx`, Rest: ".br"}, "(1 +2) x": {Kind: 'x', Name: "(1", Rest: "+2) x"}, "+1": {Kind: 'x', Name: "+1"}, "-1\tx": {Kind: 'x', Name: "-1", Rest: "x"}, ".5i>1 x": {Kind: 'x', Name: ".5i>1", Rest: "x"}, "|0 a": {Kind: 'x', Name: "|0", Rest: "a"}, "1!o": {Kind: 'x', Name: "1!o"}, "(!1)": {Kind: 'x', Name: "(!1)"}, `\ x`: {Kind: 'x', Name: `\`, Rest: "x"}, `\\`: {Kind: 'x', Name: `\\`},
		// Other letters begin an expression, though it is a wrong one.
		"x": {Kind: 'x', Name: "x"}, "O e": {Kind: 'x', Name: "O", Rest: "e"}, "E": {Kind: 'x', Name: "E"}, "Dx": {Kind: 'x', Name: "Dx"}, "vs t": {Kind: 'x', Name: "vs", Rest: "t"}, "z'a'b'": {Kind: 'x', Name: "z'a'b'"},
		"'a'b' z": {Kind: '\'', Left: "a", Right: "b", Rest: "z"}, "'a'b'z": {Kind: '\'', Left: "a", Right: "b", Rest: "z"}, "'''": {Kind: '\''}, "''''": {Kind: '\'', Rest: "'"}, "''b'": {Kind: '\'', Right: "b"}, "'a''": {Kind: '\'', Left: "a"}, "' a ' b ' \tc ": {Kind: '\'', Left: " a ", Right: " b ", Rest: "c "},
		`"a'"b"c`: {Kind: '\'', Left: "a'", Right: "b", Rest: "c"}, "/!o/!e/": {Kind: '\'', Left: "!o", Right: "!e"}, `'\'\' x`: {Kind: '\'', Left: `\`, Right: `\`, Rest: "x"}, `'\\'a'`: {Kind: '\'', Left: `\\`, Right: "a"}, `"a""b"`: {Kind: '\'', Left: "a", Rest: `b"`}, "\xffa\xffb\xffc": {Kind: '\'', Left: "a", Right: "b", Rest: "c"}, "\x00a\x00\x00": {Kind: '\'', Left: "a"}, ")a)b)": {Kind: '\'', Left: "a", Right: "b"},
		" o": {Kind: 'o'}, " \t 'a'b'": {Kind: '\'', Left: "a", Right: "b"}, "\t dx": {Kind: 'd', Name: "x"}, "  1 x": {Kind: 'x', Name: "1", Rest: "x"},
		"!o": {Not: true, Kind: 'o'}, "!!e": {Kind: 'e'}, "!!!t x": {Not: true, Kind: 't', Rest: "x"}, " !dx y": {Not: true, Kind: 'd', Name: "x", Rest: "y"}, "!'a'b'c": {Not: true, Kind: '\'', Left: "a", Right: "b", Rest: "c"}, "!1>2 .br": {Not: true, Kind: 'x', Name: "1>2", Rest: ".br"}, "!!1": {Kind: 'x', Name: "1"}, "!x": {Not: true, Kind: 'x', Name: "x"}, "o !e": {Kind: 'o', Rest: "!e"}, "o ! e": {Kind: 'o', Rest: "! e"},
	} {
		if c, err := Condition(s); err != api.OK || c != want {
			t.Errorf("Condition(%q): %+v %d; want %+v", s, c, err, want)
		}
	}
}

// P6.2: what may stand in the place of '.
func TestQuotesOfConditions(t *testing.T) {
	for b := range 256 {
		q := string([]byte{byte(b)})
		c, err := Condition(q + "a" + q + "b c" + q + "d")
		want := Cond{Kind: '\'', Left: "a", Right: "b c", Rest: "d"}
		switch {
		case b == '\n':
			continue
		case isIn(byte(b), "o", "e", "t", "n"):
			want = Cond{Kind: byte(b), Rest: "a" + q + "b c" + q + "d"}
		case isIn(byte(b), "d", "r"):
			want = Cond{Kind: byte(b), Name: "a" + q + "b", Rest: "c" + q + "d"}
		case isIn(byte(b), "a-z", "A-Z", "0-9", "(", "+", "-", ".", "|", `\`):
			want = Cond{Kind: 'x', Name: q + "a" + q + "b", Rest: "c" + q + "d"}
		case isIn(byte(b), " ", "\t"):
			want = Cond{Kind: 'x', Name: "a", Rest: "b c" + q + "d"}
		case b == '!':
			want = Cond{Not: true, Kind: 'x', Name: "a!b", Rest: "c!d"}
		}
		if c != want || err != api.OK {
			t.Errorf("%q: %+v %d; want %+v", q, c, err, want)
		}
	}
}

// P6.1, P6.2: nothing there, or a text that does not end; R3.
func TestErrFormOfConditions(t *testing.T) {
	for _, s := range []string{
		"", " ", "\t \t", "!", "!!", " !", "! ", "! o", "!\to", "!!! 1>2", "! 'a'b'", "!! dx", "! !o",
		"d", "r", "d x", "r\tx", "!d", "!r ", " d", "d ", "!!d  x",
		"'", "''", "'a", "'a'", "'a'b", "'a'b\"", "!'a'b", `"`, `""`, `"a"b`, "/a/", "/a/b c ", ")", "*a*b'", "\xff\xff", "é", "éaéb", " '", `'a\`, "'" + rep("a", 1999), rep(" ", 2000), rep("!", 2000),
	} {
		if c, err := Condition(s); err != api.ErrForm || c != (Cond{}) {
			t.Errorf("Condition(%.40q): %+v %d", s, c, err)
		}
	}
}

// P6.3: depths and places; it ends where the depth has become 0.
func TestBraces(t *testing.T) {
	for _, k := range []struct {
		line             string
		from, depth, end int
	}{
		{"", 0, 0, -1}, {"", 1, 1, -1}, {"a", 3, 3, -1}, {"{}", 1, 1, -1}, {"}{", 1, 1, -1}, {"\n", 2, 2, -1},
		{`\{`, 0, 1, -1}, {`\{`, 1, 2, -1}, {`a\{b\{c`, 0, 2, -1}, {`\}`, 2, 1, -1}, {`\}\}x`, 3, 1, -1},
		{`\}`, 1, 0, 2}, {`a\}`, 1, 0, 3}, {`a\}b`, 1, 0, 3}, {`a\{b\}c\}d`, 1, 0, 9}, {`\}\}\}`, 2, 0, 4}, {`\{\}`, 0, 0, 4}, {`a\{b\}c`, 0, 0, 6}, {"\n\\}\n", 1, 0, 3}, {"é\xff\\}", 1, 0, 5},
		// What stands behind that is not gone over.
		{`\}\{`, 1, 0, 2}, {`\}\{\{`, 1, 0, 2}, {`\{\}\{\}`, 0, 0, 4}, {`\{\}\{`, 0, 0, 4}, {`\{\}\}`, 1, 0, 6},
		// At 0 it is no end.
		{`\}x`, 0, 0, -1}, {`\}\}`, 0, 0, -1}, {`\}\{`, 0, 1, -1}, {`\}\{\}a`, 0, 0, 6}, {`\}\{\{\}`, 0, 1, -1},
		// A depth below 0 counts as 0.
		{"", -1, 0, -1}, {`\}`, -1, 0, -1}, {`\{`, -1, 1, -1}, {`\{`, -7, 1, -1}, {`\{\}`, -2, 0, 4}, {"a", math.MinInt, 0, -1}, {`\{`, math.MinInt, 1, -1},
		// \\ and \" are two bytes each.
		{`\\{`, 0, 0, -1}, {`\\}`, 1, 1, -1}, {`\{\\{`, 0, 1, -1}, {`\\\{`, 0, 1, -1}, {`\\\}`, 1, 0, 4}, {`\\\\}`, 1, 1, -1}, {`\"\}`, 1, 0, 4}, {`\"{`, 0, 0, -1}, {`\" \{\} x`, 0, 0, 7}, {`"\{"`, 0, 1, -1}, {`\"\"\{`, 0, 1, -1}, {`\"\\}`, 1, 1, -1},
		{`\`, 1, 1, -1}, {`\{\`, 0, 1, -1}, {`\}\`, 2, 1, -1}, {`\n\{`, 0, 1, -1}, {`\ {`, 0, 0, -1}, {`\w'\}'`, 1, 0, 5}, {`\e}`, 1, 1, -1}, {`\e\}`, 1, 0, 4}, {`\[\{`, 0, 1, -1},
		{rep(`\{`, 1000), 0, 1000, -1}, {rep(`\}`, 1000), 1000, 0, 2000}, {rep(`\}`, 1000), 1001, 1, -1}, {rep("a", 1000000) + `\}`, 1, 0, 1000002},
		// Depths near the greatest int are counted exactly.
		{"", math.MaxInt, math.MaxInt, -1}, {`\{\}`, math.MaxInt, math.MaxInt, -1}, {`\{\{\}\}\}`, math.MaxInt, math.MaxInt - 1, -1}, {`\{`, math.MaxInt - 1, math.MaxInt, -1}, {`\}`, math.MaxInt, math.MaxInt - 1, -1}, {rep(`\{`, 50) + rep(`\}`, 51), math.MaxInt, math.MaxInt - 1, -1},
	} {
		if depth, end := Braces(k.line, k.from); depth != k.depth || end != k.end {
			t.Errorf("Braces(%.40q, %d): %d, %d; want %d, %d", k.line, k.from, depth, end, k.depth, k.end)
		}
	}
}

// P6.3: what Write writes; P6.4: it is read again.
func TestWrite(t *testing.T) {
	for _, k := range []struct {
		name string
		args []string
		want string
	}{
		{"x", nil, ".x"}, {"x", []string{}, ".x"}, {"xx", []string{"a"}, ".xx a"}, {"x", []string{"a", "b", "c"}, ".x a b c"}, {"x", []string{"a", "", "b c", `"q`}, `.x a "" "b c" """q"`},
		{"x", []string{""}, `.x ""`}, {"x", []string{"", ""}, `.x "" ""`}, {"x", []string{" "}, `.x " "`}, {"x", []string{"\t"}, ".x \"\t\""}, {"x", []string{"a\tb"}, ".x \"a\tb\""}, {"x", []string{" a", "a ", "b"}, `.x " a" "a " b`},
		{"x", []string{`"`}, `.x """"`}, {"x", []string{`""`}, `.x """"""`}, {"x", []string{`"a b"`}, `.x """a b"""`}, {"x", []string{`a "b" c`}, `.x "a ""b"" c"`}, {"x", []string{`"a`, `b"`}, `.x """a" b"`},
		// Not in front, and without a blank, a quote is written as it is.
		{"x", []string{`a"b`, `a"`, `a""b`}, `.x a"b a" a""b`}, {"x", []string{`\"a`, `a\"b`, `\"`}, `.x \"a a\"b \"`}, {"x", []string{"'a'"}, ".x 'a'"},
		{"x", []string{`a\\`, "b"}, `.x a\\ b`}, {"x", []string{`\\\\`}, `.x \\\\`}, {"x", []string{`\a`, `a\e`, `\(xy`}, `.x \a a\e \(xy`}, {"x", []string{`a\ b`, `\ `}, `.x "a\ b" "\ "`}, {"x", []string{`a b\\`}, `.x "a b\\"`}, {"x", []string{`"\\`}, `.x """\\"`}, {"x", []string{`a \\"b`}, `.x "a \\""b"`},
		{"x", []string{"é", "\x00\xff\r\v\x01"}, ".x é \x00\xff\r\v\x01"},
		{".", nil, ".."}, {".", []string{"a"}, ".. a"}, {"'x", nil, ".'x"}, {`"x`, []string{"a"}, `."x a`}, {`\"`, []string{"a"}, `.\" a`}, {`x\`, []string{"a"}, `.x\ a`}, {"é\xff\x00", []string{"a"}, ".é\xff\x00 a"}, {"abcdefghijklmnopqrstuvwxyz", nil, ".abcdefghijklmnopqrstuvwxyz"},
		{"x", []string{rep("a", 1997)}, ".x " + rep("a", 1997)}, {rep("x", 1999), nil, "." + rep("x", 1999)}, {"x", []string{`"` + rep("a", 1993)}, `.x """` + rep("a", 1993) + `"`}, {"x", []string{rep(`"`, 997)}, `.x ` + rep(`"`, 1996)}, {"x", make([]string, 666), ".x" + rep(` ""`, 666)},
	} {
		line, err := Write(k.name, k.args)
		if line != k.want || err != api.OK {
			t.Errorf("Write(%.40q, %.40q): %.80q %d; want %.80q", k.name, k.args, line, err, k.want)
		}
		if r, is, err := Split(line, '.', '\''); err != api.OK || !is || r.Name != k.name || !slices.Equal(r.Args, k.args) || !slices.Equal(Words(r.Rest), k.args) {
			t.Errorf("Split(%.80q): %.80s %t %d", line, shown(r), is, err)
		}
	}
}

// P6.3: names and arguments that cannot be written.
func TestErrFormOfWrite(t *testing.T) {
	for _, name := range []string{"", " ", "\t", "a b", "a\tb", " a", "a ", `a\ b`, `"a b"`} {
		for _, args := range [][]string{nil, {"a"}, {"a\nb"}} {
			if line, err := Write(name, args); line != "" || err != api.ErrForm {
				t.Errorf("Write(%q, %q): %q %d", name, args, line, err)
			}
		}
	}
	for _, arg := range []string{
		"\n", "a\n", "a\nb", "\na", "\"a\nb", "a b\n",
		// Behind an odd row of \ the quote at the end would be none.
		`\`, `a\`, `a\\\`, `\\\`, `a b\`, `"\`, `"a\`, `a"\`, `\"\`, ` \`, "\t\\",
		// So it is with one that is doubled.
		`a \"b`, `\"a b`, `a b\"`, `"\"`, `"a\"b`, `" \"`, `a \\\"b`, `\" \"`, `a \""b`, ` \"""`,
	} {
		for _, args := range [][]string{{arg}, {"a", arg}, {arg, "a"}, {arg, `"`}} {
			if line, err := Write("x", args); line != "" || err != api.ErrForm {
				t.Errorf("Write(x, %q): %q %d", args, line, err)
			}
		}
	}
}

// P6.1, P6.3, R2: a line that would be too long, or whose name has a line feed, is ErrArg, also if it is malformed.
func TestErrArgOfWrite(t *testing.T) {
	for _, k := range []struct {
		name string
		args []string
	}{
		{"x", []string{rep("a", 1998)}}, {rep("x", 2000), nil}, {rep("x", 100000), nil}, {"x", []string{rep("a", 1000), rep("b", 997)}}, {"x", []string{rep("a ", 998)}}, {"x", []string{`"` + rep("a", 1994)}}, {"x", []string{rep(`"`, 998)}}, {"x", make([]string, 667)}, {"x", []string{rep("é", 999)}},
		{"a\nb", nil}, {"\n", nil}, {"\na", []string{"a"}}, {"a\n", []string{rep("a", 2000)}},
		{"", []string{rep("a", 2000)}}, {"a b", []string{rep("a", 2000)}}, {rep(" ", 2000), nil}, {"a \n", nil}, {"a\n", []string{"\n", `\`}}, {"x", []string{`a\`, rep("a", 2000)}}, {"x", []string{rep("a", 2000) + `\`}}, {"x", []string{rep("a\n", 1000)}}, {"x", []string{rep(`\" `, 1000)}},
	} {
		if line, err := Write(k.name, k.args); line != "" || err != api.ErrArg {
			t.Errorf("Write(%.40q, %.40q): %.80q %d", k.name, k.args, line, err)
		}
	}
}

// R5: arguments stay as they are, and what comes back is apart.
func TestResultsAreApart(t *testing.T) {
	args := []string{"a", `"b c`, ""}
	Write("x", args)
	if !slices.Equal(args, []string{"a", `"b c`, ""}) {
		t.Error(args)
	}
	first, _, _ := Split(".x a b", '.', '\'')
	first.Args[0] = "changed"
	second, _, _ := Split(".x a b", '.', '\'')
	words := Words("a b")
	words[1] = "changed"
	if !slices.Equal(second.Args, []string{"a", "b"}) || !slices.Equal(Words("a b"), []string{"a", "b"}) {
		t.Error(second, Words("a b"))
	}
}
