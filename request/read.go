package request

import (
	"strings"

	"frisket/api"
)

const blanks = " \t"

const all = api.MaxLine // bytes are in no line more

// cutter returns a function that cuts off the front of a text: the bytes that are as asked, so many at most. It remembers where it is, and goes on there when it is called again.
func cutter(text string) func(most int, is func(byte) bool) string {
	at := 0
	return func(most int, is func(byte) bool) string {
		from := at
		for at < len(text) && at-from < most && is(text[at]) {
			at++
		}
		return text[from:at]
	}
}

// readCondition reads what stands behind the turns.
func readCondition(cut func(int, func(byte) bool) string) (c Cond, ok bool) {
	first := cut(1, isNoBlank)
	if first == "" {
		return Cond{}, false
	}
	c.Kind = first[0]
	switch {
	case strings.Contains("oetn", first):
		return c, true
	case first == "d" || first == "r":
		c.Name = cut(all, isNoBlank)
		return c, c.Name != ""
	case isQuote(first[0]):
		isText := func(b byte) bool { return b != first[0] }
		c.Kind, c.Left = '\'', cut(all, isText)
		cut(1, isAny)
		c.Right = cut(all, isText)
		return c, cut(1, isAny) != ""
	}
	c.Kind, c.Name = 'x', first+cut(all, isNoBlank)
	return c, true
}

// readWord reads the argument at the front of s, which is no blank, and tells how many bytes it is written in.
func readWord(s string) (word string, size int) {
	var read strings.Builder
	quoted := s[0] == '"'
	if quoted {
		size++
	}
	for size < len(s) {
		b, next := s[size], size+1
		switch {
		case b == '\\':
			// What stands behind it has no meaning of its own.
			next = min(size+2, len(s))
			read.WriteString(s[size:next])
		case quoted && strings.HasPrefix(s[size:], `""`):
			read.WriteByte('"')
			next = size + 2
		case quoted && b == '"':
			quoted = false
		case !quoted && isBlank(b):
			return read.String(), size
		default:
			read.WriteByte(b)
		}
		size = next
	}
	return read.String(), size
}

// writeWord writes an argument; not all that it writes is read as the argument again.
func writeWord(arg string) string {
	if arg != "" && arg[0] != '"' && !strings.ContainsAny(arg, blanks) && !endsOpen(arg) {
		return arg
	}
	return `"` + strings.ReplaceAll(arg, `"`, `""`) + `"`
}

// endsOpen tells whether the last \ of an argument would take what stands behind.
func endsOpen(arg string) bool {
	return (len(arg)-len(strings.TrimRight(arg, `\`)))%2 == 1
}

func validLine(line string) bool {
	return len(line) <= api.MaxLine && !strings.Contains(line, "\n")
}

func mayControl(b byte) bool {
	return !isLetter(b) && !isDigit(b) && !isBlank(b) && b != '\\'
}

// isQuote tells whether b may stand around the texts of a condition.
func isQuote(b byte) bool {
	return mayControl(b) && strings.IndexByte("(+-.|!", b) < 0
}

func isLetter(b byte) bool {
	return b >= 'a' && b <= 'z' || b >= 'A' && b <= 'Z'
}

func isDigit(b byte) bool {
	return b >= '0' && b <= '9'
}

func isBlank(b byte) bool {
	return b == ' ' || b == '\t'
}

func isNoBlank(b byte) bool {
	return !isBlank(b)
}

func isTurn(b byte) bool {
	return b == '!'
}

func isAny(byte) bool {
	return true
}
