package expand

import (
	"strings"

	"frisket/api"
)

// An escape is one that Expand replaces: it stands from start to ahead of end. That of a \" is the end of the text.
type escape struct {
	kind       byte   // the byte behind the \
	name       string // of \w its text; of \" and what copy mode makes one byte of: empty
	step       int
	start, end int
}

// find finds the first escape in s that Expand replaces.
func find(s string, copy bool) (escape, bool) {
	for at := 0; at+1 < len(s); at++ {
		if s[at] != '\\' {
			continue
		}
		if esc, ok := read(s[at:], copy); ok {
			esc.start, esc.end = at, at+esc.end
			return esc, true
		}
		// Two bytes stay. Of a malformed escape just the \ is none, but the byte behind it (n * $ w) begins nothing either.
		at++
	}
	return escape{}, false
}

// read reads the escape at the front of s, and tells whether Expand replaces it.
func read(s string, copy bool) (escape, bool) {
	kind := s[1]
	switch kind {
	case 'n', '*', '$':
		return readNamed(s)
	case 'w':
		text, ok := readText(s[2:])
		return escape{kind: kind, name: text, end: len(`\w''`) + len(text)}, ok && !copy
	case '"':
		return escape{kind: kind, end: len(s)}, true
	case '\\', '.':
		return escape{kind: kind, end: 2}, copy
	}
	return escape{}, false
}

// readNamed reads \n, \* or \$ with its name.
func readNamed(s string) (escape, bool) {
	esc := escape{kind: s[1], end: 2}
	if esc.kind == 'n' {
		switch byteAt(s, 2) {
		case '+':
			esc.step, esc.end = 1, 3
		case '-':
			esc.step, esc.end = -1, 3
		}
	}
	name, size := readName(s[esc.end:])
	esc.name = name
	esc.end += size
	return esc, size > 0
}

// readName reads the name at the front of s, and tells how many bytes are its own and those around it: 0 if there is none.
func readName(s string) (name string, size int) {
	switch first := byteAt(s, 0); {
	case first == '(' && isShort(byteAt(s, 1)) && isShort(byteAt(s, 2)):
		return s[1:3], 3
	case first == '[':
		// Behind the [ and the longest name is the last place where the ] can be.
		end := strings.IndexByte(s[:min(len(s), api.MaxName+2)], ']')
		if end > 1 && isGraphic(s[1:end]) {
			return s[1:end], end + 1
		}
	case isShort(first):
		return s[:1], 1
	}
	return "", 0
}

// readText reads the text of \w, between two bytes that are the same.
func readText(s string) (string, bool) {
	if s == "" || s[0] == '\\' {
		return "", false
	}
	end := strings.IndexByte(s[1:], s[0])
	if end < 0 {
		return "", false
	}
	return s[1 : 1+end], true
}

// isShort tells whether c can be a name of one byte, or be in one behind a (.
func isShort(c byte) bool {
	return c >= 33 && c <= 126 && strings.IndexByte("([+-", c) < 0
}

func isGraphic(s string) bool {
	for i := range len(s) {
		if s[i] < 33 || s[i] > 126 {
			return false
		}
	}
	return true
}

// byteAt is the byte at i, or 0 behind the end; no name has a byte 0.
func byteAt(s string, i int) byte {
	if i < len(s) {
		return s[i]
	}
	return 0
}
