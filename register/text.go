package register

import (
	"slices"
	"strconv"
	"strings"

	"frisket/api"
)

const (
	maxDigits = 9     // of a decimal format
	maxRoman  = 39999 // greater numbers are written in decimal
)

type numeral struct {
	value int
	text  string
}

// numerals stand greatest first: so they are written, and so they are read.
var numerals = [...]numeral{
	{1000, "m"}, {900, "cm"}, {500, "d"}, {400, "cd"}, {100, "c"}, {90, "xc"}, {50, "l"}, {40, "xl"}, {10, "x"}, {9, "ix"}, {5, "v"}, {4, "iv"}, {1, "i"},
}

// Write writes n by a format.
func Write(n int, form string) (string, api.Errno) {
	if err := checkFormat(form); err != api.OK {
		return "", err
	}
	if err := checkRange(n); err != api.OK {
		return "", err
	}
	if n < 0 {
		return "-" + write(-n, form), api.OK
	}
	return write(n, form), api.OK
}

// Roman reads what Write writes with the format i or I for 1 to 39999.
func Roman(s string) (int, api.Errno) {
	rest, n := strings.ToLower(s), 0
	for _, step := range numerals {
		for n <= maxRoman && strings.HasPrefix(rest, step.text) {
			rest, n = rest[len(step.text):], n+step.value
		}
	}
	// What else was read, or was read in another way than the canonical one, would be written differently.
	if n < 1 || s != write(n, "i") && s != write(n, "I") {
		return 0, api.ErrForm
	}
	return n, api.OK
}

// write writes n, from 0 on.
func write(n int, form string) string {
	if n > 0 {
		switch form {
		case "a":
			return letters(n, 'a')
		case "A":
			return letters(n, 'A')
		case "i":
			return roman(n)
		case "I":
			return strings.ToUpper(roman(n))
		}
	}
	return decimal(n, len(form))
}

func decimal(n, width int) string {
	text := strconv.Itoa(n)
	return strings.Repeat("0", max(0, width-len(text))) + text
}

func roman(n int) string {
	if n > maxRoman {
		return decimal(n, 1)
	}
	text := ""
	for _, step := range numerals {
		for n >= step.value {
			text, n = text+step.text, n-step.value
		}
	}
	return text
}

func letters(n int, first byte) string {
	var text []byte
	// There is no letter for nothing: so each digit is from 1 to 26.
	for ; n > 0; n = (n - 1) / 26 {
		text = append(text, first+byte((n-1)%26))
	}
	slices.Reverse(text)
	return string(text)
}

func isDigit(c byte) bool {
	return c >= '0' && c <= '9'
}
