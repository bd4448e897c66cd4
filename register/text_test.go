package register

import (
	"fmt"
	"math"
	"strings"
	"testing"

	"frisket/api"
)

var goodForms = []string{"0", "1", "9", "00", "01", "10", "001", "123", "000000000", "123456789", "i", "I", "a", "A"}

var badForms = []string{
	"", "z", "b", "B", "1234567890", "0000000000", strings.Repeat("0", 1000), "ii", "iI", "Ii", "II", "aa", "aA", "AA", "ia", "IA", "iIaA",
	"0i", "i0", "0a", "a0", " ", " 0", "0 ", "0 0", "-1", "+1", "0.0", "1x", "x1", "i ", " a", "\x00", "0\x00", "/", ":", "ı", "٣", "\xff", "0\xff",
}

// numbers with what is special about them in some format, greatest of all 10^9.
var someNumbers = []int{0, 1, 2, 3, 4, 9, 10, 25, 26, 27, 28, 49, 99, 100, 701, 702, 703, 999, 1994, 18278, 18279, 39999, 40000, 123456789, 999999999, 1000000000}

func checkWrite(t *testing.T, n int, form, want string) {
	t.Helper()
	if s, err := Write(n, form); s != want || err != api.OK {
		t.Errorf("Write(%d, %q) = %q, %d; want %q", n, form, s, err, want)
	}
}

// P2.2: decimal.
func TestWriteDecimal(t *testing.T) {
	for _, k := range []struct {
		n          int
		form, want string
	}{
		{7, "001", "007"}, {7, "0", "7"}, {7, "9", "7"}, {7, "00", "07"}, {7, "98", "07"}, {-7, "00", "-07"}, {-7, "0", "-7"}, {1234, "0", "1234"}, {1234, "000", "1234"}, {1234, "0000", "1234"},
		{1234, "00000", "01234"}, {-1234, "00000", "-01234"}, {0, "0", "0"}, {0, "000", "000"}, {0, "123456789", "000000000"}, {-1, "000000000", "-000000001"}, {1000000000, "000000000", "1000000000"},
		{1000000000, "5", "1000000000"}, {-1000000000, "000000000", "-1000000000"}, {999999999, "000000000", "999999999"},
	} {
		checkWrite(t, k.n, k.form, k.want)
	}
	for width := 1; width <= 9; width++ {
		for _, n := range someNumbers {
			checkWrite(t, n, "314159265"[:width], fmt.Sprintf("%0*d", width, n))
		}
	}
}

// romanByPlaces writes place by place, each digit from a list of its own.
func romanByPlaces(n int) string {
	hundreds := []string{"", "c", "cc", "ccc", "cd", "d", "dc", "dcc", "dccc", "cm"}
	tens := []string{"", "x", "xx", "xxx", "xl", "l", "lx", "lxx", "lxxx", "xc"}
	ones := []string{"", "i", "ii", "iii", "iv", "v", "vi", "vii", "viii", "ix"}
	return strings.Repeat("m", n/1000) + hundreds[n/100%10] + tens[n/10%10] + ones[n%10]
}

// P2.2 and P2.3: roman numbers, and that they are read back.
func TestRoman(t *testing.T) {
	for n := 1; n <= 39999; n++ {
		small := romanByPlaces(n)
		great := strings.ToUpper(small)
		checkWrite(t, n, "i", small)
		checkWrite(t, n, "I", great)
		checkWrite(t, -n, "i", "-"+small)
		checkWrite(t, -n, "I", "-"+great)
		for _, s := range []string{small, great} {
			if back, err := Roman(s); back != n || err != api.OK {
				t.Errorf("Roman(%q) = %d, %d; want %d", s, back, err, n)
			}
		}
	}
}

func TestRomanOtherwiseDecimal(t *testing.T) {
	for _, form := range []string{"i", "I"} {
		checkWrite(t, 0, form, "0")
		for _, n := range []int{40000, 40001, 123456, 1000000000} {
			checkWrite(t, n, form, fmt.Sprint(n))
			checkWrite(t, -n, form, fmt.Sprint(-n))
		}
	}
}

// P2.2: of all short texts of the letters of both kinds and of others, Roman reads just those that Write writes.
func TestRomanOfAllShortTexts(t *testing.T) {
	const bytes = "ivxlcdmIVM0-a"
	written := map[string]int{}
	for n := 1; n <= 39999; n++ {
		small, _ := Write(n, "i")
		great, _ := Write(n, "I")
		written[small], written[great] = n, n
	}
	texts := []string{""}
	for i := 0; i < len(texts); i++ {
		s := texts[i]
		n, err := Roman(s)
		if want := written[s]; n != want || err != api.OK && want > 0 || err != api.ErrForm && want == 0 {
			t.Errorf("Roman(%q) = %d, %d; want %d", s, n, err, want)
		}
		for j := range bytes {
			if len(s) < 4 {
				texts = append(texts, s+bytes[j:j+1])
			}
		}
	}
}

func TestRomanMalformed(t *testing.T) {
	m := func(n int) string { return strings.Repeat("m", n) }
	for _, s := range []string{
		"", "0", "1", "40000", "-i", "-iii", "+i", " i", "i ", "i i", "q", "xq", "qx", "iiii", "vv", "ll", "dd", "xxxx", "cccc", "ic", "il", "im", "vx", "xm", "xd", "iix", "ivi", "ixi", "xcx", "cmc", "cmm", "ixx",
		"Xi", "xI", "iV", "Mm", "mM", "mMm", "xLix", "XLIx", m(40), m(40) + "i", m(40) + "M", m(41), m(39) + "cmm", m(1000000), strings.Repeat("i", 1000000), strings.ToUpper(m(40)), m(39) + strings.ToUpper(m(1)),
		// Letters that have one of the seven as their small one, or look like one.
		"İ", "ı", "xİ", "Ⅳ", "ⅳ", "i\xff", "\xffi", "i\x00", "\x00",
	} {
		if n, err := Roman(s); n != 0 || err != api.ErrForm {
			t.Errorf("Roman(%.40q) = %d, %d; want 0, ErrForm", s, n, err)
		}
	}
	if n, err := Roman(m(39) + "cmxcix"); n != 39999 || err != api.OK {
		t.Error(n, err)
	}
}

// P2.2 and P2.3: letters go through all texts of a to z, the shorter ones first, and so leave none out and write none twice.
func TestLetters(t *testing.T) {
	text := []byte("a")
	for n := 1; n < 500000; n++ {
		small := string(text)
		checkWrite(t, n, "a", small)
		checkWrite(t, n, "A", strings.ToUpper(small))
		text = nextText(text)
	}
	for n, s := range map[int]string{1: "a", 26: "z", 27: "aa", 28: "ab", 52: "az", 53: "ba", 702: "zz", 703: "aaa", 18278: "zzz", 18279: "aaaa", 12356630: "zzzzz", 321272406: "zzzzzz", 321272407: "aaaaaaa", 1000000000: "cfdgsxl"} {
		checkWrite(t, n, "a", s)
		checkWrite(t, -n, "a", "-"+s)
		checkWrite(t, n, "A", strings.ToUpper(s))
		checkWrite(t, -n, "A", "-"+strings.ToUpper(s))
	}
	checkWrite(t, 0, "a", "0")
	checkWrite(t, 0, "A", "0")
}

func nextText(text []byte) []byte {
	for i := len(text) - 1; i >= 0; i-- {
		if text[i] < 'z' {
			text[i]++
			return text
		}
		text[i] = 'a'
	}
	return append(text, 'a')
}

// P2.3: in each format other numbers have other texts (the letters' numbering is looked at whole above).
func TestOtherNumbersHaveOtherTexts(t *testing.T) {
	for _, form := range goodForms {
		met := map[string]int{}
		for n := -60000; n <= 60000; n++ {
			s, err := Write(n, form)
			if other, twice := met[s]; twice || err != api.OK {
				t.Fatalf("Write(%d, %q) = %q, %d; that of %d too", n, form, s, err, other)
			}
			met[s] = n
		}
	}
}

// P2.2: below 0, a - and the text of the opposite number, in each format.
func TestBelowZero(t *testing.T) {
	for _, form := range goodForms {
		for _, n := range someNumbers[1:] {
			s, err := Write(n, form)
			if err != api.OK {
				t.Error(n, form, err)
			}
			checkWrite(t, -n, form, "-"+s)
		}
	}
}

// P2.1: of a format and a number that are both wrong, the format is told.
func TestWriteErrors(t *testing.T) {
	outside := []int{1000000001, -1000000001, 2000000000, math.MaxInt, math.MinInt, math.MinInt + 1}
	for _, n := range append(outside, someNumbers...) {
		for _, form := range badForms {
			if s, err := Write(n, form); s != "" || err != api.ErrForm {
				t.Errorf("Write(%d, %.40q) = %q, %d; want ErrForm", n, form, s, err)
			}
		}
	}
	for _, n := range outside {
		for _, form := range goodForms {
			if s, err := Write(n, form); s != "" || err != api.ErrRange {
				t.Errorf("Write(%d, %q) = %q, %d; want ErrRange", n, form, s, err)
			}
		}
	}
}
