package measure

import (
	"math"
	"strings"
	"testing"

	"frisket/api"
)

var usual = Context{Size: 10, Vs: 120, Here: 50}

type want struct {
	n   int
	err api.Errno
}

func good(n int) want        { return want{n: n} }
func bad(err api.Errno) want { return want{err: err} }
func deep(n int) string      { return strings.Repeat("(", n) + "1" + strings.Repeat(")", n) }
func many(s string) string   { return strings.Repeat(s, 1000000) }

func checkEval(t *testing.T, c Context, cases map[string]want) {
	t.Helper()
	for s, w := range cases {
		if n, err := Eval(s, 'u', c); n != w.n || err != w.err {
			t.Errorf("Eval(%.40q) = %d, %d; want %d, %d", s, n, err, w.n, w.err)
		}
	}
}

// P1.1: a wrong context or scale is told before anything that is wrong in the text.
func TestErrArgIsFirst(t *testing.T) {
	type call struct {
		scale byte
		c     Context
	}
	calls := []call{{'q', usual}, {0, usual}, {'U', usual}, {' ', usual}, {'1', usual}}
	for _, c := range []Context{{Size: -1}, {Vs: -1}, {Here: -1000000001}, {Size: 1000001}, {Vs: 1000001}, {Here: 1000000001}} {
		calls = append(calls, call{'u', c})
	}
	for _, k := range calls {
		for _, s := range []string{"1", "+1", "-1", "x", "", "1/0", "999999999i"} {
			n, err := Number(s, k.scale, k.c)
			checkNothing(t, "Number", s, n, 0, err)
			n, err = Eval(s, k.scale, k.c)
			checkNothing(t, "Eval", s, n, 0, err)
			n, used, err := Prefix(s, k.scale, k.c)
			checkNothing(t, "Prefix", s, n, used, err)
			n, err = Change(1, s, k.scale, k.c)
			checkNothing(t, "Change", s, n, 0, err)
		}
		n, err := Unit(k.scale, k.c)
		checkNothing(t, "Unit", "", n, 0, err)
	}
}

func checkNothing(t *testing.T, call, s string, n, used int, err api.Errno) {
	t.Helper()
	if n != 0 || used != 0 || err != api.ErrArg {
		t.Errorf("%s(%q) = %d, %d, %d; want 0, 0, ErrArg", call, s, n, used, err)
	}
}

func TestGreatestAndLeastContext(t *testing.T) {
	for _, c := range []Context{{}, {Size: 1000000, Vs: 1000000, Here: 1000000000}, {Here: -1000000000}} {
		if n, err := Eval("7", 'u', c); n != 7 || err != api.OK {
			t.Error(c, n, err)
		}
		if one, err := Unit('m', c); one != 10*c.Size || err != api.OK {
			t.Error(c, one, err)
		}
	}
}

// P1.1: of what is wrong in the text, the first that the reckoning comes to is told.
func TestFirstErrorFromTheFront(t *testing.T) {
	checkEval(t, usual, map[string]want{
		"1/0+x":                   bad(api.ErrZero),
		"1%0+x":                   bad(api.ErrZero),
		"1/0x":                    bad(api.ErrZero),
		"x+1/0":                   bad(api.ErrForm),
		"1+x/0":                   bad(api.ErrForm),
		"1/(0":                    bad(api.ErrForm),
		"(1/0":                    bad(api.ErrZero),
		"(1/0)+999999999i":        bad(api.ErrZero),
		"999999999i/0":            bad(api.ErrRange),
		"999999999ix":             bad(api.ErrRange),
		"1/0+999999999i":          bad(api.ErrZero),
		"999999999p+x":            bad(api.ErrRange),
		"1000000*1000000/0":       bad(api.ErrRange),
		"1/(1-1)":                 bad(api.ErrZero),
		"1/(1000000*1000000":      bad(api.ErrRange),
		"2/!1":                    bad(api.ErrZero),
		"1+" + deep(21):           bad(api.ErrForm),
		"1/0+" + deep(21):         bad(api.ErrZero),
		deep(21) + "/0":           bad(api.ErrForm),
		"1000000000":              bad(api.ErrForm),
		"100000001p":              bad(api.ErrRange),
		"-(-100000000p)*10/0":     bad(api.ErrRange),
		"500000000+500000000+1-1": bad(api.ErrRange),
	})
	if n, err := Number("999999999ix", 'u', usual); n != 0 || err != api.ErrRange {
		t.Error("Number", n, err)
	}
}

func TestDepth(t *testing.T) {
	checkEval(t, usual, map[string]want{
		deep(20):                       good(1),
		deep(21):                       bad(api.ErrForm),
		deep(20) + "+" + deep(20):      good(2),
		"-(!(" + deep(18) + "))":       good(0),
		"-(!(" + deep(19) + "))":       bad(api.ErrForm),
		many("-") + "1":                good(1),
		many("+-!") + "(" + many("-"):  bad(api.ErrForm),
		many("("):                      bad(api.ErrForm),
		"(" + many("- ") + "1)":        good(1),
		many("1+") + "1":               good(1000001),
		many("-") + deep(20) + "+1":    good(2),
		many("(1)+") + "(1)":           good(1000001),
		"(" + many(" ") + "1 " + ")*3": good(3),
	})
}

// P1.2: numbers.
func TestNumbersAndScales(t *testing.T) {
	c := Context{Size: 12, Vs: 130, Here: 5}
	checkEval(t, c, map[string]want{
		"1u": good(1), "1p": good(10), "1P": good(120), "1i": good(720), "1c": good(283),
		"1m": good(120), "1n": good(60), "1v": good(130), "3": good(3),
		"1.5p": good(15), "1.55p": good(15), "1.59p": good(15), ".5i": good(360), "0.5i": good(360),
		"2.5": good(2), "2.999999999": good(2), ".000000001i": good(0), "-1.55p": good(-15), "-.5": good(0),
		"0.001388889i": good(1), "0.001388888i": good(0), "007": good(7), "000000001": good(1),
		"999999999": good(999999999), "100000000p": good(1000000000), "-100000000p": good(-1000000000),
		"1234567890": bad(api.ErrForm), "0000000001": bad(api.ErrForm), ".1234567890": bad(api.ErrForm),
		"123456789.123456789": good(123456789), "1234567890.5": bad(api.ErrForm),
		"1.": bad(api.ErrForm), "1.p": bad(api.ErrForm), ".": bad(api.ErrForm), ".p": bad(api.ErrForm), "p": bad(api.ErrForm),
		"1..5": bad(api.ErrForm), "1.5.5": bad(api.ErrForm), "1p.5": bad(api.ErrForm), "1pp": bad(api.ErrForm), "1q": bad(api.ErrForm),
		"1 p": bad(api.ErrForm), "(1 p)": bad(api.ErrForm), "(1)p": bad(api.ErrForm), "(1. 5)": bad(api.ErrForm), "(1 2)": bad(api.ErrForm),
		"999999999.999999999i": bad(api.ErrRange), "1\x00": bad(api.ErrForm), "\x00": bad(api.ErrForm), "é": bad(api.ErrForm),
	})
	big := Context{Size: 1000000, Vs: 1000000}
	checkEval(t, big, map[string]want{
		"100m": good(1000000000), "100.00000009m": good(1000000000), "100.0000001m": bad(api.ErrRange),
		"999999999.999999999m": bad(api.ErrRange), "1000v": good(1000000000), ".999999999m": good(9999999),
	})
}

func TestDefaultScale(t *testing.T) {
	for scale, one := range map[byte]int{'u': 1, 'p': 10, 'P': 120, 'i': 720, 'c': 283, 'm': 100, 'n': 50, 'v': 120} {
		if n, err := Eval("2+(3)+1u+.5", scale, usual); n != 5*one+1+one/2 || err != api.OK {
			t.Errorf("Eval in %c: %d, %d", scale, n, err)
		}
		if n, err := Number("-2.5", scale, usual); n != -(2*one+one/2) || err != api.OK {
			t.Errorf("Number in %c: %d, %d", scale, n, err)
		}
		if n, used, err := Prefix("3x", scale, usual); n != 3*one || used != 1 || err != api.OK {
			t.Errorf("Prefix in %c: %d, %d, %d", scale, n, used, err)
		}
		if n, err := Change(7, "+1", scale, usual); n != 7+one || err != api.OK {
			t.Errorf("Change in %c: %d, %d", scale, n, err)
		}
		if n, err := Unit(scale, usual); n != one || err != api.OK {
			t.Errorf("Unit of %c: %d, %d", scale, n, err)
		}
	}
}

func TestNumber(t *testing.T) {
	for s, w := range map[string]want{
		"2p": good(20), "+2p": good(20), "-2p": good(-20), "-.5i": good(-360), "0": good(0), "-0": good(0),
		"": bad(api.ErrForm), "+": bad(api.ErrForm), "-": bad(api.ErrForm), "--2": bad(api.ErrForm), "+-2": bad(api.ErrForm),
		"!2": bad(api.ErrForm), "|2": bad(api.ErrForm), "(2)": bad(api.ErrForm), "2p+1": bad(api.ErrForm), "2p-": bad(api.ErrForm),
		" 2": bad(api.ErrForm), "2 ": bad(api.ErrForm), "- 2": bad(api.ErrForm), "2.": bad(api.ErrForm), "1234567890": bad(api.ErrForm),
		"-100000001p": bad(api.ErrRange), "-100000000p": good(-1000000000),
	} {
		if n, err := Number(s, 'u', usual); n != w.n || err != w.err {
			t.Errorf("Number(%q) = %d, %d; want %d, %d", s, n, err, w.n, w.err)
		}
	}
}

// P1.2: expressions.
func TestOperators(t *testing.T) {
	checkEval(t, usual, map[string]want{
		"1i+2p*3": good(2220), "2+3*4": good(20), "20-2-3": good(15), "2+3==5": good(1), "1+1>1+1": good(2),
		"7/2": good(3), "-7/2": good(-3), "7/-2": good(-3), "-7/-2": good(3),
		"7%3": good(1), "-7%3": good(-1), "7%-3": good(1), "-7%-3": good(-1), "-6%3": good(0),
		"1/0": bad(api.ErrZero), "1%0": bad(api.ErrZero), "0/0": bad(api.ErrZero),
		"3<4": good(1), "4<4": good(0), "3>4": good(0), "5>4": good(1), "4>4": good(0),
		"3<=3": good(1), "3<=2": good(0), "3>=3": good(1), "3>=4": good(0),
		"3=3": good(1), "3=4": good(0), "3==3": good(1), "3==4": good(0), "3==-3": good(0),
		"1&2": good(1), "1&0": good(0), "0&1": good(0), "-1&1": good(0), "-1&-1": good(0),
		"0:0": good(0), "1:0": good(1), "0:5": good(1), "-1:-1": good(0), "-1:2": good(1),
		"3<=-3": good(0), "3<-3": good(0), "3=!0": good(0), "1=!0": good(1), "2*-3": good(-6), "1--1": good(2), "1-|60": good(-9),
		"1=>2": bad(api.ErrForm), "1===1": bad(api.ErrForm), "1<>2": bad(api.ErrForm), "1<==2": bad(api.ErrForm), "1!=2": bad(api.ErrForm),
		"1&&2": bad(api.ErrForm), "1**2": bad(api.ErrForm), "*2": bad(api.ErrForm), "1+": bad(api.ErrForm), "": bad(api.ErrForm),
		"1|2": bad(api.ErrForm), "(1)(2)": bad(api.ErrForm), "1(2)": bad(api.ErrForm),
		"2,": bad(api.ErrForm), "a": bad(api.ErrForm),
	})
}

func TestSignsAhead(t *testing.T) {
	checkEval(t, usual, map[string]want{
		"-3": good(-3), "+3": good(3), "--3": good(3), "-+-3": good(3), "-(1+2)": good(-3),
		"!0": good(1), "!5": good(0), "!-5": good(1), "-!5": good(0), "-!0": good(-1), "!!5": good(1), "!!0": good(0), "!(1-1)": good(1),
		"|100": good(50), "|0": good(-50), "-|100": good(-50), "|-100": good(-150), "||100": good(0), "!|50": good(1), "|(1+100)": good(51),
		"-2*3": good(-6), "!0+5": good(6), "|100*2": good(100),
		"-": bad(api.ErrForm), "!": bad(api.ErrForm), "|": bad(api.ErrForm), "-!|": bad(api.ErrForm), "-)": bad(api.ErrForm),
	})
}

func TestBlanks(t *testing.T) {
	checkEval(t, usual, map[string]want{
		"(1 + 2)*3": good(9), "( 1+2 )": good(3), "(1 +2)": good(3), "(1+ 2)": good(3), "(  1  )": good(1), "( ( 1 ) + 2 )": good(3),
		"( - ! | 1 )": good(-1), "(3 <= 3)": good(1), "((1+1)*( 2 ))": good(4), "(- (1))": good(-1),
		"1 +2": bad(api.ErrForm), "1+ 2": bad(api.ErrForm), " 1": bad(api.ErrForm), "1 ": bad(api.ErrForm), "- 1": bad(api.ErrForm),
		"(1) +2": bad(api.ErrForm), "(1)+ 2": bad(api.ErrForm), "- (1)": bad(api.ErrForm), "(1) ": bad(api.ErrForm), " (1)": bad(api.ErrForm),
		"(3 < = 3)": bad(api.ErrForm), "(1\t+2)": bad(api.ErrForm), "(1\n)": bad(api.ErrForm), "( )": bad(api.ErrForm), "()": bad(api.ErrForm),
		"(1": bad(api.ErrForm), "(1 ": bad(api.ErrForm), "1)": bad(api.ErrForm), "(1+)": bad(api.ErrForm), "(": bad(api.ErrForm), ")": bad(api.ErrForm), "((1)": bad(api.ErrForm),
	})
}

func TestRange(t *testing.T) {
	checkEval(t, usual, map[string]want{
		"500000000+500000000": good(1000000000), "500000000+500000001": bad(api.ErrRange),
		"-500000000-500000000": good(-1000000000), "-500000000-500000001": bad(api.ErrRange),
		"50000*20000": good(1000000000), "-50000*20000": good(-1000000000), "50000*20001": bad(api.ErrRange),
		"999999999*999999999": bad(api.ErrRange), "(500000000*2+1)*0": bad(api.ErrRange), "0*(500000000*3)": bad(api.ErrRange),
		"-100000000p/-1": good(1000000000), "|-999999950": good(-1000000000), "|-999999951": bad(api.ErrRange),
		"!|-999999951": bad(api.ErrRange), "999999999i": bad(api.ErrRange),
	})
	checkEval(t, Context{Here: -1000000000}, map[string]want{"|0": good(1000000000), "|1": bad(api.ErrRange), "|-1": good(999999999)})
}

func TestPrefix(t *testing.T) {
	for _, k := range []struct {
		s       string
		n, used int
		err     api.Errno
	}{
		{"10p+x", 100, 3, 0}, {"1+(2/0", 1, 1, 0}, {"1+(2/0)", 0, 0, api.ErrZero}, {"1/0+x", 0, 0, api.ErrZero}, {"1/0(", 0, 0, api.ErrZero},
		{"x", 0, 0, api.ErrForm}, {"", 0, 0, api.ErrForm}, {"-", 0, 0, api.ErrForm}, {"(1", 0, 0, api.ErrForm}, {"(1+2", 0, 0, api.ErrForm}, {" 1", 0, 0, api.ErrForm},
		{"(1+x)", 0, 0, api.ErrForm}, {"1.", 1, 1, 0}, {"1.x", 1, 1, 0}, {".x", 0, 0, api.ErrForm}, {"1.5.5", 1, 3, 0}, {"1.p", 1, 1, 0},
		{"1234567890", 123456789, 9, 0}, {"1+1234567890+1", 123456790, 11, 0}, {"(1234567890)", 0, 0, api.ErrForm}, {".1234567890p", 0, 10, 0},
		{"1p2", 10, 2, 0}, {"1 +2", 1, 1, 0}, {"1+ 2", 1, 1, 0}, {"(1 + 2) + 3", 3, 7, 0}, {"(1)p", 1, 3, 0}, {"(1)(2)", 1, 3, 0}, {"1)", 1, 1, 0},
		{"1+2-", 3, 3, 0}, {"1+2--", 3, 3, 0}, {"1+2--3", 6, 6, 0}, {"1<=", 1, 1, 0}, {"1<=2", 1, 4, 0}, {"1<==2", 1, 1, 0}, {"1!=2", 1, 1, 0}, {"1=>2", 1, 1, 0},
		{"999999999i+x", 0, 0, api.ErrRange}, {"1+(999999999i", 1, 1, 0}, {"999999999ix", 0, 0, api.ErrRange},
		{"1+" + deep(20), 2, 43, 0}, {"1+" + deep(21), 1, 1, 0}, {deep(21), 0, 0, api.ErrForm}, {"1/(0*" + deep(20) + ")", 1, 1, 0},
		{"|100,", 50, 4, 0}, {many("1+"), 1000000, 1999999, 0}, {many("-") + "1x", 1, 1000001, 0}, {many("("), 0, 0, api.ErrForm},
	} {
		if n, used, err := Prefix(k.s, 'u', usual); n != k.n || used != k.used || err != k.err {
			t.Errorf("Prefix(%.40q) = %d, %d, %d; want %d, %d, %d", k.s, n, used, err, k.n, k.used, k.err)
		}
	}
}

// P1.3.
func TestChange(t *testing.T) {
	for _, k := range []struct {
		old int
		s   string
		want
	}{
		{100, "-1+2", good(97)}, {100, "+1+2", good(103)}, {100, "7", good(7)}, {100, "--3", good(103)}, {100, "+-3", good(97)}, {100, "-+3", good(97)}, {100, "++3", good(103)},
		{100, "(-1+2)", good(1)}, {100, "!5", good(0)}, {100, "|60", good(10)}, {100, "+|60", good(110)}, {100, "-|60", good(90)}, {100, "+2*3", good(106)}, {100, "-1p", good(90)},
		{100, "+", bad(api.ErrForm)}, {100, "-", bad(api.ErrForm)}, {100, "", bad(api.ErrForm)}, {100, "x", bad(api.ErrForm)}, {100, "+ 1", bad(api.ErrForm)}, {100, "+1x", bad(api.ErrForm)}, {100, " +1", bad(api.ErrForm)},
		{100, "+1/0", bad(api.ErrZero)}, {100, "-1/0+x", bad(api.ErrZero)}, {100, "1/0", bad(api.ErrZero)},
		{1000000000, "+1", bad(api.ErrRange)}, {1000000000, "-1", good(999999999)}, {999999999, "+1", good(1000000000)}, {1000000000, "--1", bad(api.ErrRange)},
		{-1000000000, "-1", bad(api.ErrRange)}, {-1000000000, "+1", good(-999999999)}, {-999999999, "-1", good(-1000000000)}, {1000000000, "5", good(5)},
		{-1000000000, "-100000000p", bad(api.ErrRange)}, {-1000000000, "+100000000p", good(0)}, {0, "+100000001p-2p", bad(api.ErrRange)},
		{1000000000, "+x", bad(api.ErrForm)}, {1000000001, "5", bad(api.ErrArg)}, {-1000000001, "+5", bad(api.ErrArg)}, {1000000001, "x", bad(api.ErrArg)}, {1000000001, "1/0", bad(api.ErrArg)},
		{math.MaxInt, "+999999999", bad(api.ErrArg)}, {math.MinInt, "-999999999", bad(api.ErrArg)},
	} {
		if n, err := Change(k.old, k.s, 'u', usual); n != k.n || err != k.err {
			t.Errorf("Change(%d, %q) = %d, %d; want %d, %d", k.old, k.s, n, err, k.n, k.err)
		}
	}
}

func TestText(t *testing.T) {
	for _, k := range []struct {
		n     int
		scale byte
		want  string
		err   api.Errno
	}{
		{0, 'u', "0u", 0}, {7, 'u', "7u", 0}, {1000000000, 'u', "1000000000u", 0}, {math.MaxInt, 'u', "9223372036854775807u", 0},
		{0, 'p', "0p", 0}, {15, 'p', "1.5p", 0}, {20, 'p', "2p", 0}, {1, 'p', "0.1p", 0}, {100, 'p', "10p", 0}, {math.MaxInt, 'p', "922337203685477580.7p", 0},
		{120, 'P', "1P", 0}, {130, 'P', "1.0833P", 0}, {126, 'P', "1.05P", 0}, {1, 'P', "0.0083P", 0}, {119, 'P', "0.9916P", 0}, {60, 'P', "0.5P", 0},
		{720, 'i', "1i", 0}, {1, 'i', "0.0013i", 0}, {719, 'i', "0.9986i", 0}, {360, 'i', "0.5i", 0}, {0, 'i', "0i", 0}, {7200, 'i', "10i", 0}, {9, 'i', "0.0125i", 0},
		{-1, 'u', "", api.ErrArg}, {math.MinInt, 'p', "", api.ErrArg}, {1, 'c', "", api.ErrArg}, {1, 'm', "", api.ErrArg}, {1, 'n', "", api.ErrArg}, {1, 'v', "", api.ErrArg},
		{1, 'U', "", api.ErrArg}, {1, 0, "", api.ErrArg}, {1, 255, "", api.ErrArg}, {-1, 'x', "", api.ErrArg},
	} {
		if s, err := Text(k.n, k.scale); s != k.want || err != k.err {
			t.Errorf("Text(%d, %c) = %q, %d; want %q, %d", k.n, k.scale, s, err, k.want, k.err)
		}
	}
}

// P1.4.
func TestEvalOfText(t *testing.T) {
	for _, scale := range []byte("up") {
		for n := 0; n < api.MaxInt; n = n*21/20 + 1 {
			checkText(t, n, scale)
		}
		checkText(t, api.MaxInt-1, scale)
	}
}

func checkText(t *testing.T, n int, scale byte) {
	t.Helper()
	s, err := Text(n, scale)
	if err != api.OK {
		t.Fatal(n, scale, err)
	}
	if back, err := Eval(s, 'i', usual); back != n || err != api.OK {
		t.Errorf("Eval(%q) = %d, %d; want %d", s, back, err, n)
	}
}

func TestChainIsTheSum(t *testing.T) {
	s, sum := "0", 0
	for i := range 2000 {
		term, err := Text(i*i%971, 'p')
		if err != api.OK {
			t.Fatal(err)
		}
		if i%3 == 0 {
			s, sum = s+"-"+term, sum-i*i%971
		} else {
			s, sum = s+"+"+term, sum+i*i%971
		}
		checkEval(t, usual, map[string]want{s: good(sum)})
	}
}

// form tells where in s what is named by part may end, if it begins at one of the places from; it follows the chapter's
// grammar, without deciding anything on the way: so it knows nothing of reading the longest operator, or of the longest number.
func form(s string, part byte, depth int, from ...int) (ends []int) {
	next := func(i int, set string) bool { return i < len(s) && strings.IndexByte(set, s[i]) >= 0 }
	for _, i := range from {
		switch {
		case part == ' ':
			ends = append(ends, i)
			if depth > 0 && next(i, " ") {
				ends = append(ends, form(s, ' ', depth, i+1)...)
			}
		case part == '0' && next(i, "0123456789"):
			ends = append(ends, i+1)
			ends = append(ends, form(s, '0', depth, i+1)...)
		case part == 'n':
			for _, j := range append(form(s, '0', depth, i), i) {
				if j > i {
					ends = append(ends, j)
				}
				if next(j, ".") {
					ends = append(ends, form(s, '0', depth, j+1)...)
				}
			}
			for _, j := range ends {
				if next(j, "upPicmnv") {
					ends = append(ends, j+1)
				}
			}
		case part == 'o' && next(i, "+-!|"):
			ends = append(ends, form(s, 'o', depth, form(s, ' ', depth, i+1)...)...)
		case part == 'o' && next(i, "("):
			for _, j := range form(s, 'e', depth+1, i+1) {
				if next(j, ")") && depth < 20 {
					ends = append(ends, j+1)
				}
			}
		case part == 'o':
			ends = append(ends, form(s, 'n', depth, i)...)
		case part == 'e':
			for _, j := range form(s, ' ', depth, form(s, 'o', depth, form(s, ' ', depth, i)...)...) {
				ends = append(ends, j)
				if next(j, "<>=") && next(j+1, "=") {
					ends = append(ends, form(s, 'e', depth, j+2)...)
				}
				if next(j, "+-*/%<>=&:") {
					ends = append(ends, form(s, 'e', depth, j+1)...)
				}
			}
		}
	}
	return ends
}

// P1.2 and P1.4, of all short texts of some bytes: which beginning is taken, and that Eval and Prefix agree.
func TestAllShortTexts(t *testing.T) {
	const bytes = "12.p+!<=( )-"
	texts := []string{""}
	for i := 0; i < len(texts); i++ {
		checkShort(t, texts[i])
		if len(texts[i]) < 5 {
			for j := range bytes {
				texts = append(texts, texts[i]+bytes[j:j+1])
			}
		}
	}
}

func checkShort(t *testing.T, s string) {
	longest := 0
	for _, end := range form(s, 'e', 0, 0) {
		longest = max(longest, end)
	}
	n, used, err := Prefix(s, 'u', usual)
	if used != longest || (err == api.ErrForm) != (longest == 0) {
		t.Errorf("Prefix(%q) = %d, %d, %d; want used %d", s, n, used, err, longest)
	}
	whole, wrong := Eval(s, 'u', usual)
	if (wrong == api.OK) != (s != "" && longest == len(s)) {
		t.Errorf("Eval(%q) = %d, %d; longest beginning %d", s, whole, wrong, longest)
	}
	if wrong == api.OK && whole != n || wrong != api.OK && whole != 0 {
		t.Errorf("Eval(%q) = %d, %d; Prefix %d, %d, %d", s, whole, wrong, n, used, err)
	}
}
