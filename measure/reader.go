package measure

import (
	"strings"

	"frisket/api"
)

const (
	maxDepth  = 20 // brackets that may be open at once
	maxDigits = 9  // digits on each side of a point
)

// operators stand longest first, because that is how they are read.
var operators = [...]string{"<=", ">=", "==", "<", ">", "=", "+", "-", "*", "/", "%", "&", ":"}

// reader goes over a text once, from the front, and reckons on the way. What goes wrong it throws, as an api.Errno;
// so the first error on the way is the one that counts.
type reader struct {
	text       string
	pos, depth int
	one        int // of the default scale
	context    Context
	formOnly   bool // values do not matter: all are 0, and nothing but ErrForm is thrown
}

// readAll is the edge: it has read go over all of s, and catches what is thrown.
func readAll(s string, scale byte, c Context, read func(*reader) int) (n int, err api.Errno) {
	one, err := Unit(scale, c)
	if err != api.OK {
		return 0, err
	}
	defer func() {
		if thrown, ok := recover().(api.Errno); ok {
			n, err = 0, thrown
		}
	}()
	r := reader{text: s, one: one, context: c}
	n = read(&r)
	r.need(r.pos == len(s))
	return n, api.OK
}

// beginning tells where the longest beginning of s that is an expression ends; 0 if there is none.
func beginning(s string) (end int) {
	// A malformed operand ends it from any depth: end is then still that of the operand ahead.
	defer func() { _ = recover() }()
	r := reader{text: s, formOnly: true}
	for more := true; more; more = r.operator() != "" {
		r.operand()
		end = r.pos
	}
	return end
}

func (r *reader) need(form bool) {
	if !form {
		panic(api.ErrForm)
	}
}

// byteAt is the byte at i, or 0 behind the end; no byte 0 fits anywhere.
func (r *reader) byteAt(i int) byte {
	if i < len(r.text) {
		return r.text[i]
	}
	return 0
}

func (r *reader) expression() int {
	n := r.operand()
	for op := r.operator(); op != ""; op = r.operator() {
		n = r.apply(op, n, r.operand())
	}
	return n
}

// operator reads an operator; it is empty, and nothing but blanks is passed, if none stands there.
func (r *reader) operator() string {
	r.passBlanks()
	for _, op := range operators {
		if strings.HasPrefix(r.text[r.pos:], op) {
			r.pos += len(op)
			return op
		}
	}
	return ""
}

// operand goes back over the signs in a loop: as there may be any number of them, they must not nest calls.
func (r *reader) operand() int {
	first := r.pos
	r.passSigns()
	last := r.pos
	var n int
	if r.byteAt(r.pos) == '(' {
		n = r.bracket()
	} else {
		n = r.number()
	}
	for i := last - 1; i >= first; i-- {
		n = r.sign(r.text[i], n)
	}
	return n
}

func (r *reader) passSigns() {
	r.passBlanks()
	for strings.IndexByte("+-!|", r.byteAt(r.pos)) >= 0 {
		r.pos++
		r.passBlanks()
	}
}

func (r *reader) passBlanks() {
	for r.depth > 0 && r.byteAt(r.pos) == ' ' {
		r.pos++
	}
}

func (r *reader) bracket() int {
	r.need(r.depth < maxDepth)
	r.depth++
	r.pos++
	n := r.expression()
	r.need(r.byteAt(r.pos) == ')')
	r.pos++
	r.depth--
	return n
}

func (r *reader) signedNumber() int {
	ahead := r.byteAt(0)
	if ahead == '+' || ahead == '-' {
		r.pos++
	}
	return r.sign(ahead, r.number())
}

func (r *reader) number() int {
	whole, digits := r.digits()
	part, power := 0, 1
	if r.byteAt(r.pos) == '.' && isDigit(r.byteAt(r.pos+1)) {
		r.pos++
		part, digits = r.digits()
		for range digits {
			power *= 10
		}
	}
	r.need(digits > 0)
	one := r.scale()
	return r.bounded(whole*one + part*one/power)
}

func (r *reader) digits() (n, count int) {
	for count < maxDigits && isDigit(r.byteAt(r.pos)) {
		n = n*10 + int(r.text[r.pos]-'0')
		r.pos++
		count++
	}
	return n, count
}

// scale reads a scale, and returns what one of it is.
func (r *reader) scale() int {
	if one, known := unit(r.byteAt(r.pos), r.context); known {
		r.pos++
		return one
	}
	return r.one
}

// sign applies + - ! or |; other bytes (the blanks between signs) leave n as it is.
func (r *reader) sign(c byte, n int) int {
	switch c {
	case '-':
		return -n
	case '!':
		return r.bounded(truth(n <= 0))
	case '|':
		return r.bounded(n - r.context.Here)
	}
	return n
}

func (r *reader) apply(op string, a, b int) int {
	if r.formOnly {
		return 0
	}
	switch op {
	case "+":
		return r.bounded(a + b)
	case "-":
		return r.bounded(a - b)
	case "*":
		return r.bounded(a * b)
	case "/":
		return a / divisor(b)
	case "%":
		return a % divisor(b)
	case "<":
		return truth(a < b)
	case ">":
		return truth(a > b)
	case "=", "==":
		return truth(a == b)
	case "<=":
		return truth(a <= b)
	case ">=":
		return truth(a >= b)
	case "&":
		return truth(a > 0 && b > 0)
	}
	return truth(a > 0 || b > 0)
}

func (r *reader) bounded(n int) int {
	if r.formOnly {
		return 0
	}
	if !inRange(n) {
		panic(api.ErrRange)
	}
	return n
}

func divisor(n int) int {
	if n == 0 {
		panic(api.ErrZero)
	}
	return n
}

func truth(b bool) int {
	if b {
		return 1
	}
	return 0
}

func isDigit(c byte) bool {
	return c >= '0' && c <= '9'
}
