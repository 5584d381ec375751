package measure

import (
	"strings"

	"frisket/api"
)

const (
	maxDepth  = 20 // of brackets
	maxDigits = 9  // on each side of a number's point
)

// operators stand with the longer ones first, since the longest one that fits is meant.
var operators = [...]string{"<=", ">=", "==", "+", "-", "*", "/", "%", "<", ">", "=", "&", ":"}

// reader goes through an expression from the front and reckons it on the way; it throws what goes wrong.
type reader struct {
	text  string
	at    int // the byte that comes next
	depth int // brackets that are open
	last  int // where the last operand outside of brackets ended
	c     Context
	one   int64 // of the default scale
	blind bool  // only the form counts: every value is 0, and none is wrong
}

func newReader(s string, scale byte, c Context) *reader {
	one, err := Unit(scale, c)
	if err != api.OK {
		panic(err)
	}
	return &reader{text: s, c: c, one: int64(one)}
}

// formed tells how long the longest beginning is that is an expression by its form (0: there is none).
func formed(s string) int {
	r := &reader{text: s, blind: true}
	attempt(r.expression) // its error stands behind the last operand that belongs to the beginning
	return r.last
}

// peek returns the next byte (at the end 0, which fits nowhere).
func (r *reader) peek() byte {
	if r.at < len(r.text) {
		return r.text[r.at]
	}
	return 0
}

// takes goes past the next byte if it is b.
func (r *reader) takes(b byte) bool {
	if r.at == len(r.text) || r.text[r.at] != b {
		return false
	}
	r.at++
	return true
}

func (r *reader) mustTake(b byte) {
	if !r.takes(b) {
		panic(api.ErrForm)
	}
}

func (r *reader) mustEnd() {
	if r.at < len(r.text) {
		panic(api.ErrForm)
	}
}

// passBlanks goes past blanks where they may stand: within brackets.
func (r *reader) passBlanks() {
	for r.depth > 0 && r.takes(' ') {
	}
}

func (r *reader) expression() int64 {
	value := r.operand()
	for op := r.operator(); op != ""; op = r.operator() {
		value = r.done(op, value, r.operand())
	}
	return value
}

// operator goes past the next operator (empty: none stands there).
func (r *reader) operator() string {
	r.passBlanks()
	for _, op := range operators {
		if strings.HasPrefix(r.text[r.at:], op) {
			r.at += len(op)
			return op
		}
	}
	return ""
}

// operand reckons a number or an expression in brackets, and the signs ahead of it.
func (r *reader) operand() int64 {
	r.passBlanks()
	from := r.at
	for isSign(r.peek()) {
		r.at++
		r.passBlanks()
	}
	to := r.at
	value := r.unsigned()
	// The sign that stands next to the operand is done first.
	for i := to - 1; i >= from; i-- {
		value = r.signed(r.text[i], value)
	}
	if r.depth == 0 {
		r.last = r.at
	}
	return value
}

func (r *reader) unsigned() int64 {
	if r.takes('(') {
		return r.bracket()
	}
	return r.number()
}

// bracket reckons what stands behind a bracket that was opened, up to its end.
func (r *reader) bracket() int64 {
	if r.depth == maxDepth {
		panic(api.ErrForm)
	}
	r.depth++
	value := r.expression()
	r.mustTake(')')
	r.depth--
	return value
}

func (r *reader) number() int64 {
	whole := r.digits()
	part := r.part()
	if whole == "" && part == "" {
		panic(api.ErrForm)
	}
	unit := r.unit()
	return r.reckoned(valueOf(whole)*unit + valueOf(part)*unit/powerOfTen(len(part)))
}

// digits goes past the digits that a side of a number takes.
func (r *reader) digits() string {
	from := r.at
	for r.at-from < maxDigits && isDigit(r.peek()) {
		r.at++
	}
	return r.text[from:r.at]
}

// part returns the digits behind a point: without any the point is not the number's.
func (r *reader) part() string {
	point := r.at
	if !r.takes('.') {
		return ""
	}
	part := r.digits()
	if part == "" {
		r.at = point
	}
	return part
}

// unit returns what one of the scale is that stands next, or else of the default one.
func (r *reader) unit() int64 {
	if unit, err := Unit(r.peek(), r.c); err == api.OK {
		r.at++
		return int64(unit)
	}
	return r.one
}
