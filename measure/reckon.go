package measure

import "frisket/api"

func isDigit(b byte) bool { return b >= '0' && b <= '9' }

func isSign(b byte) bool { return b == '+' || b == '-' || b == '!' || b == '|' }

// valueOf returns the number that at most 9 digits are.
func valueOf(digits string) int64 {
	value := int64(0)
	for i := range len(digits) {
		value = value*10 + int64(digits[i]-'0')
	}
	return value
}

func powerOfTen(n int) int64 {
	power := int64(1)
	for range n {
		power *= 10
	}
	return power
}

// within returns n; beyond what a value may be it throws.
func within(n int64) int64 {
	if n < -api.MaxInt || n > api.MaxInt {
		panic(api.ErrRange)
	}
	return n
}

// reckoned returns n as a value of an expression.
func (r *reader) reckoned(n int64) int64 {
	if r.blind {
		return 0
	}
	return within(n)
}

// signed does one sign ahead of a value; a blank between signs is none.
func (r *reader) signed(sign byte, value int64) int64 {
	switch sign {
	case '-':
		return -value
	case '!':
		return truth(value <= 0)
	case '|':
		return r.reckoned(value - int64(r.c.Here))
	}
	return value
}

// done does an operator whose operands are reckoned.
func (r *reader) done(op string, a, b int64) int64 {
	if r.blind {
		return 0
	}
	switch op {
	case "+":
		return within(a + b)
	case "-":
		return within(a - b)
	case "*":
		return within(a * b)
	case "/":
		return a / divisor(b)
	case "%":
		return a % divisor(b)
	}
	return truth(holds(op, a, b))
}

// divisor returns n; if it is 0 it throws.
func divisor(n int64) int64 {
	if n == 0 {
		panic(api.ErrZero)
	}
	return n
}

// holds tells whether a comparison, or a & b, or a : b is true.
func holds(op string, a, b int64) bool {
	switch op {
	case "<":
		return a < b
	case ">":
		return a > b
	case "<=":
		return a <= b
	case ">=":
		return a >= b
	case "&":
		return a > 0 && b > 0
	case ":":
		return a > 0 || b > 0
	}
	return a == b // = and ==
}

func truth(is bool) int64 {
	if is {
		return 1
	}
	return 0
}
