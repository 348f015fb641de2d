package arith

// apply returns the value of an operator with two operands, and notes a
// division by 0.
func (r *reader) apply(op string, a, b int64) int64 {
	switch op {
	case "+":
		return a + b
	case "-":
		return a - b
	case "*":
		return a * b
	case "/", "%":
		return r.divide(op, a, b)
	case "<<", ">>":
		return shift(op, a, b)
	case "|":
		return a | b
	case "^":
		return a ^ b
	case "&":
		return a & b
	}
	return truth(holds(op, a, b))
}

func (r *reader) divide(op string, a, b int64) int64 {
	switch {
	case b == 0:
		r.zero = true
		return 0
	case op == "/":
		return a / b
	}
	return a % b
}

// shift moves the bits of a; beyond the 64 bits there are only zeros, or to
// the left of a negative number ones.
func shift(op string, a, b int64) int64 {
	switch {
	case 0 <= b && b <= 63 && op == "<<":
		return a << b
	case 0 <= b && b <= 63:
		return a >> b
	case op == ">>" && a < 0:
		return -1
	}
	return 0
}

// holds reports whether a comparison or a logical operator holds.
func holds(op string, a, b int64) bool {
	switch op {
	case "||":
		return a != 0 || b != 0
	case "&&":
		return a != 0 && b != 0
	case "==":
		return a == b
	case "!=":
		return a != b
	case "<":
		return a < b
	case "<=":
		return a <= b
	case ">":
		return a > b
	}
	return a >= b
}

func truth(is bool) int64 {
	if is {
		return 1
	}
	return 0
}

// number returns the value of digits, modulo 2^64.
func number(digits string) int64 {
	var n uint64
	for i := range len(digits) {
		n = n*10 + uint64(digits[i]-'0')
	}
	return int64(n)
}
