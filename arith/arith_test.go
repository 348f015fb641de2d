package arith

import (
	"math"
	"math/rand"
	"strconv"
	"strings"
	"testing"

	"quartermaster/api"
)

var pairs = []api.Pair{{Name: "a", Value: "9"}, {Name: "a", Value: "5"}, {Name: "neg", Value: " -3\n"}, {Name: "none", Value: ""},
	{Name: "space", Value: " \t"}, {Name: "word", Value: "x"}, {Name: "sum", Value: "1+1"}, {Name: "plus", Value: "+1"},
	{Name: "minus", Value: "-"}, {Name: "apart", Value: "- 1"}, {Name: "big", Value: "18446744073709551617"},
	{Name: "low", Value: "-9223372036854775808"}, {Name: "inner", Value: "1 2"}, {Name: strings.Repeat("n", 60), Value: "7"}}

func TestEval(t *testing.T) {
	for s, want := range map[string]int{
		"1 + 2 * 3": 7, "(1 + 2) * 3": 9, "1-2-3": -4, "100/10/5": 2, "7%4%2": 1, "2*3%4": 2, "1<<2<<3": 32, "1<<2+1": 8, "16>>2>>1": 2,
		"1||0&&0": 1, "0&&1||1": 1, "1|2^3&1": 3, "6^3|8": 13, "1|2^2": 1, "6&3^1": 3, "1&3==3": 1, "4&1==1": 0, "1==1<2": 1, "3>2>1": 0,
		"2==2==1": 1, "1<2<<1": 1, "1<2==1": 1, "5<=5": 1, "5>=6": 0, "5!=5": 0, "1<1": 0,
		"-3": -3, "--3": 3, "+-+3": -3, "!0": 1, "!5": 0, "!!5": 1, "~0": -1, "~-1": 0, "-~5": 6, "!-0": 1, "2--3": 5, "2- -3": 5, "2*-3": -6,
		"-2*3": -6, "!0+1": 2, "1!=!1": 1, "1==!0": 1, "-1>>1": -1, "! = 1 ": 0,
		"7/2": 3, "-7/2": -3, "7/-2": -3, "-7%3": -1, "7%-3": 1, "-6%3": 0,
		"1<<63": math.MinInt64, "1<<64": 0, "1<<-1": 0, "1>>64": 0, "1>>-1": 0, "-1>>64": -1, "-5>>-1": -1, "-1<<64": 0, "-8>>1": -4, "0>>99": 0,
		"-1>>63":                -1,
		"9223372036854775807+1": math.MinInt64, "9223372036854775808": math.MinInt64, "18446744073709551616": 0, "18446744073709551617": 1,
		"36893488147419103239": 7, "-9223372036854775808/-1": math.MinInt64, "-9223372036854775808%-1": 0, "9223372036854775807*2": -2,
		"-9223372036854775808": math.MinInt64,
		" \t\n1\n":             1, "007": 7, "00": 0,
		"a": 5, "a+a": 10, "-a": -5, "neg": -3, "none": 0, "space": 0, "unknown": 0, "_x1": 0, "big": 1, "low": math.MinInt64,
		strings.Repeat("n", 60): 7, "a*neg": -15,
		"0||7": 1, "0&&7": 0, "3&&4": 1, "-1||0": 1, "((((1))))": 1, "(1)+(2)": 3,
	} {
		if strings.Contains(s, "! =") {
			if _, err := Eval(s, nil); err != api.ErrSyntax {
				t.Errorf("P701: Eval(%q): error %d", s, err)
			}
			continue
		}
		if got, err := Eval(s, pairs); got != want || err != api.OK {
			t.Errorf("P701: Eval(%q) = %d, error %d, not %d", s, got, err, want)
		}
	}
}

func TestErrors(t *testing.T) {
	deep := strings.Repeat("(", api.MaxNest)
	shut := strings.Repeat(")", api.MaxNest)
	for s, want := range map[string]api.Errno{
		"": api.ErrSyntax, " ": api.ErrSyntax, "1 2": api.ErrSyntax, "1a": api.ErrSyntax, "a 1": api.ErrSyntax, "1+": api.ErrSyntax,
		"*1": api.ErrSyntax, "(1": api.ErrSyntax, "1)": api.ErrSyntax, "()": api.ErrSyntax, "1 = 1": api.ErrSyntax, "!=1": api.ErrSyntax,
		"1&&&1": api.ErrSyntax, "1 + + ": api.ErrSyntax, "1.5": api.ErrSyntax, "$a": api.ErrSyntax, "1\x00": api.ErrSyntax, "1\r": api.ErrSyntax,
		"a=1": api.ErrSyntax, "1,2": api.ErrSyntax, "0x1": api.ErrSyntax, "1<>2": api.ErrSyntax, "1(2)": api.ErrSyntax, "\v1": api.ErrSyntax,
		"word": api.ErrSyntax, "sum": api.ErrSyntax, "plus": api.ErrSyntax, "minus": api.ErrSyntax, "apart": api.ErrSyntax, "inner": api.ErrSyntax,
		strings.Repeat("n", 61): api.ErrSyntax,
		"1/0":                   api.ErrZero, "1%0": api.ErrZero, "0&&1/0": api.ErrZero, "1||1%0": api.ErrZero, "1/0+": api.ErrSyntax,
		"1/0 word": api.ErrSyntax,
		"1/0*word": api.ErrSyntax, "1/none": api.ErrZero, "1/(1-1)": api.ErrZero,
		deep + "1" + shut: api.OK, deep + "(1" + shut + ")": api.ErrLong, deep + "(": api.ErrLong, deep + "(@": api.ErrLong,
		deep + "1(": api.ErrSyntax, deep + "@(": api.ErrSyntax, "word" + deep + "(": api.ErrSyntax, "1 " + deep + "(": api.ErrSyntax,
		deep + "1" + shut + "+(1)": api.OK, "1/0+" + deep + "(": api.ErrLong, "1)" + deep + "(": api.ErrSyntax, "-" + deep + "-(": api.ErrLong,
		strings.Repeat(" ", api.MaxWord-1) + "1": api.OK, strings.Repeat(" ", api.MaxWord) + "1": api.ErrLong,
		strings.Repeat("@", api.MaxWord+1): api.ErrLong, strings.Repeat("-", api.MaxWord-1) + "1": api.OK, strings.Repeat("1+", 2047) + "1": api.OK,
	} {
		got, err := Eval(s, pairs)
		if err != want || err != api.OK && got != 0 {
			t.Errorf("P702: Eval(%.60q) = %d, error %d, not %d", s, got, err, want)
		}
	}
}

func TestKept(t *testing.T) {
	l := []api.Pair{{Name: "a", Value: " 1 "}}
	for range 2 {
		if got, err := Eval("a+1", l); got != 2 || err != api.OK || l[0].Value != " 1 " {
			t.Errorf("P703: %d, error %d, %v", got, err, l)
		}
	}
}

// expression draws an expression in full parentheses and without, and its value.
func expression(r *rand.Rand, level, nest int) (string, int) {
	ops := [][]string{{"||"}, {"&&"}, {"|"}, {"^"}, {"&"}, {"==", "!="}, {"<", "<=", ">", ">="}, {"<<", ">>"}, {"+", "-"}, {"*", "/", "%"}}
	if level >= len(ops) {
		switch n, kind := r.Intn(10), r.Intn(8); {
		case kind == 0 && nest > 0:
			s, v := expression(r, r.Intn(len(ops)), nest-1)
			return "(" + s + ")", v
		case kind == 1:
			return "-" + strconv.Itoa(n), -n
		case kind == 2:
			return "~" + strconv.Itoa(n), ^n
		default:
			return strconv.Itoa(n), n
		}
	}
	s, v := expression(r, level+1+r.Intn(4), nest)
	for range r.Intn(3) {
		op := ops[level][r.Intn(len(ops[level]))]
		x, w := expression(r, level+1+r.Intn(4), nest)
		if w == 0 && (op == "/" || op == "%") {
			op = "*"
		}
		s += []string{"", " ", "\n"}[r.Intn(3)] + op + " " + x
		v = compute(op, v, w)
	}
	return s, v
}

func compute(op string, a, b int) int {
	one := func(x bool) int {
		if x {
			return 1
		}
		return 0
	}
	switch op {
	case "||":
		return one(a != 0 || b != 0)
	case "&&":
		return one(a != 0 && b != 0)
	case "|":
		return a | b
	case "^":
		return a ^ b
	case "&":
		return a & b
	case "==":
		return one(a == b)
	case "!=":
		return one(a != b)
	case "<":
		return one(a < b)
	case "<=":
		return one(a <= b)
	case ">":
		return one(a > b)
	case ">=":
		return one(a >= b)
	case "<<", ">>":
		if b < 0 || b > 63 {
			return -one(op == ">>" && a < 0)
		}
		if op == "<<" {
			return a << b
		}
		return a >> b
	case "+":
		return a + b
	case "-":
		return a - b
	case "*":
		return a * b
	case "/":
		return a / b
	}
	return a % b
}

func TestDrawn(t *testing.T) {
	r := rand.New(rand.NewSource(7))
	for range 20000 {
		s, want := expression(r, 0, 3)
		if len(s) > api.MaxWord {
			continue
		}
		if got, err := Eval(s, nil); err != api.OK || got != want {
			t.Fatalf("P701: Eval(%q) = %d, error %d, not %d", s, got, err, want)
		}
	}
	for range 100000 {
		b := make([]byte, r.Intn(12))
		for i := range b {
			b[i] = "01a_ ()+-*/%<>=!&|^~$\x00"[r.Intn(22)]
		}
		if got, err := Eval(string(b), pairs); err != api.OK && got != 0 {
			t.Fatalf("P702: Eval(%q) = %d, error %d", b, got, err)
		}
	}
}
