package float

import (
	"math"
	"math/rand"
	"strconv"
	"testing"
)

const (
	negZero = 1 << 63
	posInf  = 0x7ff0000000000000
	negInf  = 0xfff0000000000000
	theNaN  = 0x7ff8000000000000
	oneNaN  = 0x7ff0000000000001
	negNaN  = 0xfff8000000000000
	small   = 1 // the least subnormal number
)

func num(x float64) uint64 { return math.Float64bits(x) }

func TestOf(t *testing.T) {
	for s, want := range map[string]uint64{
		"inf": posInf, "+inf": posInf, "-inf": negInf, "nan": theNaN, "+nan": theNaN, "-nan": theNaN,
		"0": 0, "+0": 0, "-0": negZero, "1": num(1), "-12": num(-12), "+7": num(7), "007": num(7), "-000": negZero,
		"999999999999999": num(999999999999999), "-999999999999999": num(-999999999999999), "000000000000001": num(1),
		"0x3fe0000000000000": num(0.5), "0x0000000000000001": small, "0x8000000000000000": negZero,
		"0x7ff0000000000001": theNaN, "0xffffffffffffffff": theNaN, "0xfff0000000000000": negInf,
	} {
		if got, ok := Of(s); !ok || got != want {
			t.Errorf("P501: Of(%q) = %x, %v", s, got, ok)
		}
	}
	for _, s := range []string{"", "+", "-", "1.5", "1e3", " 1", "1 ", "--1", "+-1", "1000000000000000", "0000000000000001", "0x",
		"0x3fe000000000000", "0x3fe00000000000000", "0X3fe0000000000000", "0x3FE0000000000000", "-0x3fe0000000000000", "0x3fe000000000000g",
		"0x+fe0000000000000", "Inf", "NaN", "infinity", "in", "1_0", "0x_fe0000000000000"} {
		if got, ok := Of(s); ok || got != 0 {
			t.Errorf("P501: Of(%q) = %x, %v", s, got, ok)
		}
	}
}

func TestText(t *testing.T) {
	for x, want := range map[uint64]string{
		theNaN: "nan", oneNaN: "nan", negNaN: "nan", posInf: "inf", negInf: "-inf", 0: "0", negZero: "-0",
		num(1): "1", num(-42): "-42", num(999999999999999): "999999999999999", num(-999999999999999): "-999999999999999",
		num(1e15): "0x430c6bf526340000", num(-1e15): "0xc30c6bf526340000", num(0.5): "0x3fe0000000000000", num(999999999999999.5): "0x430c6bf52633fffc",
		small: "0x0000000000000001", num(math.MaxFloat64): "0x7fefffffffffffff", num(-1.25): "0xbff4000000000000", num(1e300): "0x7e37e43c8800759c",
	} {
		if got := Text(x); got != want {
			t.Errorf("P502: Text(%x) = %q", x, got)
		}
	}
	r := rand.New(rand.NewSource(5))
	for range 20000 {
		x := r.Uint64()
		if r.Intn(2) == 0 {
			x = num(float64(r.Int63n(2e15) - 1e15))
		}
		if got, ok := Of(Text(x)); !ok || got != bits(math.Float64frombits(x)) {
			t.Fatalf("P501, P502: Of of Text of %x: %x, %v", x, got, ok)
		}
	}
}

func TestOp(t *testing.T) {
	for i, x := range []struct {
		op         string
		a, b, want uint64
	}{
		{"+", num(1), num(2), num(3)}, {"-", num(1), num(2), num(-1)}, {"*", num(3), num(-2), num(-6)}, {"/", num(1), num(4), num(0.25)},
		{"/", num(1), negZero, negInf}, {"/", num(1), 0, posInf}, {"/", 0, 0, theNaN}, {"-", posInf, posInf, theNaN}, {"*", 0, negInf, theNaN},
		{"+", negZero, negZero, negZero}, {"+", negZero, 0, 0}, {"-", 0, 0, 0}, {"*", negZero, num(5), negZero},
		{"+", num(0.1), num(0.2), num(0.30000000000000004)}, {"/", small, num(2), 0}, {"+", small, small, 2}, {"*", num(math.MaxFloat64), num(2), posInf},
		{"+", oneNaN, num(1), theNaN}, {"-", num(1), negNaN, theNaN},
		{"min", num(1), num(2), num(1)}, {"max", num(1), num(2), num(2)}, {"min", 0, negZero, negZero}, {"min", negZero, 0, negZero},
		{"max", 0, negZero, 0}, {"max", negZero, 0, 0},
		{"min", oneNaN, num(1), theNaN}, {"min", num(1), oneNaN, theNaN}, {"max", negNaN, posInf, theNaN}, {"max", posInf, negNaN, theNaN},
		{"min", negInf, num(1), negInf},
	} {
		if got, ok := Op(x.op, x.a, x.b); !ok || got != x.want {
			t.Errorf("P503: %d: Op(%q, %x, %x) = %x, %v", i, x.op, x.a, x.b, got, ok)
		}
	}
	for _, op := range []string{"", "%", "++", "lt", "Min", "same"} {
		if got, ok := Op(op, num(1), num(1)); ok || got != 0 {
			t.Errorf("P503: Op(%q)", op)
		}
	}
}

func TestIs(t *testing.T) {
	ops := []string{"lt", "le", "gt", "ge", "eq", "ne", "same"}
	for i, x := range []struct {
		a, b uint64
		want string // a digit for each of ops
	}{
		{num(1), num(2), "1100010"}, {num(2), num(1), "0011010"}, {num(2), num(2), "0101101"}, {negZero, 0, "0101100"}, {0, negZero, "0101100"},
		{0, 0, "0101101"},
		{theNaN, num(1), "0000010"}, {num(1), theNaN, "0000010"}, {oneNaN, negNaN, "0000011"}, {negInf, posInf, "1100010"},
		{posInf, posInf, "0101101"}, {small, 0, "0011010"},
	} {
		got := ""
		for _, op := range ops {
			is, ok := Is(op, x.a, x.b)
			if !ok {
				t.Errorf("P503: no %s", op)
			}
			n := 0
			if is {
				n = 1
			}
			got += strconv.Itoa(n)
		}
		if got != x.want {
			t.Errorf("P503: %d: %s, not %s", i, got, x.want)
		}
	}
	for _, op := range []string{"", "<", "LT", "+"} {
		if is, ok := Is(op, 0, 0); is || ok {
			t.Errorf("P503: Is(%q)", op)
		}
	}
}

func TestAgain(t *testing.T) {
	a, ok := Op("/", num(1), num(3))
	b, ok2 := Op("/", num(1), num(3))
	if a != b || ok != ok2 || Text(a) != Text(b) {
		t.Error("P504: two answers")
	}
}
