package tools

import (
	"strconv"
	"strings"

	"quartermaster/api"
	"quartermaster/arith"
	"quartermaster/check"
	"quartermaster/float"
)

func (t *tool) echo(args []string) {
	end := "\n"
	if len(args) > 0 && args[0] == "-n" {
		args, end = args[1:], ""
	}
	t.say(strings.Join(args, " ") + end)
}

func (t *tool) printf(args []string) {
	if len(args) == 0 {
		t.complain("", api.ErrArg)
		return
	}
	format, rest := args[0], args[1:]
	next := func() string {
		if len(rest) == 0 {
			return ""
		}
		arg := rest[0]
		rest = rest[1:]
		return arg
	}
format:
	for i := 0; i < len(format); i++ {
		switch format[i:min(i+2, len(format))] {
		case "%s":
			t.say(next())
		case "%d":
			t.number(next())
		case "%%":
			t.say("%")
		case `\n`:
			t.say("\n")
		case `\t`:
			t.say("\t")
		case `\\`:
			t.say(`\`)
		default:
			t.write(format[i])
			continue format
		}
		i++
	}
}

// number writes the value of an expression.
func (t *tool) number(arg string) {
	n, err := arith.Eval(arg, nil)
	t.say(strconv.Itoa(n))
	t.complain(arg, err)
}

func (t *tool) test(args []string) {
	is, err := check.Test(t.f, t.cwd, args)
	if !is {
		t.told.Status = 1
	}
	t.complainWith(2, "", err)
}

func (t *tool) bracket(args []string) {
	last := len(args) - 1
	if last < 0 || args[last] != "]" {
		t.complainWith(2, "", api.ErrSyntax)
		return
	}
	t.test(args[:last])
}

func (t *tool) calc(args []string) {
	if len(args) != 3 {
		t.complain("", api.ErrArg)
		return
	}
	a, isNumber := float.Of(args[0])
	b, alsoNumber := float.Of(args[2])
	result, isOp := float.Op(args[1], a, b)
	holds, isComparison := float.Is(args[1], a, b)
	switch {
	case !isNumber:
		t.complainWith(2, args[0], api.ErrSyntax)
	case !alsoNumber:
		t.complainWith(2, args[2], api.ErrSyntax)
	case isOp:
		t.say(float.Text(result) + "\n")
	case !isComparison:
		t.complainWith(2, args[1], api.ErrSyntax)
	case !holds:
		t.told.Status = 1
	}
}
