package build

import (
	"strings"

	"quartermaster/age"
	"quartermaster/api"
	"quartermaster/find"
	"quartermaster/macro"
	"quartermaster/shell"
	"quartermaster/stem"
)

// mostMarks is how many of the characters @, - and + before a line are marks.
const mostMarks = 3

// recipe executes the recipe of a target, and reports whether no line fails.
func (b *builder) recipe(target string, plan api.Plan) bool {
	auto := b.automatic(target, plan)
	for _, text := range plan.Recipe {
		expanded, err := macro.Expand(text, b.m.Macros, auto)
		if err != api.OK {
			b.complain(target, err)
			return false
		}
		if !b.line(target, read(expanded)) {
			return false
		}
	}
	return true
}

// automatic returns the automatic macros of a target.
func (b *builder) automatic(target string, plan api.Plan) []api.Pair {
	first := ""
	if len(plan.Needs) > 0 {
		first = plan.Needs[0]
	}
	base := plan.Stem
	if base == "" {
		suffix, _ := stem.Suffix(target, find.Special(b.m, ".SUFFIXES"))
		base = strings.TrimSuffix(target, suffix)
	}
	newer := age.Newer(b.f, b.cwd, target, plan.Needs)
	return []api.Pair{
		{Name: "@", Value: target},
		{Name: "<", Value: first},
		{Name: "^", Value: strings.Join(plan.Needs, " ")},
		{Name: "?", Value: strings.Join(newer, " ")},
		{Name: "*", Value: base},
	}
}

// line is a line of a recipe, with the marks that stood before it.
type line struct {
	text                   string
	quiet, lenient, always bool // @ - +
}

// read reads an expanded line.
func read(s string) line {
	var x line
	marks := 0
marks:
	for s != "" {
		switch c := s[0]; c {
		case ' ', '\t':
		case '@', '-', '+':
			if marks == mostMarks {
				break marks
			}
			marks++
			x.quiet = x.quiet || c == '@'
			x.lenient = x.lenient || c == '-'
			x.always = x.always || c == '+'
		default:
			break marks
		}
		s = s[1:]
	}
	x.text = s
	return x
}

// line executes a line of the recipe of a target, and reports whether it
// doesn't fail.
func (b *builder) line(target string, x line) bool {
	if x.text == "" {
		return true
	}
	quiet := x.quiet || b.flags.Silent || find.Has(b.m, ".SILENT", target)
	if b.flags.Dry || !quiet {
		b.say(x.text)
	}
	if b.flags.Dry && !x.always {
		return true
	}
	r := shell.Run(b.f, b.cwd, b.env, []string{"sh"}, x.text, nil, b.fuel)
	if r.Err != api.OK {
		b.err = r.Err
		return false
	}
	b.out = append(b.out, r.Out...)
	b.log = append(b.log, r.Log...)
	b.fuel = r.Fuel
	if r.Status == 0 || x.lenient || b.flags.Ignore || find.Has(b.m, ".IGNORE", target) {
		return true
	}
	b.complain(target, api.ErrFail)
	return false
}
