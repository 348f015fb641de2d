package exec

import (
	"strings"

	"quartermaster/api"
	"quartermaster/expand"
	"quartermaster/field"
	"quartermaster/parse"
)

// mostParts is how many parts a word may have in all: more than those of any
// script, but not without an end, as a word that has itself.
const mostParts = 1 << 16

// expand expands a word. If that can't be done, the shell exits.
func (s *Shell) expand(w []api.Part) []api.Part {
	left := mostParts
	w = s.subs(w, &left)
	scope := expand.New(s.vars, s.args, s.status)
	l, err := scope.Word(w)
	switch err {
	case api.OK:
	case api.ErrUnset:
		s.refuse(scope.Failed(), err)
	default:
		s.refuse("", err)
	}
	return l
}

// text returns the text of a word.
func (s *Shell) text(w []api.Part) string {
	return field.Text(s.expand(w))
}

// fields returns the fields of words.
func (s *Shell) fields(words [][]api.Part) []string {
	var l []string
	for _, w := range words {
		for _, x := range field.Split(s.expand(w)) {
			l = append(l, field.Paths(s.f, s.cwd, x)...)
			if len(l) > api.MaxFields {
				panic(ended{api.ErrLong})
			}
		}
	}
	return l
}

// refuse complains of x and makes the shell exit.
func (s *Shell) refuse(x string, err api.Errno) {
	s.complain(x, err)
	s.exit(1)
}

// subs returns a word in which each PSub is replaced by what it writes.
func (s *Shell) subs(w []api.Part, left *int) []api.Part {
	if *left -= len(w); *left < 0 {
		s.refuse("", api.ErrLong)
	}
	l := make([]api.Part, len(w))
	for i, x := range w {
		switch x.Kind {
		case api.PSub:
			x = s.sub(x)
		case api.PVar:
			x.Word = s.subs(x.Word, left)
		}
		l[i] = x
	}
	return l
}

// sub executes a PSub.
func (s *Shell) sub(x api.Part) api.Part {
	l, err := parse.Script(x.Text)
	if err != api.OK {
		s.refuse("", err)
	}
	sub := s.fork(nil, &sink{})
	sub.main(l)
	s.status, s.ranSub = sub.status, true
	kind := api.PText
	if x.Quoted {
		kind = api.PQuote
	}
	return api.Part{Kind: kind, Text: strings.TrimRight(string(sub.out.bytes), "\n")}
}
