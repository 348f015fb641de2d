package exec

import (
	"quartermaster/api"
)

// mostDepth is how deep commands may be nested in each other: deeper than
// those of any script with its functions, but not without an end, as commands
// that have themselves.
const mostDepth = 10000

// exec executes a command.
func (s *Shell) exec(n *api.Node) flow {
	s.burn()
	if s.depth >= mostDepth || !wellFormed(n) {
		s.status = 0
		return flow{}
	}
	s.depth++
	x := s.perform(n)
	s.depth--
	if x.kind == byItself && s.status != 0 && s.stops && s.spared == 0 && stopsAt(n) {
		s.exit(s.status)
	}
	return x
}

// exit makes the shell exit.
func (s *Shell) exit(status int) {
	s.status = status
	panic(exited{})
}

// stopsAt reports whether the failure of a command makes a shell exit that
// stops at failures.
func stopsAt(n *api.Node) bool {
	return n.Kind == api.CSimple || n.Kind == api.CShell || n.Kind == api.CPipe && !n.Not
}

// wellFormed reports whether a command has a form that a script's can have,
// but for words, bodies and arms that are missing.
func wellFormed(n *api.Node) bool {
	for _, r := range n.Redirs {
		switch r.Op {
		case "<", ">", ">>", "2>", "2>>":
		default:
			return false
		}
	}
	kids := len(n.Kids)
	switch n.Kind {
	case api.CSimple:
		return true
	case api.CPipe:
		return kids > 1 || kids == 1 && n.Not
	case api.CAnd, api.COr:
		return kids == 2
	case api.CSeq, api.CIf:
		return kids > 1
	case api.CWhile, api.CUntil:
		return kids == 1 || kids == 2
	case api.CFor, api.CFunc, api.CGroup, api.CShell:
		return kids <= 1
	case api.CCase:
		for _, a := range n.Arms {
			if len(a.Body) > 1 {
				return false
			}
		}
		return len(n.Words) <= 1
	}
	return false
}

// perform executes a well-formed command with its redirections.
func (s *Shell) perform(n *api.Node) flow {
	switch {
	case n.Kind == api.CSimple:
		return s.simple(n)
	case len(n.Redirs) == 0:
		return s.compound(n)
	}
	r, ok := s.open(n.Redirs)
	if !ok {
		return flow{}
	}
	return s.within(r, func() flow { return s.compound(n) })
}

// compound executes a command that isn't simple.
func (s *Shell) compound(n *api.Node) flow {
	switch n.Kind {
	case api.CPipe:
		return s.pipe(n)
	case api.CAnd, api.COr:
		return s.chain(n)
	case api.CSeq, api.CGroup:
		return s.sequence(n)
	case api.CIf:
		return s.choice(n)
	case api.CWhile, api.CUntil:
		return s.while(n)
	case api.CFor:
		return s.each(n)
	case api.CCase:
		return s.cases(n)
	case api.CFunc:
		s.define(n)
	case api.CShell:
		sub := s.fork(s.in, s.out)
		exits(func() { sub.kid(n, 0) })
		s.status = sub.status
	}
	return flow{}
}

// kid executes a command within n; one that is missing is empty.
func (s *Shell) kid(n *api.Node, i int) flow {
	if i >= len(n.Kids) {
		s.status = 0
		return flow{}
	}
	return s.exec(&n.Kids[i])
}

// spare executes a command within n in which failures don't stop.
func (s *Shell) spare(n *api.Node, i int) flow {
	s.spared++
	x := s.kid(n, i)
	s.spared--
	return x
}

func (s *Shell) sequence(n *api.Node) flow {
	if len(n.Kids) == 0 {
		s.status = 0
	}
	for i := range n.Kids {
		if x := s.exec(&n.Kids[i]); x.kind != byItself {
			return x
		}
	}
	return flow{}
}

func (s *Shell) pipe(n *api.Node) flow {
	if len(n.Kids) == 1 {
		x := s.spare(n, 0)
		if x.kind == byItself {
			s.negate()
		}
		return x
	}
	passed, status := s.in, 0
	for i := range n.Kids {
		sub := s.fork(passed, &sink{})
		sub.main(n.Kids[i : i+1])
		passed, status = sub.out.bytes, sub.status
	}
	s.out.write(passed)
	if s.status = status; n.Not {
		s.negate()
	}
	return flow{}
}

func (s *Shell) negate() {
	if s.status == 0 {
		s.status = 1
	} else {
		s.status = 0
	}
}

// chain executes what && and || join. The first command of each may be such a
// one again, and so on, as long as a script can be.
func (s *Shell) chain(n *api.Node) flow {
	joined := []*api.Node{n}
	first := &n.Kids[0]
	for (first.Kind == api.CAnd || first.Kind == api.COr) && len(first.Kids) == 2 && len(first.Redirs) == 0 {
		s.burn()
		joined = append(joined, first)
		first = &first.Kids[0]
	}
	spared := s.spared
	s.spared++
	x := s.exec(first)
	for i := len(joined) - 1; i >= 0 && x.kind == byItself; i-- {
		if i == 0 {
			s.spared = spared
		}
		if (s.status == 0) == (joined[i].Kind == api.CAnd) {
			x = s.exec(&joined[i].Kids[1])
		}
	}
	s.spared = spared
	return x
}

func (s *Shell) choice(n *api.Node) flow {
	for i := 0; i+1 < len(n.Kids); i += 2 {
		if x := s.spare(n, i); x.kind != byItself {
			return x
		}
		if s.status == 0 {
			return s.exec(&n.Kids[i+1])
		}
	}
	if last := len(n.Kids) - 1; last%2 == 0 {
		return s.exec(&n.Kids[last]) // the else
	}
	s.status = 0
	return flow{}
}
