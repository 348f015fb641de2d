package exec

import (
	"quartermaster/api"
	"quartermaster/field"
	"quartermaster/glob"
)

// while executes a CWhile or a CUntil.
func (s *Shell) while(n *api.Node) flow {
	status, after := 0, flow{}
	s.loops++
rounds:
	for {
		s.burn()
		x := s.spare(n, 0)
		ends, leaves := x.round()
		switch {
		case ends:
			after = leaves
			break rounds
		case x.kind == toNext:
			continue rounds
		case (s.status == 0) != (n.Kind == api.CWhile):
			break rounds
		}
		x = s.kid(n, 1)
		status = s.status
		if ends, after = x.round(); ends {
			break rounds
		}
	}
	s.loops--
	if after.kind != toCaller {
		s.status = status
	}
	return after
}

// each executes a CFor.
func (s *Shell) each(n *api.Node) flow {
	status, after := 0, flow{}
	fields := s.fields(n.Words)
	s.loops++
rounds:
	for _, value := range fields {
		s.burn()
		s.assign(n.Name, value)
		x := s.kid(n, 0)
		status = s.status
		var ends bool
		if ends, after = x.round(); ends {
			break rounds
		}
	}
	s.loops--
	s.status = status
	return after
}

func (s *Shell) cases(n *api.Node) flow {
	text := ""
	for _, w := range n.Words {
		text = s.text(w)
	}
	found := -1
arms:
	for i, arm := range n.Arms {
		for _, p := range arm.Pats {
			if glob.Match(field.Pattern(s.expand(p)), text) {
				found = i
				break arms
			}
		}
	}
	if found < 0 || len(n.Arms[found].Body) == 0 {
		s.status = 0
		return flow{}
	}
	return s.exec(&n.Arms[found].Body[0])
}
