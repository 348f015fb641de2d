package exec

import (
	"quartermaster/api"
	"quartermaster/tools"
)

// simple executes a CSimple.
func (s *Shell) simple(n *api.Node) flow {
	s.ranSub = false
	fields := s.fields(n.Words)
	values := make([]string, len(n.Assigns))
	for i, a := range n.Assigns {
		values[i] = s.text(a.Word)
	}
	r, ok := s.open(n.Redirs)
	switch {
	case !ok:
		return flow{}
	case len(fields) > 0:
		return s.withAssigns(n.Assigns, values, func() flow {
			if len(n.Redirs) == 0 {
				return s.command(fields[0], fields[1:])
			}
			return s.within(r, func() flow { return s.command(fields[0], fields[1:]) })
		})
	case !s.ranSub:
		s.status = 0
	}
	for i, a := range n.Assigns {
		s.assign(a.Name, values[i])
	}
	return flow{}
}

// assign sets a variable. If that can't be done, the shell exits.
func (s *Shell) assign(name, value string) {
	if err := s.vars.Set(name, value); err != api.OK {
		s.refuse(name, err)
	}
}

// withAssigns executes a command with variables that are set for it alone.
func (s *Shell) withAssigns(l []api.Assign, values []string, do func() flow) flow {
	var undo []func()
	defer func() {
		for i := len(undo) - 1; i >= 0; i-- {
			undo[i]()
		}
	}()
	for i, a := range l {
		if before, ok := s.vars.Get(a.Name); ok {
			undo = append(undo, func() { s.vars.Set(a.Name, before) })
		} else {
			undo = append(undo, func() { s.vars.Unset(a.Name) })
		}
		s.assign(a.Name, values[i])
	}
	return do()
}

// command executes a command by its name: a function, or a built-in command,
// or a utility.
func (s *Shell) command(name string, args []string) flow {
	if body := s.funcs[name]; body != nil {
		return s.call(body, args)
	}
	if x, ok := s.builtin(name, args); ok {
		return x
	}
	if !tools.Has(name) {
		s.complain(name, api.ErrNone)
		s.status = 127
		return flow{}
	}
	told := tools.Run(s.f, s.cwd, name, args, s.in)
	s.log.write(told.Log)
	s.out.write(told.Out)
	s.status = told.Status
	return flow{}
}

// call executes the command of a function.
func (s *Shell) call(body *api.Node, args []string) flow {
	before, loops, function := s.args, s.loops, s.function
	s.deeper()
	defer func() {
		s.args, s.loops, s.function = before, loops, function
		s.calls--
	}()
	first := ""
	if len(before) > 0 {
		first = before[0]
	}
	s.args = append([]string{first}, args...)
	s.loops, s.function = 0, true
	s.exec(body)
	return flow{}
}

// define makes the command of a CFunc a function.
func (s *Shell) define(n *api.Node) {
	s.status = 0
	body := api.Node{Kind: api.CGroup}
	c := copier{left: mostCopied}
	if len(n.Kids) > 0 {
		body = c.node(n.Kids[0], 0)
	}
	if c.left < 0 {
		return
	}
	if s.funcs == nil {
		s.funcs = make(map[string]*api.Node)
	}
	s.funcs[n.Name] = &body
}
