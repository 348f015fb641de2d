package exec

import (
	"strconv"

	"quartermaster/api"
	"quartermaster/chars"
	"quartermaster/path"
	"quartermaster/vars"
)

// builtin executes a built-in command, and reports whether there is one with
// the given name.
func (s *Shell) builtin(name string, args []string) (flow, bool) {
	ok, x := true, flow{}
	switch name {
	case ":":
		s.status = 0
	case "pwd":
		if ok = len(args) == 0; ok {
			s.out.write([]byte(s.cwd + "\n"))
			s.status = 0
		}
	case "cd":
		ok = s.cd(args)
	case "set":
		ok = s.set(args)
	case "unset":
		s.unset(args)
	case "shift":
		ok = s.shift(args)
	case "break":
		x, ok = s.leave(toEnd, args)
	case "continue":
		x, ok = s.leave(toNext, args)
	case "exit":
		x, ok = s.quit(false, args)
	case "return":
		x, ok = s.quit(s.function, args)
	default:
		return flow{}, false
	}
	if !ok {
		s.complain(name, api.ErrArg)
	}
	return x, true
}

func (s *Shell) cd(args []string) bool {
	to := "/"
	switch len(args) {
	case 0:
	case 1:
		abs, err := path.Abs(s.cwd, args[0])
		if err == api.OK {
			switch s.f.Kind(abs) {
			case 0:
				err = api.ErrNone
			case 1:
				err = api.ErrNotDir
			}
		}
		if err != api.OK {
			s.complain(args[0], err)
			return true
		}
		to = abs
	default:
		return false
	}
	s.cwd, s.status = to, 0
	return true
}

func (s *Shell) set(args []string) bool {
	if len(args) != 1 || args[0] != "-e" && args[0] != "+e" {
		return false
	}
	s.stops, s.status = args[0] == "-e", 0
	return true
}

func (s *Shell) unset(args []string) {
	s.status = 0
	for _, name := range args {
		if vars.Name(name) {
			s.vars.Unset(name)
		} else {
			s.complain(name, api.ErrArg)
		}
	}
}

func (s *Shell) shift(args []string) bool {
	n, ok := number(args, 1)
	if !ok {
		return false
	}
	s.status = 0
	switch {
	case n > max(len(s.args)-1, 0):
		s.status = 1
	case n > 0:
		// Without room behind it the argument 0 is copied, and no other list
		// of arguments changes.
		s.args = append(s.args[:1:1], s.args[1+n:]...)
	}
	return true
}

// leave leaves loops by a break or a continue.
func (s *Shell) leave(kind int, args []string) (flow, bool) {
	n, ok := number(args, 1)
	if !ok || n < 1 || len(args) == 1 && len(args[0]) > 1 {
		return flow{}, false
	}
	s.status = 0
	if s.loops == 0 {
		return flow{}, true
	}
	return flow{kind, min(n, s.loops)}, true
}

// quit leaves the function, or the shell.
func (s *Shell) quit(function bool, args []string) (flow, bool) {
	status, ok := number(args, s.status)
	if !ok {
		return flow{}, false
	}
	if len(args) > 0 {
		status &= 255
	}
	if !function {
		s.exit(status)
	}
	s.status = status
	return flow{kind: toCaller}, true
}

// number returns the number of up to three digits that is the only argument,
// or otherwise if there is no argument.
func number(args []string, otherwise int) (int, bool) {
	switch {
	case len(args) == 0:
		return otherwise, true
	case len(args) > 1 || !chars.Number(args[0], 1, 3):
		return 0, false
	}
	n, err := strconv.Atoi(args[0])
	return n, err == nil
}
