package exec

import (
	"quartermaster/api"
	"quartermaster/path"
)

// file is where what a command writes is appended: the path, and the text of
// the word that names it.
type file struct{ path, text string }

// redirs is what the redirections of a command come to. Where there is no
// file, the command writes to where the commands around it do.
type redirs struct {
	in       []byte
	out, log *file
}

// open performs redirections, and reports whether that could be done.
func (s *Shell) open(l []api.Redir) (redirs, bool) {
	r := redirs{in: s.in}
	for _, x := range l {
		text := s.text(x.Word)
		abs, err := path.Abs(s.cwd, text)
		if err == api.OK {
			err = s.redirect(&r, x.Op, &file{abs, text})
		}
		if err != api.OK {
			s.complain(text, err)
			return redirs{}, false
		}
	}
	return r, true
}

// redirect performs a redirection.
func (s *Shell) redirect(r *redirs, op string, to *file) (err api.Errno) {
	switch op {
	case "<":
		r.in, err = s.f.Read(to.path)
		return err
	case ">", ">>":
		r.out = to
	default:
		r.log = to
	}
	return s.f.Write(to.path, nil, op == ">>" || op == "2>>")
}

// within executes a command with its redirections. What it writes is kept even
// if the shell exits in it; the status is that of the exit then.
func (s *Shell) within(r redirs, do func() flow) flow {
	in, out, log := s.in, s.out, s.log
	s.in = r.in
	if r.out != nil {
		s.out = &sink{}
	}
	if r.log != nil {
		s.log = &sink{}
	}
	var x flow
	exit := exits(func() { x = do() })
	wrote, told, status := s.out.bytes, s.log.bytes, s.status
	s.in, s.out, s.log = in, out, log
	s.keep(r.log, told)
	s.keep(r.out, wrote)
	if exit {
		s.exit(status)
	}
	if x.kind == toCaller {
		s.status = status
	}
	return x
}

// keep appends what a command wrote to a file, if it goes to one.
func (s *Shell) keep(to *file, b []byte) {
	if to == nil || len(b) == 0 {
		return
	}
	if err := s.f.Write(to.path, b, true); err != api.OK {
		s.complain(to.text, err)
	}
}
