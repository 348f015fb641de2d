package tools

import (
	"quartermaster/api"
	"quartermaster/path"
)

func (t *tool) cat(args []string) {
	if len(args) == 0 {
		t.write(t.in...)
	}
	for _, arg := range args {
		if arg == "-" {
			t.write(t.in...)
			continue
		}
		b, err := t.read(arg)
		t.write(b...)
		t.complain(arg, err)
	}
}

// read returns the bytes of the file that an argument names.
func (t *tool) read(arg string) ([]byte, api.Errno) {
	p, err := t.abs(arg)
	if err != api.OK {
		return nil, err
	}
	return t.f.Read(p)
}

// target returns the path that is meant by an argument to which something with
// the path from goes: if it is a directory, the path in it.
func (t *tool) target(arg, from string) (string, api.Errno) {
	p, err := t.abs(arg)
	if err == api.OK && t.f.Kind(p) == 2 {
		p += "/" + path.Base(from)
	}
	return p, err
}

func (t *tool) cp(args []string) {
	if len(args) != 2 {
		t.complain("", api.ErrArg)
		return
	}
	b, err := t.read(args[0])
	if err != api.OK {
		t.complain(args[0], err)
		return
	}
	from, _ := t.abs(args[0])
	to, err := t.target(args[1], from)
	if err == api.OK {
		err = t.f.Write(to, b, false)
	}
	t.complain(args[1], err)
}

func (t *tool) mv(args []string) {
	if len(args) != 2 {
		t.complain("", api.ErrArg)
		return
	}
	from, err := t.abs(args[0])
	to := ""
	if err == api.OK {
		to, err = t.target(args[1], from)
	}
	if err == api.OK {
		err = t.f.Move(from, to)
	}
	t.complain(args[0], err)
}

func (t *tool) rm(args []string) {
	forced, remove := false, t.f.Remove
	if len(args) > 0 {
		switch option := args[0]; option {
		case "-f", "-r", "-rf", "-fr":
			args = args[1:]
			forced = option != "-r"
			if option != "-f" {
				remove = t.removeAll
			}
		}
	}
	t.each(args, func(p string) api.Errno {
		if err := remove(p); err != api.ErrNone || !forced {
			return err
		}
		return api.OK
	})
}

// removeAll removes a node with everything below it, up to the first error.
func (t *tool) removeAll(p string) api.Errno {
	if t.f.Kind(p) == 2 {
		names, err := t.f.List(p)
		if err != api.OK {
			return err
		}
		for _, name := range names {
			if err := t.removeAll(p + "/" + name); err != api.OK {
				return err
			}
		}
	}
	return t.f.Remove(p)
}

func (t *tool) mkdir(args []string) {
	if len(args) > 0 && args[0] == "-p" {
		t.each(args[1:], t.mkdirs)
		return
	}
	t.each(args, t.f.Mkdir)
}

// mkdirs makes each directory on a path that isn't there.
func (t *tool) mkdirs(p string) api.Errno {
	at := ""
	for _, name := range path.Parts("/", p) {
		at += "/" + name
		if t.f.Kind(at) != 0 {
			continue
		}
		if err := t.f.Mkdir(at); err != api.OK {
			return err
		}
	}
	return api.OK
}

func (t *tool) rmdir(args []string) {
	t.each(args, func(p string) api.Errno {
		if t.f.Kind(p) == 1 {
			return api.ErrNotDir
		}
		return t.f.Remove(p)
	})
}
