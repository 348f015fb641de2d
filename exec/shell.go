// Package exec executes commands.
package exec

import (
	"maps"
	"slices"
	"strconv"

	"quartermaster/api"
	"quartermaster/path"
	"quartermaster/vars"
	"quartermaster/vfs"
)

// Shell executes commands on a file system.
type Shell struct {
	f      *vfs.FS
	cwd    string
	vars   *vars.Vars
	args   []string
	funcs  map[string]*api.Node
	status int
	stops  bool
	fuel   *int // shared with the subshells

	// What follows is of the present run.
	in       []byte
	out, log *sink
	calls    int // functions, subshells and PSubs around
	depth    int // commands around
	loops    int // loops around, in the present function
	function bool
	spared   int  // conditions around, in which failures don't stop
	ranSub   bool // a PSub was executed in the present command
}

// New returns a shell.
func New(f *vfs.FS, cwd string, v *vars.Vars, args []string, fuel int) *Shell {
	dir, err := path.Abs("/", cwd)
	if err != api.OK || f.Kind(dir) != 2 {
		dir = "/"
	}
	if v == nil {
		v = &vars.Vars{}
	}
	fuel = max(fuel, 0)
	return &Shell{f: f, cwd: dir, vars: v.Copy(), args: slices.Clone(args), fuel: &fuel}
}

// Cwd returns the directory.
func (s *Shell) Cwd() string {
	s.prepare()
	return s.cwd
}

// Vars returns the variables.
func (s *Shell) Vars() []api.Pair {
	s.prepare()
	return s.vars.All()
}

// Run executes commands.
func (s *Shell) Run(l []api.Node, in []byte) api.Result {
	s.prepare()
	s.in, s.out, s.log = in, &sink{}, &sink{}
	s.calls, s.depth, s.loops, s.function, s.spared = 0, 0, 0, false, 0
	err := s.begin(l)
	out, log := s.out.bytes, s.log.bytes
	s.in, s.out, s.log = nil, nil, nil
	if err != api.OK {
		return api.Result{Err: err}
	}
	return api.Result{Status: s.status, Out: out, Log: log, Fuel: *s.fuel}
}

// prepare makes a shell of the zero Shell.
func (s *Shell) prepare() {
	if s.fuel == nil {
		*s = *New(nil, "/", nil, nil, 0)
	}
}

// begin executes the commands of a run up to their end or an exit, and returns
// why it ends otherwise.
func (s *Shell) begin(l []api.Node) (err api.Errno) {
	defer func() {
		switch x := recover().(type) {
		case nil:
		case ended:
			err = x.err
		default:
			panic(x)
		}
	}()
	s.main(l)
	return api.OK
}

// main executes the commands of a shell up to their end or an exit.
func (s *Shell) main(l []api.Node) {
	exits(func() {
		for i := range l {
			s.exec(&l[i])
		}
	})
}

// fork returns a subshell with the given input and output.
func (s *Shell) fork(in []byte, out *sink) *Shell {
	sub := *s
	sub.vars = s.vars.Copy()
	sub.args = slices.Clone(s.args)
	sub.funcs = maps.Clone(s.funcs)
	sub.in, sub.out = in, out
	sub.loops, sub.function = 0, false
	sub.deeper()
	return &sub
}

// deeper goes into a function, a subshell or a PSub.
func (s *Shell) deeper() {
	s.calls++
	if s.calls > api.MaxCalls {
		panic(ended{api.ErrLong})
	}
}

// burn uses a unit of fuel.
func (s *Shell) burn() {
	if *s.fuel == 0 {
		panic(ended{api.ErrFuel})
	}
	*s.fuel--
}

// complain complains of x; the status is then 1.
func (s *Shell) complain(x string, err api.Errno) {
	s.log.write([]byte("sh: " + x + ": error " + strconv.Itoa(int(err)) + "\n"))
	s.status = 1
}

// sink takes what commands write.
type sink struct{ bytes []byte }

func (k *sink) write(b []byte) {
	if len(b) > api.MaxOut-len(k.bytes) {
		panic(ended{api.ErrLong})
	}
	k.bytes = append(k.bytes, b...)
}
