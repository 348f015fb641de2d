package exec

import "quartermaster/api"

// How a command ends.
const (
	byItself = iota
	toEnd    // by a break
	toNext   // by a continue
	toCaller // by a return
)

// flow tells how a command ended, and how many loops are left by that.
type flow struct {
	kind  int
	loops int
}

// round takes how a round of a loop ended. It tells whether the loop ends by
// that, and how it ends for the commands around it.
func (x flow) round() (ends bool, after flow) {
	switch {
	case x.kind == byItself, x.kind == toNext && x.loops == 1:
		return false, flow{}
	case x.kind == toEnd && x.loops == 1:
		return true, flow{}
	case x.kind == toCaller:
		return true, x
	}
	return true, flow{x.kind, x.loops - 1}
}

// exited is thrown where a shell exits; it has its status.
type exited struct{}

// ended is thrown where the run ends with an error.
type ended struct{ err api.Errno }

// exits executes do and reports whether the shell exited in it.
func exits(do func()) (exit bool) {
	defer func() {
		switch x := recover().(type) {
		case nil:
		case exited:
			exit = true
		default:
			panic(x)
		}
	}()
	do()
	return false
}
