// Package expand expands the parameters and expressions in words.
package expand

import (
	"slices"
	"strconv"
	"strings"

	"quartermaster/chars"
	"quartermaster/vars"
)

// mostDigits is how many digits the number of an argument has at most.
const mostDigits = 4

// Scope has the parameters of a shell.
type Scope struct {
	vars   *vars.Vars
	args   []string
	status int
	failed string
}

// New returns a scope that uses the variables v themselves.
func New(v *vars.Vars, args []string, status int) *Scope {
	return &Scope{vars: v, args: slices.Clone(args), status: status}
}

// Get returns the value of a parameter, and whether it is set.
func (s *Scope) Get(name string) (string, bool) {
	behind := s.args[min(1, len(s.args)):]
	switch {
	case name == "?":
		return strconv.Itoa(s.status), true
	case name == "#":
		return strconv.Itoa(len(behind)), true
	case name == "@", name == "*":
		return strings.Join(behind, " "), true
	case chars.Number(name, 1, mostDigits):
		n, err := strconv.Atoi(name)
		if err != nil || n >= len(s.args) {
			return "", false
		}
		return s.args[n], true
	}
	return s.variables().Get(name)
}

// variables returns the variables; there are none at first if none were given.
func (s *Scope) variables() *vars.Vars {
	if s.vars == nil {
		s.vars = &vars.Vars{}
	}
	return s.vars
}

// Failed returns the parameter that was last found not to be set where it must
// be.
func (s *Scope) Failed() string {
	return s.failed
}
