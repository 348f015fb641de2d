package rules

import (
	"strings"

	"quartermaster/api"
	"quartermaster/lines"
	"quartermaster/macro"
	"quartermaster/path"
	"quartermaster/stem"
)

const (
	mostNested   = 10  // files that are included in each other
	mostIncluded = 100 // in all
	mostWords    = 200 // targets or needs of a rule
)

// include reads the files that the rest of an include line names.
func (r *reader) include(rest string, nested int) api.Errno {
	expanded, err := macro.Expand(rest, r.macros, nil)
	if err != api.OK {
		return err
	}
	for _, name := range lines.Words(expanded) {
		p, err := path.Abs(r.cwd, name)
		if err != api.OK {
			return err
		}
		b, err := r.f.Read(p)
		if err != api.OK {
			return err
		}
		r.files++
		if nested >= mostNested || r.files > mostIncluded {
			return api.ErrLong
		}
		if err := r.read(string(b), nested+1); err != api.OK {
			return err
		}
	}
	return api.OK
}

// rule reads a line that is a rule.
func (r *reader) rule(text string) api.Errno {
	var x api.Rule
	if at := semicolon(text); at < len(text) {
		x.Recipe = []string{strings.TrimLeft(text[at+1:], blanks)}
		text = text[:at]
	}
	expanded, err := macro.Expand(text, r.macros, nil)
	if err != api.OK {
		return err
	}
	before, behind, ok := strings.Cut(expanded, ":")
	x.Targets, x.Needs = lines.Words(before), lines.Words(behind)
	patterns := 0
	for _, target := range x.Targets {
		if stem.Is(target) {
			patterns++
		}
	}
	switch {
	case !ok, strings.Contains(behind, ":"), len(x.Targets) == 0, patterns != 0 && patterns != len(x.Targets):
		return api.ErrSyntax
	case len(r.rules) >= api.MaxRules, len(x.Targets) > mostWords, len(x.Needs) > mostWords:
		return api.ErrLong
	}
	r.rules = append(r.rules, x)
	return api.OK
}

// semicolon returns the place of the first ; that isn't within a reference, or
// the length of the line.
func semicolon(text string) int {
	for i := 0; i < len(text); i++ {
		switch {
		case text[i] == ';':
			return i
		case text[i] == '$' && i+1 < len(text):
			n := macro.Reference(text[i:])
			if n == 0 {
				return len(text)
			}
			i += n - 1
		}
	}
	return len(text)
}
