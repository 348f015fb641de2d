package show

import (
	"strings"

	"quartermaster/api"
)

// word writes the parts of a word. quoted: it stands in a ${ between ".
func (p *printer) word(w []api.Part, quoted bool) {
	p.apart(w, quoted)
	for _, x := range w {
		if !p.enter() {
			return
		}
		switch {
		case x.Kind == api.PText:
			// A $ is itself before the end of a line that goes on.
			p.put(strings.ReplaceAll(x.Text, "$", "$\\\n"))
		case x.Kind == api.PQuote && quoted:
			p.escaped(x.Text)
		case x.Kind == api.PQuote:
			p.put("'", strings.ReplaceAll(x.Text, "'", `'\''`), "'")
		case x.Quoted && !quoted:
			p.put(`"`)
			p.construct(x)
			p.put(`"`)
		default:
			p.construct(x)
		}
		p.depth--
	}
}

// apart writes something that stands for nothing before a # or a % that a
// word begins with: a # might begin a remark, and both might lengthen the
// operator before them.
func (p *printer) apart(w []api.Part, quoted bool) {
	plain, nothing := api.PText, "''"
	if quoted {
		plain, nothing = api.PQuote, "\\\n"
	}
	if len(w) > 0 && w[0].Kind == plain && (strings.HasPrefix(w[0].Text, "#") || strings.HasPrefix(w[0].Text, "%")) {
		p.put(nothing)
	}
}

// escaped writes bytes within a ${ between ", where a \ before any other byte
// than these would be itself.
func (p *printer) escaped(s string) {
	for i := range len(s) {
		if strings.IndexByte("\\$\"`", s[i]) >= 0 {
			p.put(`\`)
		}
		p.put(s[i : i+1])
	}
}

// construct writes what begins with a $.
func (p *printer) construct(x api.Part) {
	switch x.Kind {
	case api.PVar:
		if x.Op == "L" {
			p.put("${#", x.Name, "}")
			return
		}
		p.put("${", x.Name, x.Op)
		if x.Op != "" {
			p.word(x.Word, x.Quoted)
		}
		p.put("}")
	case api.PCalc:
		p.put("$((", x.Text, "))")
	case api.PSub:
		p.put("$(", x.Text, ")")
	}
}
