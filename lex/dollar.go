package lex

import (
	"strings"

	"quartermaster/api"
	"quartermaster/chars"
)

// dollar reads a $ and the construct that it begins, if it begins one.
func (r *reader) dollar(p *parts, quoted bool, depth int) api.Errno {
	rest := r.s[r.at+1:]
	var x api.Part
	err := api.OK
	switch {
	case strings.HasPrefix(rest, "{"):
		r.at += 2
		x, err = r.brace(quoted, depth)
	case strings.HasPrefix(rest, "(("):
		r.at += 3
		x, err = r.calc()
	case strings.HasPrefix(rest, "("):
		r.at += 2
		x, err = r.sub()
	case paramLen(rest) > 0:
		n := paramLen(rest)
		r.at += 1 + n
		x = api.Part{Kind: api.PVar, Name: rest[:n]}
	default:
		kind := api.PText
		if quoted {
			kind = api.PQuote
		}
		p.put(kind, "$")
		r.at++
		return api.OK
	}
	if err == api.OK {
		x.Quoted = quoted
		p.add(x)
	}
	return err
}

// paramLen returns how many bytes of s, from its beginning on, are the name of
// a parameter, of which a number has a single digit.
func paramLen(s string) int {
	switch {
	case chars.Name(s) > 0:
		return chars.Name(s)
	case s != "" && (chars.Digit(s[0]) || strings.IndexByte("?#@*", s[0]) >= 0):
		return 1
	}
	return 0
}

// longParam is the same with all the digits of a number.
func longParam(s string) int {
	return max(paramLen(s), chars.Digits(s))
}

// brace reads what stands behind ${.
func (r *reader) brace(quoted bool, depth int) (api.Part, api.Errno) {
	x := api.Part{Kind: api.PVar}
	rest := r.rest()
	if measured, ok := strings.CutPrefix(rest, "#"); ok && !strings.HasPrefix(measured, "}") && opOf(measured) == "" {
		x.Op = "L"
		x.Name = measured[:longParam(measured)]
		r.at += 1 + len(x.Name)
	} else {
		x.Name = rest[:longParam(rest)]
		r.at += len(x.Name)
		x.Op = opOf(r.rest())
		r.at += len(x.Op)
	}
	if x.Name == "" {
		return api.Part{}, api.ErrSyntax
	}
	if x.Op != "" && x.Op != "L" {
		if depth == api.MaxNest {
			return api.Part{}, api.ErrLong
		}
		var err api.Errno
		if x.Word, err = r.word(atBrace, quoted, depth+1); err != api.OK {
			return api.Part{}, err
		}
	}
	if !strings.HasPrefix(r.rest(), "}") {
		return api.Part{}, api.ErrSyntax
	}
	r.at++
	return x, api.OK
}

// opOf returns the longest operator of ${ that s begins with, or nothing.
func opOf(s string) string {
	for n := min(len(s), 2); n > 0; n-- {
		switch s[:n] {
		case ":-", ":=", ":?", ":+", "%%", "##", "-", "=", "?", "+", "%", "#":
			return s[:n]
		}
	}
	return ""
}

// calc reads what stands behind $((.
func (r *reader) calc() (api.Part, api.Errno) {
	rest := r.rest()
	open := 0
text:
	for i := range len(rest) {
		switch rest[i] {
		case '(':
			open++
		case ')':
			open--
			if open >= 0 {
				continue text
			}
			if !strings.HasPrefix(rest[i:], "))") {
				break text
			}
			r.at += i + 2
			return api.Part{Kind: api.PCalc, Text: rest[:i]}, api.OK
		}
	}
	return api.Part{}, api.ErrSyntax
}

// sub reads what stands behind $(.
func (r *reader) sub() (api.Part, api.Errno) {
	rest := r.rest()
	open := 0
	for i := 0; i < len(rest); i++ {
		switch rest[i] {
		case '(':
			open++
		case ')':
			if open == 0 {
				r.at += i + 1
				return api.Part{Kind: api.PSub, Text: rest[:i]}, api.OK
			}
			open--
		case '\\':
			i++
		case '\'', '"':
			i += quotation(rest[i:]) - 1
		}
	}
	return api.Part{}, api.ErrSyntax
}

// quotation returns how long the quotation is that s begins with; one that
// isn't closed goes beyond the end of s.
func quotation(s string) int {
	for i := 1; i < len(s); i++ {
		switch {
		case s[i] == s[0]:
			return i + 1
		case s[i] == '\\' && s[0] == '"':
			i++
		}
	}
	return len(s) + 1
}
