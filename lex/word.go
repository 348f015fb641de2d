package lex

import (
	"strings"

	"quartermaster/api"
)

// Where a word ends.
const (
	atEnd       = iota // of the script
	atSeparator        // or at the end
	atBrace            // at the } that closes a ${
)

// word reads a word up to its end. quoted: it stands between " within a ${;
// depth: how many ${ are around it.
func (r *reader) word(end int, quoted bool, depth int) ([]api.Part, api.Errno) {
	var p parts
	kind := api.PText
	if quoted {
		kind = api.PQuote
	}
	err := api.OK
bytes:
	for r.at < len(r.s) && err == api.OK {
		c := r.s[r.at]
		switch {
		case end == atSeparator && separates(c), end == atBrace && c == '}':
			break bytes
		case c == '\\':
			r.escape(&p)
		case c == '\'' && !quoted:
			err = r.single(&p)
		case c == '"' && !quoted:
			err = r.double(&p, depth)
		case c == '$':
			err = r.dollar(&p, quoted, depth)
		case c == '"', c == '`':
			err = api.ErrSyntax
		default:
			p.put(kind, r.s[r.at:r.at+1])
			r.at++
		}
	}
	if err != api.OK {
		return nil, err
	}
	return p.all(), api.OK
}

// escape reads a \ and the byte after it.
func (r *reader) escape(p *parts) {
	next := r.s[r.at+1 : min(r.at+2, len(r.s))]
	r.at += 1 + len(next)
	switch next {
	case "":
		p.put(api.PQuote, `\`)
	case "\n":
	default:
		p.put(api.PQuote, next)
	}
}

// single reads what stands between '.
func (r *reader) single(p *parts) api.Errno {
	text, _, ok := strings.Cut(r.s[r.at+1:], "'")
	if !ok {
		return api.ErrSyntax
	}
	p.quotes = true
	p.put(api.PQuote, text)
	r.at += len(text) + 2
	return api.OK
}

// double reads what stands between ".
func (r *reader) double(p *parts, depth int) api.Errno {
	p.quotes = true
	r.at++
	for r.at < len(r.s) {
		c, next := r.s[r.at], r.s[r.at+1:]
		switch {
		case c == '"':
			r.at++
			return api.OK
		case c == '`':
			return api.ErrSyntax
		case c == '$':
			if err := r.dollar(p, true, depth); err != api.OK {
				return err
			}
		case c == '\\' && next != "" && strings.IndexByte("$\"\\`\n", next[0]) >= 0:
			r.escape(p)
		default:
			p.put(api.PQuote, r.s[r.at:r.at+1])
			r.at++
		}
	}
	return api.ErrSyntax
}
