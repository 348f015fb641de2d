package glob

// Kinds of pieces.
const (
	literal = iota // one byte
	one            // any byte
	within         // a byte of a set
	star           // any number of bytes
)

// piece is what a pattern asks for at one place.
type piece struct {
	kind int
	char byte
	set  set
}

// takes reports whether a piece that isn't a star matches the byte b.
func (x *piece) takes(b byte) bool {
	switch x.kind {
	case literal:
		return x.char == b
	case within:
		return x.set.has(b)
	}
	return true
}

// set has a bit for each byte.
type set [4]uint64

func (s *set) has(b byte) bool { return s[b>>6]>>(b&63)&1 == 1 }

func (s *set) add(from, to byte) {
	for b := int(from); b <= int(to); b++ {
		s[b>>6] |= 1 << (b & 63)
	}
}

func (s *set) invert() {
	for i := range s {
		s[i] = ^s[i]
	}
}

// pieces reads a pattern.
func pieces(p string) []piece {
	var l []piece
	// A set that isn't closed leaves no ] for a later one to be closed by.
	closable := true
	for i := 0; i < len(p); {
		switch c := p[i]; {
		case c == '*':
			l = append(l, piece{kind: star})
			i++
			continue
		case c == '?':
			l = append(l, piece{kind: one})
			i++
			continue
		case c == '[' && closable:
			if s, end := readSet(p, i+1); end > 0 {
				l = append(l, piece{kind: within, set: s})
				i = end
				continue
			}
			closable = false
		}
		b, next := readByte(p, i)
		l = append(l, piece{kind: literal, char: b})
		i = next
	}
	return l
}

// readByte returns the byte that stands at i, with or without a \ before it,
// and the place behind it.
func readByte(p string, i int) (byte, int) {
	if p[i] == '\\' && i+1 < len(p) {
		return p[i+1], i + 2
	}
	return p[i], i + 1
}

// readSet returns the set whose [ stands before i, and the place behind its ],
// or 0 if it isn't closed.
func readSet(p string, i int) (set, int) {
	var s set
	not := i < len(p) && p[i] == '!'
	if not {
		i++
	}
	for first := true; i < len(p); first = false {
		if p[i] == ']' && !first {
			if not {
				s.invert()
			}
			return s, i + 1
		}
		from, next := readByte(p, i)
		to := from
		if next+1 < len(p) && p[next] == '-' && p[next+1] != ']' {
			to, next = readByte(p, next+1)
		}
		s.add(from, to)
		i = next
	}
	return set{}, 0
}
