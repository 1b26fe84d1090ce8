package text

import (
	"cmp"
	"strings"
	"unicode/utf8"
)

// The kinds of elements, in the order in which they stand.
const (
	sign = iota
	number
	letter
)

// element is what the letters of a text are held against each other by.
type element struct {
	kind   int
	char   rune   // of a sign, of a letter
	digits string // of a number, without noughts ahead: no integer holds all values
}

// elements tells the elements of a text one by one.
type elements struct {
	rest string // of the text
	base string // what is still to be told of a character's Base
}

// next answers the next element, and whether there is one.
func (e *elements) next() (element, bool) {
	for e.base == "" {
		if e.rest == "" {
			return element{}, false
		}
		if n := digitsAhead(e.rest); n > 0 {
			digits := e.rest[:n]
			e.rest = e.rest[n:]
			return element{kind: number, digits: strings.TrimLeft(digits, "0")}, true
		}
		r, n := utf8.DecodeRuneInString(e.rest)
		e.rest = e.rest[n:]
		if Width(r) > 0 {
			e.base = Base(r)
		}
	}
	r, n := utf8.DecodeRuneInString(e.base)
	e.base = e.base[n:]
	return element{kind: kindOf(r), char: r}, true
}

// digitsAhead answers how many digits a text begins with.
func digitsAhead(s string) int {
	for i, r := range s {
		if !within(r, '0', '9') {
			return i
		}
	}
	return len(s)
}

// kindOf tells letters from signs.
func kindOf(r rune) int {
	if within(r, 'a', 'z') || r >= 0xc0 && r != 0xd7 && r != 0xf7 {
		return letter
	}
	return sign
}

// Compare: P2.8.
func Compare(a string, b string) int {
	if c := compareLetters(a, b); c != 0 {
		return c
	}
	if c := compareRunes(a, b, Small); c != 0 {
		return c
	}
	if c := compareRunes(a, b, itself); c != 0 {
		return c
	}
	return strings.Compare(a, b)
}

func compareLetters(a, b string) int {
	l, m := elements{rest: a}, elements{rest: b}
	for {
		x, some := l.next()
		y, more := m.next()
		switch {
		case !some && !more:
			return 0
		case !some:
			return -1
		case !more:
			return 1
		}
		if c := compareElements(x, y); c != 0 {
			return c
		}
	}
}

func compareElements(x, y element) int {
	if c := cmp.Compare(x.kind, y.kind); c != 0 {
		return c
	}
	if c := cmp.Compare(x.char, y.char); c != 0 {
		return c
	}
	if c := cmp.Compare(len(x.digits), len(y.digits)); c != 0 {
		return c
	}
	return strings.Compare(x.digits, y.digits)
}

// compareRunes holds the characters of two texts against each other by what key makes of them.
func compareRunes(a, b string, key func(rune) rune) int {
	for _, r := range a {
		q, n := utf8.DecodeRuneInString(b)
		if n == 0 {
			return 1
		}
		if c := cmp.Compare(key(r), key(q)); c != 0 {
			return c
		}
		b = b[n:]
	}
	if b != "" {
		return -1
	}
	return 0
}

func itself(r rune) rune { return r }

// Group: P2.9.
func Group(s string) string {
	l := elements{rest: s}
	e, ok := l.next()
	switch {
	case ok && e.kind == number:
		return "0"
	case ok && e.kind == letter && within(e.char, 'a', 'z'):
		return string(e.char - 32)
	case ok && e.kind == letter:
		return string(e.char)
	}
	return "*"
}
