package text

import (
	"iter"
	"slices"
	"strings"

	"folio/api"
)

// Width: P2.2.
func Width(r rune) int {
	switch {
	case within(r, 0, 0x1f): // from 0, for numbers below are no code points
		fallthrough
	case within(r, 0x7f, 0x9f):
		fallthrough
	case within(r, 0x300, 0x36f):
		fallthrough
	case within(r, 0x200b, 0x200d):
		fallthrough
	case within(r, 0xfe00, 0xfe0f):
		return 0
	case within(r, 0x1100, 0x115f):
		fallthrough
	case within(r, 0x2e80, 0x303e):
		fallthrough
	case within(r, 0x3041, 0x33ff):
		fallthrough
	case within(r, 0x3400, 0x4dbf):
		fallthrough
	case within(r, 0x4e00, 0xa4cf):
		fallthrough
	case within(r, 0xac00, 0xd7a3):
		fallthrough
	case within(r, 0xf900, 0xfaff):
		fallthrough
	case within(r, 0xfe30, 0xfe6f):
		fallthrough
	case within(r, 0xff00, 0xff60):
		fallthrough
	case within(r, 0xffe0, 0xffe6):
		fallthrough
	case within(r, 0x1f300, 0x1f64f):
		fallthrough
	case within(r, 0x1f900, 0x1f9ff):
		fallthrough
	case within(r, 0x20000, 0x3fffd):
		return 2
	}
	return 1
}

// Cells: P2.3.
func Cells(s string) []api.Cell { return slices.Collect(cells(s)) }

// Wide: P2.3.
func Wide(s string) int {
	wide := 0
	for c := range cells(s) {
		wide += c.Wide
	}
	return wide
}

// Words: P2.4.
func Words(s string) []api.Word {
	var l []api.Word
	for at := 0; at < len(s); at++ { // over the blank that ends a word, too
		word, _, _ := strings.Cut(s[at:], " ")
		if word != "" {
			l = append(l, api.Word{Text: word, At: at, Wide: Wide(word)})
		}
		at += len(word)
	}
	return l
}

// Cut: P2.4.
func Cut(s string, wide int) (string, string) {
	room := wide
	for c := range cells(s) {
		if c.Wide > room {
			return s[:c.At], s[c.At:]
		}
		room -= c.Wide
	}
	return s, ""
}

// cells goes over the cells of a text one by one: those who only add up or stop early need no list of them.
func cells(s string) iter.Seq[api.Cell] {
	return func(yield func(api.Cell) bool) {
		var at, wide int
		for i, r := range s {
			w := Width(r)
			if w == 0 && i > 0 {
				continue
			}
			if i > 0 && !yield(api.Cell{Text: s[at:i], At: at, Wide: wide}) {
				return
			}
			at, wide = i, max(w, 1)
		}
		if s != "" {
			yield(api.Cell{Text: s[at:], At: at, Wide: wide})
		}
	}
}
