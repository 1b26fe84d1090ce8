package text

import "strings"

// Small: P2.5.
func Small(r rune) rune {
	switch {
	case r == 0xd7, r == 0x3a2: // no letters, though they stand among large ones
		return r
	case within(r, 'A', 'Z'), within(r, 0xc0, 0xde), within(r, 0x391, 0x3a9), within(r, 0x410, 0x42f):
		return r + 32
	case within(r, 0x400, 0x40f):
		return r + 80
	}
	return r
}

// Base: P2.6.
func Base(r rune) string {
	r = Small(r)
	switch {
	case within(r, 0xe0, 0xe5):
		return "a"
	case r == 0xe6:
		return "ae"
	case r == 0xe7:
		return "c"
	case within(r, 0xe8, 0xeb):
		return "e"
	case within(r, 0xec, 0xef):
		return "i"
	case r == 0xf0:
		return "d"
	case r == 0xf1:
		return "n"
	case within(r, 0xf2, 0xf6), r == 0xf8:
		return "o"
	case within(r, 0xf9, 0xfc):
		return "u"
	case r == 0xfd, r == 0xff:
		return "y"
	case r == 0xfe:
		return "th"
	case r == 0xdf:
		return "ss"
	}
	return string(r) // U+FFFD of what is no code point
}

// Fold: P2.7.
func Fold(s string) string {
	var b strings.Builder
	blank := false // blanks are ahead that would have to be written if something follows
	for i, r := range s {
		if r == ' ' {
			blank = b.Len() > 0
			continue
		}
		if blank {
			b.WriteByte(' ')
			blank = false
		}
		if bad(s, i, r) {
			b.WriteByte(s[i])
		} else {
			b.WriteRune(Small(r))
		}
	}
	return b.String()
}
