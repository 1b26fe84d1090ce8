package phrase

import (
	"slices"

	"folio/api"
)

// The bytes of codes.
const (
	escape  = 0   // the next byte is itself
	oneByte = 24  // so many phrases have a code of one byte: 1 and on
	two     = 25  // the first byte of codes of two bytes
	lastLow = 31  // bytes above it are themselves
	seconds = 256 // so many codes of two bytes begin with the same one
)

// numbered answers the numbers of a dictionary's phrases, or Check's error with its place.
func numbered(dict []string) (map[string]int, int, api.Errno) {
	if len(dict) > api.MaxPhrases {
		return nil, 0, api.ErrLong
	}
	numbers := make(map[string]int, len(dict))
	for i, p := range dict {
		if !mayBe(p) {
			return nil, i, api.ErrPhrase
		}
		if _, twice := numbers[p]; twice {
			return nil, i, api.ErrTwicePhrase
		}
		numbers[p] = i
	}
	return numbers, 0, api.OK
}

// appendCoded lays behind b what s is coded, by the numbers of a dictionary's phrases.
func appendCoded(b []byte, numbers map[string]int, s string) []byte {
	for len(s) > 0 {
		n, end := firstCoded(numbers, s)
		if n < 0 {
			b = appendPlain(b, s[:end])
		} else {
			b = appendNumber(b, n)
		}
		s = s[end:]
	}
	return b
}

// firstCoded answers the number of the longest phrase that begins s, and how many bytes it has; without one -1, and how many the
// first piece has.
func firstCoded(numbers map[string]int, s string) (int, int) {
	ends := runEnds(s)
	for _, end := range slices.Backward(ends[:]) {
		if n, found := numbers[s[:end]]; found {
			return n, end
		}
	}
	return -1, ends[0]
}

func appendNumber(b []byte, n int) []byte {
	if n < oneByte {
		return append(b, byte(n+1))
	}
	n -= oneByte
	return append(b, byte(two+n/seconds), byte(n%seconds))
}

func appendPlain(b []byte, s string) []byte {
	for i := range len(s) {
		if s[i] <= lastLow {
			b = append(b, escape)
		}
		b = append(b, s[i])
	}
	return b
}

// decodeFirst answers what the first code of b tells, and how many bytes that code has: 0, if it is none.
func decodeFirst(dict []string, b string) (told string, long int) {
	x := b[0]
	n := int(x) - 1
	long = 1
	switch {
	case x > lastLow:
		return b[:1], 1
	case x == escape:
		if len(b) < 2 || b[1] > lastLow {
			return "", 0
		}
		return b[1:2], 2
	case x >= two:
		if len(b) < 2 {
			return "", 0
		}
		n = int(x-two)*seconds + int(b[1]) + oneByte
		long = 2
		fallthrough
	default: // a phrase's number is known by now, in either form
		if n >= len(dict) {
			return "", 0
		}
		return dict[n], long
	}
}

// whole answers how many bytes a dictionary that may be and the texts coded by it take.
func whole(dict, texts []string) int {
	numbers, _, _ := numbered(dict)
	n := Size(dict)
	var b []byte
	for _, s := range texts {
		b = appendCoded(b[:0], numbers, s)
		n += len(b)
	}
	return n
}
