package phrase

import (
	"slices"
	"strings"

	"folio/api"
)

const blank = ' '

// pieceEnd answers how many bytes the first piece of s has.
func pieceEnd(s string) int {
	end := strings.IndexByte(s, blank)
	if end < 0 {
		return len(s)
	}
	for end < len(s) && s[end] == blank {
		end++
	}
	return end
}

// runEnds answers how many bytes the runs have that begin s: the one of one piece, of two, and so on; 0, where s has too few pieces.
func runEnds(s string) [api.MaxRun]int {
	var ends [api.MaxRun]int
	end := 0
	for i := range ends {
		if end == len(s) {
			break
		}
		end += pieceEnd(s[end:])
		ends[i] = end
	}
	return ends
}

// mayBe answers whether s may be a phrase.
func mayBe(s string) bool {
	ends := runEnds(s)
	return isLong(len(s)) && slices.Contains(ends[:], len(s))
}

// isLong answers whether a phrase may have so many bytes.
func isLong(n int) bool { return n >= api.MinPhrase && n <= api.MaxPhrase }
