package phrase

import (
	"cmp"
	"slices"

	"folio/api"
)

// run is what may be a phrase, and how often coding tells it, where it is all of the dictionary.
type run struct {
	bytes string
	times int
	free  int // the number of the first piece behind it where it was told last: coding goes on from there
}

// gain is Gain, reckoned without going over the texts once more.
func (r run) gain() int {
	saved := len(appendPlain(nil, r.bytes)) - len(appendNumber(nil, 0))
	return r.times*saved - Size([]string{r.bytes})
}

// tally counts runs, piece by piece.
type tally struct {
	runs    []run
	numbers map[string]int // of the runs
	piece   int            // the number of the piece, those of all texts in a row
}

// text counts the runs of a text.
func (t *tally) text(s string) {
	for len(s) > 0 {
		ends := runEnds(s)
		for i, end := range ends {
			if isLong(end) {
				t.count(s[:end], i+1)
			}
		}
		s = s[ends[0]:]
		t.piece++
	}
}

// count counts a run of so many pieces that begins with the piece at which the tally is.
func (t *tally) count(s string, pieces int) {
	n, seen := t.numbers[s]
	if !seen {
		n = len(t.runs)
		t.numbers[s] = n
		t.runs = append(t.runs, run{bytes: s})
	}
	if r := &t.runs[n]; r.free <= t.piece {
		r.times++
		r.free = t.piece + pieces
	}
}

// candidates answers those of P14.5, the best first.
func candidates(texts []string) []string {
	t := tally{numbers: map[string]int{}}
	for _, s := range texts {
		t.text(s)
	}
	gains := make([]int, len(t.runs))
	var order []int
	for i, r := range t.runs {
		gains[i] = r.gain()
		if gains[i] > 0 {
			order = append(order, i)
		}
	}
	slices.SortFunc(order, func(a, b int) int {
		return cmp.Or(cmp.Compare(gains[b], gains[a]), cmp.Compare(t.runs[a].bytes, t.runs[b].bytes))
	})
	var l []string
	for _, n := range order[:min(len(order), api.MaxPhrases)] {
		l = append(l, t.runs[n].bytes)
	}
	return l
}
