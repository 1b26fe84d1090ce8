package keyword

import (
	"maps"
	"slices"

	"folio/api"
	"folio/text"
)

// pair is what parts one entry from another: the Folds of its Term and of its Sub.
type pair struct {
	term string
	sub  string
}

func pairOf(e api.Entry) pair { return pair{text.Fold(e.Term), text.Fold(e.Sub)} }

func comparePairs(a, b pair) int {
	if c := text.Compare(a.term, b.term); c != 0 {
		return c
	}
	return text.Compare(a.sub, b.sub)
}

func compareFolds(a, b string) int { return text.Compare(text.Fold(a), text.Fold(b)) }

// step is a see from term to term, by their Folds.
type step struct {
	from string
	to   string
}

// gathering is what entries there are so far, in the order in which they came.
type gathering struct {
	entries []api.Entry
	numbers map[pair]int      // of the entries
	firsts  map[string]int    // of a Term, by its Fold: the number of the first entry of it
	steps   map[step]struct{} // those that stand in Sees
}

func newGathering() *gathering {
	return &gathering{numbers: map[pair]int{}, firsts: map[string]int{}, steps: map[step]struct{}{}}
}

// add puts a mention into the entry that it belongs to. Mentions come in their order, so topics do.
func (g *gathering) add(m mention) {
	e := &g.entries[g.number(m.term, m.sub)]
	if m.see {
		s := step{text.Fold(m.term), text.Fold(m.to)}
		if _, ok := g.steps[s]; !ok {
			g.steps[s] = struct{}{}
			e.Sees = append(e.Sees, m.to)
		}
		return
	}
	if n := len(e.Topics); n == 0 || e.Topics[n-1] != m.topic {
		e.Topics = append(e.Topics, m.topic)
	}
}

// number answers that of the entry, which is a new one if there was none. Its Term is written as the first one that is one
// with it, whatever Sub that one has.
func (g *gathering) number(term, sub string) int {
	e := api.Entry{Term: term, Sub: sub}
	p := pairOf(e)
	if n, ok := g.numbers[p]; ok {
		return n
	}
	n := len(g.entries)
	if first, ok := g.firsts[p.term]; ok {
		e.Term = g.entries[first].Term
	} else {
		g.firsts[p.term] = n
	}
	g.numbers[p] = n
	g.entries = append(g.entries, e)
	return n
}

// inOrder hands the entries out as an index has them.
func (g *gathering) inOrder() []api.Entry {
	var l []api.Entry
	for _, p := range slices.SortedFunc(maps.Keys(g.numbers), comparePairs) {
		e := g.entries[g.numbers[p]]
		slices.SortFunc(e.Sees, compareFolds)
		l = append(l, e)
	}
	return l
}
