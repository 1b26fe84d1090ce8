package keyword

import (
	"folio/api"
	"folio/text"
)

// The marks of a term while rings are looked for.
const (
	unseen = iota
	open   // seen, but it may still turn out to lie on a ring with a term ahead of it
	known  // its ring holds all that it ever will
)

// web is the terms of a list of entries with the sees between them.
type web struct {
	numbers map[string]int // of the terms, by their Folds
	next    [][]int        // of each term those that one should see
	rings   []int          // of each term its ring: two have the same just if sees lead from each to the other
}

// weave answers the web of a list in which no entry has both a Sub and Sees.
func weave(l []api.Entry) web {
	w := web{numbers: map[string]int{}}
	for _, e := range l {
		term := text.Fold(e.Term)
		if _, ok := w.numbers[term]; !ok {
			w.numbers[term] = len(w.numbers)
		}
	}
	w.next = make([][]int, len(w.numbers))
	for _, e := range l {
		from := w.numbers[text.Fold(e.Term)]
		for _, s := range e.Sees {
			if to, ok := w.numbers[text.Fold(s)]; ok {
				w.next[from] = append(w.next[from], to)
			}
		}
	}
	w.rings = ringsOf(w.next)
	return w
}

// fault answers what is wrong with a see that is woven in. Its From leads to its To, so both have one ring just if the To
// leads back.
func (w web) fault(from, to string) api.Errno {
	n, ok := w.numbers[text.Fold(to)]
	if !ok {
		return api.ErrSeeNone
	}
	if w.rings[n] == w.rings[w.numbers[text.Fold(from)]] {
		return api.ErrSeeRing
	}
	return api.OK
}

// search goes over all terms once. Asking of each see alone whether it leads back would go over all of them again and again.
type search struct {
	next   [][]int
	marks  []int
	came   []int // as the how-manieth each was seen
	back   []int // of an open term: the earliest open one to which it leads, by came
	opened []int // the open terms, in the order in which they were seen
	seen   int   // how many were
	rings  []int
}

func ringsOf(next [][]int) []int {
	n := len(next)
	s := &search{next: next, marks: make([]int, n), came: make([]int, n), back: make([]int, n), rings: make([]int, n)}
	for term := range next {
		if s.marks[term] == unseen {
			s.visit(term)
		}
	}
	return s.rings
}

func (s *search) visit(term int) {
	s.marks[term] = open
	s.came[term], s.back[term] = s.seen, s.seen
	s.seen++
	s.opened = append(s.opened, term)
	for _, to := range s.next[term] {
		switch s.marks[to] {
		case unseen:
			s.visit(to)
			s.back[term] = min(s.back[term], s.back[to])
		case open:
			s.back[term] = min(s.back[term], s.came[to])
		}
	}
	if s.back[term] == s.came[term] {
		s.closeFrom(term)
	}
}

// closeFrom makes one ring of a term that leads to none ahead of it and of all that are open behind it.
func (s *search) closeFrom(term int) {
	for s.marks[term] == open {
		last := len(s.opened) - 1
		n := s.opened[last]
		s.opened = s.opened[:last]
		s.marks[n] = known
		s.rings[n] = term
	}
}
