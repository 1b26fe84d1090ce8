package keyword

import "folio/api"

// Check: P9.3.
func Check(l []api.Entry, topics int) (int, api.Errno) {
	if len(l) > api.MaxEntries {
		return 0, api.ErrLong
	}
	for n, e := range l {
		switch {
		case hasBadText(e):
			return n, api.ErrTerm
		case !topicsMayBe(e.Topics, topics), !seesMayBe(e), len(e.Topics) == 0 && len(e.Sees) == 0:
			return n, api.ErrRange
		case n > 0 && !mayFollow(l[n-1], e):
			return n, api.ErrForm
		}
	}
	w := weave(l)
	for n, e := range l {
		for _, to := range e.Sees {
			if f := w.fault(e.Term, to); f != api.OK {
				return n, f
			}
		}
	}
	return 0, api.OK
}

func hasBadText(e api.Entry) bool {
	if !mayBeTerm(e.Term) || !mayBeSub(e.Sub) {
		return true
	}
	for _, s := range e.Sees {
		if !mayBeTerm(s) {
			return true
		}
	}
	return false
}

func topicsMayBe(l []int, topics int) bool {
	least := 0 // that the next one may be
	for _, n := range l {
		if n < least || n >= topics {
			return false
		}
		least = n + 1
	}
	return true
}

func seesMayBe(e api.Entry) bool {
	if len(e.Sees) > 0 && e.Sub != "" {
		return false
	}
	for n := range e.Sees {
		if n > 0 && compareFolds(e.Sees[n-1], e.Sees[n]) >= 0 {
			return false
		}
	}
	return true
}

// mayFollow answers whether an entry may stand just behind another one: in order, and a Term written as it is there.
func mayFollow(ahead, e api.Entry) bool {
	a, b := pairOf(ahead), pairOf(e)
	return comparePairs(a, b) < 0 && (a.term != b.term || ahead.Term == e.Term)
}
