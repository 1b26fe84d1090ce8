package link

import (
	"iter"
	"maps"
	"slices"

	"folio/api"
)

// nowhere is the number of no topic: a walk to it goes on till all is seen.
const nowhere = -1

// Out: P8.2.
func Out(l []api.Refer, topics int, topic int) ([]int, api.Errno) {
	if e := mayLook(l, topics, topic); e != api.OK {
		return nil, e
	}
	var out []int
	for r := range thatCount(l, topics) {
		if r.From == topic {
			out = append(out, r.To)
		}
	}
	return rising(out), api.OK
}

// Into: P8.2.
func Into(l []api.Refer, topics int, topic int) ([]int, api.Errno) {
	if e := mayLook(l, topics, topic); e != api.OK {
		return nil, e
	}
	var into []int
	for r := range thatCount(l, topics) {
		if r.To == topic {
			into = append(into, r.From)
		}
	}
	return rising(into), api.OK
}

// Reach: P8.3.
func Reach(l []api.Refer, topics int, from int) ([]int, api.Errno) {
	if e := mayLook(l, topics, from); e != api.OK {
		return nil, e
	}
	return slices.Sorted(maps.Keys(walk(nexts(l, topics), from, nowhere))), api.OK
}

// Way: P8.3.
func Way(l []api.Refer, topics int, from int, to int) ([]int, api.Errno) {
	if e := mayLook(l, topics, from, to); e != api.OK {
		return nil, e
	}
	seen := walk(nexts(l, topics), from, to)
	if _, ok := seen[to]; !ok {
		return nil, api.ErrNone
	}
	way := []int{to}
	for at := to; at != from; {
		at = seen[at]
		way = append(way, at)
	}
	slices.Reverse(way)
	return way, api.OK
}

// Orphans: P8.2.
func Orphans(l []api.Refer, topics int) ([]int, api.Errno) {
	if e := mayLook(l, topics); e != api.OK {
		return nil, e
	}
	others := make([]int, topics) // how many references each has from others
	for r := range thatCount(l, topics) {
		if r.From != r.To {
			others[r.To]++
		}
	}
	var alone []int
	for n, count := range others {
		if count == 0 {
			alone = append(alone, n)
		}
	}
	return alone, api.OK
}

// mayLook answers the error that all these calls look at ahead of all else.
func mayLook(l []api.Refer, topics int, asked ...int) api.Errno {
	if len(l) > api.MaxRefs {
		return api.ErrLong
	}
	if topics < 0 || topics > api.MaxTopics {
		return api.ErrRange
	}
	for _, n := range asked {
		if !isTopic(n, topics) {
			return api.ErrRange
		}
	}
	return api.OK
}

func isTopic(n, topics int) bool { return n >= 0 && n < topics }

func thatCount(l []api.Refer, topics int) iter.Seq[api.Refer] {
	return func(yield func(api.Refer) bool) {
		for _, r := range l {
			if isTopic(r.From, topics) && isTopic(r.To, topics) && !yield(r) {
				return
			}
		}
	}
}

// rising puts a list of its caller's own in order, each number once.
func rising(l []int) []int {
	slices.Sort(l)
	return slices.Compact(l)
}

// nexts answers for each topic those to which it refers, rising.
func nexts(l []api.Refer, topics int) [][]int {
	next := make([][]int, topics)
	for r := range thatCount(l, topics) {
		next[r.From] = append(next[r.From], r.To)
	}
	for n := range next {
		next[n] = rising(next[n])
	}
	return next
}

// walk goes from a topic over what it refers to, the nearest ahead, till it sees the one that is looked for. It answers for
// each topic that it saw the one from which it was seen first. Topics that are equally far stand in the queue in the order of
// their ways, since each one puts what it refers to behind all others, rising: so the way back is the first of the shortest.
func walk(next [][]int, from, to int) map[int]int {
	seen := map[int]int{from: from}
	queue := []int{from}
walking:
	for len(queue) > 0 {
		at := queue[0]
		queue = queue[1:]
		for _, n := range next[at] {
			if _, ok := seen[n]; ok {
				continue
			}
			seen[n] = at
			if n == to {
				break walking
			}
			queue = append(queue, n)
		}
	}
	return seen
}
