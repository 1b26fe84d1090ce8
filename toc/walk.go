package toc

import (
	"iter"
	"slices"

	"folio/api"
)

// The root stands ahead of the first entry and above all: so those of Level 1 are kids like others.
const (
	root      = -1
	rootLevel = 0
)

// Find: P10.3.
func Find(t []api.TocEntry, topic int) (int, bool) {
	n, e := entryOf(t, topic)
	return n, e == api.OK
}

// Parent: P10.3.
func Parent(t []api.TocEntry, i int) (int, api.Errno) {
	if e := mayLook(t, i); e != api.OK {
		return 0, e
	}
	return parentOf(t, i), api.OK
}

// End: P10.3.
func End(t []api.TocEntry, i int) (int, api.Errno) {
	if e := mayLook(t, i); e != api.OK {
		return 0, e
	}
	end := i + 1
	for range below(t, i) {
		end++
	}
	return end, api.OK
}

// Kids: P10.3.
func Kids(t []api.TocEntry, i int) ([]int, api.Errno) {
	if e := mayBe(t); e != api.OK {
		return nil, e
	}
	if i != root && !isEntry(t, i) {
		return nil, api.ErrRange
	}
	var kids []int
	for n := range below(t, i) {
		if t[n].Level == levelOf(t, i)+1 {
			kids = append(kids, n)
		}
	}
	return kids, api.OK
}

// Next: P10.4.
func Next(t []api.TocEntry, topic int) (int, api.Errno) { return beside(t, topic, 1) }

// Prev: P10.4.
func Prev(t []api.TocEntry, topic int) (int, api.Errno) { return beside(t, topic, -1) }

// beside answers the topic of the entry so many behind a topic's.
func beside(t []api.TocEntry, topic, by int) (int, api.Errno) {
	i, e := entryOf(t, topic)
	if e != api.OK {
		return 0, e
	}
	if !isEntry(t, i+by) {
		return 0, api.ErrNone
	}
	return t[i+by].Topic, api.OK
}

// Up: P10.4.
func Up(t []api.TocEntry, topic int) (int, api.Errno) {
	i, e := entryOf(t, topic)
	if e != api.OK {
		return 0, e
	}
	parent := parentOf(t, i)
	if parent == root {
		return 0, api.ErrNone
	}
	return t[parent].Topic, api.OK
}

// Path: P10.4.
func Path(t []api.TocEntry, topic int) ([]int, api.Errno) {
	i, e := entryOf(t, topic)
	if e != api.OK {
		return nil, e
	}
	var path []int
	for _, n := range wayTo(t, i)[1:] {
		path = append(path, t[n].Topic)
	}
	return path, api.OK
}

// Shown: P10.5.
func Shown(t []api.TocEntry, open []int) ([]int, api.Errno) {
	if e := mayBe(t); e != api.OK {
		return nil, e
	}
	unfolded := map[int]struct{}{}
	for _, topic := range open {
		unfolded[topic] = struct{}{}
	}
	var shown []int
	deepest := rootLevel + 1 // that the next one to be seen may be: what is deeper lies in a fold
	for n := range below(t, root) {
		if t[n].Level > deepest {
			continue
		}
		shown = append(shown, n)
		deepest = t[n].Level
		if _, ok := unfolded[t[n].Topic]; ok {
			deepest++
		}
	}
	return shown, api.OK
}

// mayLook answers the error that calls with an entry's number look at ahead of all else.
func mayLook(t []api.TocEntry, i int) api.Errno {
	if e := mayBe(t); e != api.OK {
		return e
	}
	if !isEntry(t, i) {
		return api.ErrRange
	}
	return api.OK
}

// entryOf answers the number of a topic's entry, or the error that calls with a topic look at ahead of all else.
func entryOf(t []api.TocEntry, topic int) (int, api.Errno) {
	if e := mayBe(t); e != api.OK {
		return 0, e
	}
	for n, entry := range t {
		if entry.Topic == topic {
			return n, api.OK
		}
	}
	return 0, api.ErrNone
}

func isEntry(t []api.TocEntry, i int) bool { return i >= 0 && i < len(t) }

func levelOf(t []api.TocEntry, i int) int {
	if i == root {
		return rootLevel
	}
	return t[i].Level
}

// below tells the numbers of what stands below an entry, of the root all.
func below(t []api.TocEntry, i int) iter.Seq[int] {
	return func(yield func(int) bool) {
		level := levelOf(t, i)
		for n := i + 1; n < len(t) && t[n].Level > level; n++ {
			if !yield(n) {
				return
			}
		}
	}
}

func parentOf(t []api.TocEntry, i int) int {
	way := wayTo(t, i)
	return way[len(way)-2]
}

// wayTo answers the numbers from the root down to an entry, each the parent of the next.
func wayTo(t []api.TocEntry, i int) []int {
	way := []int{i}
	level := t[i].Level // of the highest one so far
walkingUp:
	for n := i - 1; ; n-- {
		switch {
		case level == rootLevel+1:
			way = append(way, root)
			break walkingUp
		case t[n].Level < level:
			way = append(way, n)
			level = t[n].Level
		}
	}
	slices.Reverse(way)
	return way
}
