package keyword

import (
	"maps"
	"slices"
	"strings"

	"folio/api"
	"folio/text"
)

// Find: P9.4.
func Find(l []api.Entry, term string) []int {
	return numbersOf(l, term, func(e api.Entry) bool { return e.Sub == "" })
}

// Under: P9.4.
func Under(l []api.Entry, term string) []int {
	return numbersOf(l, term, func(e api.Entry) bool { return e.Sub != "" })
}

// numbersOf answers the numbers of those entries of a term that are wanted.
func numbersOf(l []api.Entry, term string, wanted func(api.Entry) bool) []int {
	var numbers []int
	fold := text.Fold(term)
	for n, e := range l {
		if text.Fold(e.Term) == fold && wanted(e) {
			numbers = append(numbers, n)
		}
	}
	return numbers
}

// Topics: P9.4.
func Topics(l []api.Entry, term string) []int {
	var topics []int
	for _, n := range numbersOf(l, term, func(api.Entry) bool { return true }) {
		topics = append(topics, l[n].Topics...)
	}
	slices.Sort(topics)
	return slices.Compact(topics)
}

// Follow: P9.4.
func Follow(l []api.Entry, term string) []string {
	entries := map[string][]int{} // of each term, by its Fold, the numbers of those whose Sees count
	for n, e := range l {
		if e.Sub == "" {
			from := text.Fold(e.Term)
			entries[from] = append(entries[from], n)
		}
	}
	own := text.Fold(term)
	come := map[string]struct{}{own: {}} // the terms to which one comes
	queue := []string{own}
	for len(queue) > 0 {
		at := queue[0]
		queue = queue[1:]
		for _, n := range entries[at] {
			for _, s := range l[n].Sees {
				to := text.Fold(s)
				if _, ok := come[to]; !ok {
					come[to] = struct{}{}
					queue = append(queue, to)
				}
			}
		}
	}
	delete(come, own)
	return slices.SortedFunc(maps.Keys(come), text.Compare)
}

// Headings: P9.5.
func Headings(l []api.Entry) []api.Heading {
	var headings []api.Heading
	ahead := ""
	for n, e := range l {
		group := text.Group(text.Fold(e.Term))
		if n == 0 || group != ahead {
			headings = append(headings, api.Heading{Name: group, At: n})
		}
		ahead = group
	}
	return headings
}

// Starting: P9.5.
func Starting(l []api.Entry, s string) []int {
	var numbers []int
	begin := text.Fold(s)
	for n, e := range l {
		if strings.HasPrefix(text.Fold(e.Term), begin) {
			numbers = append(numbers, n)
		}
	}
	return numbers
}
