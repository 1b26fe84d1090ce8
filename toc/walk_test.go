package toc_test

import (
	"math"
	"slices"
	"testing"

	"folio/api"
	"folio/fault"
	"folio/src"
	"folio/toc"
)

// P10.3, P10.4, P10.5

// leveled answers entries of these Levels, of the topics from 999 down: so a topic is no entry's number.
func leveled(levels ...int) []api.TocEntry {
	var t []api.TocEntry
	for n, level := range levels {
		t = append(t, api.TocEntry{Topic: api.MaxTopics - 1 - n, Level: level})
	}
	return t
}

// long answers so many entries of all Levels; their topics go down to 0.
func long(n int) []api.TocEntry {
	var t []api.TocEntry
	for i := range n {
		t = append(t, api.TocEntry{Topic: n - 1 - i, Level: 1 + i%api.MaxLevel})
	}
	return t
}

// example is the chapter's first one.
func example() []api.TocEntry { return contents(4, 1, 0, 2, 2, 3, 7, 2, 1, 1) }

func wantNumber(t *testing.T, what string, l []api.TocEntry, of, want int, got int, e api.Errno) {
	t.Helper()
	if e != api.OK || got != want {
		t.Errorf("%s of %d in %v: %d, %d, want %d", what, of, l[:min(len(l), 20)], got, e, want)
	}
}

func wantList(t *testing.T, what string, l []api.TocEntry, of any, want, got []int, e api.Errno) {
	t.Helper()
	if e != api.OK || !slices.Equal(got, want) {
		t.Errorf("%s of %v in %v: %v, %d, want %v", what, of, l[:min(len(l), 20)], got, e, want)
	}
}

func wantFind(t *testing.T, l []api.TocEntry, topic, want int) {
	t.Helper()
	if n, ok := toc.Find(l, topic); !ok || n != want {
		t.Errorf("Find %d: %d, %t, want %d", topic, n, ok, want)
	}
}

func wantParent(t *testing.T, l []api.TocEntry, i, want int) {
	t.Helper()
	got, e := toc.Parent(l, i)
	wantNumber(t, "Parent", l, i, want, got, e)
}

func wantEnd(t *testing.T, l []api.TocEntry, i, want int) {
	t.Helper()
	got, e := toc.End(l, i)
	wantNumber(t, "End", l, i, want, got, e)
}

func wantKids(t *testing.T, l []api.TocEntry, i int, want ...int) {
	t.Helper()
	got, e := toc.Kids(l, i)
	wantList(t, "Kids", l, i, want, got, e)
}

// none says that a topic's call finds nothing there.
const none = -1

// wantWays asks of a topic for Next, Prev, Up (none: ErrNone) and for its Path.
func wantWays(t *testing.T, l []api.TocEntry, topic, next, prev, up int, path ...int) {
	t.Helper()
	for _, c := range []struct {
		what string
		call func([]api.TocEntry, int) (int, api.Errno)
		want int
	}{{"Next", toc.Next, next}, {"Prev", toc.Prev, prev}, {"Up", toc.Up, up}} {
		got, e := c.call(l, topic)
		if c.want != none {
			wantNumber(t, c.what, l, topic, c.want, got, e)
		} else if got != 0 || e != api.ErrNone {
			t.Errorf("%s of %d: %d, %d, want none", c.what, topic, got, e)
		}
	}
	got, e := toc.Path(l, topic)
	wantList(t, "Path", l, topic, path, got, e)
}

// wantNoEntry asks the calls by topics for one that has none.
func wantNoEntry(t *testing.T, l []api.TocEntry, topic int) {
	t.Helper()
	wantTopicCalls(t, l, topic, api.ErrNone)
}

func wantTopicCalls(t *testing.T, l []api.TocEntry, topic int, want api.Errno) {
	t.Helper()
	if n, ok := toc.Find(l, topic); n != 0 || ok {
		t.Errorf("Find %d: %d, %t", topic, n, ok)
	}
	for what, call := range map[string]func([]api.TocEntry, int) (int, api.Errno){"Next": toc.Next, "Prev": toc.Prev, "Up": toc.Up} {
		if n, e := call(l, topic); n != 0 || e != want {
			t.Errorf("%s of %d: %d, %d, want %d", what, topic, n, e, want)
		}
	}
	if path, e := toc.Path(l, topic); len(path) != 0 || e != want {
		t.Errorf("Path of %d: %v, %d, want %d", topic, path, e, want)
	}
}

func wantNumberCalls(t *testing.T, l []api.TocEntry, i int, want, kids api.Errno) {
	t.Helper()
	if n, e := toc.Parent(l, i); n != 0 || e != want {
		t.Errorf("Parent of %d: %d, %d, want %d", i, n, e, want)
	}
	if n, e := toc.End(l, i); n != 0 || e != want {
		t.Errorf("End of %d: %d, %d, want %d", i, n, e, want)
	}
	if k, e := toc.Kids(l, i); e != kids || kids != api.OK && len(k) != 0 {
		t.Errorf("Kids of %d: %v, %d, want %d", i, k, e, kids)
	}
}

func wantShown(t *testing.T, l []api.TocEntry, open []int, want ...int) {
	t.Helper()
	got, e := toc.Shown(l, open)
	wantList(t, "Shown", l, open, want, got, e)
}

func TestExample(t *testing.T) {
	l := example()
	wantParent(t, l, 3, 0)
	wantEnd(t, l, 0, 4)
	wantKids(t, l, 0, 1, 3)
	wantKids(t, l, -1, 0, 4)
	wantWays(t, l, 4, 0, none, none, 4)
	wantWays(t, l, 2, 7, 0, 0, 4, 0, 2)
	wantShown(t, l, []int{4}, 0, 1, 3, 4)
	wantCheck(t, leveled(1, 3), api.MaxTopics, 1, api.ErrLevel)
}

// TestExampleOfSources has them read.
func TestExampleOfSources(t *testing.T) {
	s, err := src.Parse("\n\n\n\n.topic  First  one | Title\n.toc 2\ntext\n")
	if err != nil {
		t.Fatal(err)
	}
	wantFault(t, []api.Source{s}, api.Fault{Code: api.ErrLevel, Line: 5, Col: 1, Word: "First one"})
	_, err = toc.Tree([]api.Source{s})
	if got := fault.Text(err); got != "fault 100 at 0:5:1 First one" {
		t.Error(got)
	}
	s, err = src.Parse(".topic a\n.toc 1\n.note n\n.topic b\n.topic c\n.toc 2\n")
	if err != nil {
		t.Fatal(err)
	}
	wantTree(t, []api.Source{s, s}, contents(0, 1, 3, 2, 4, 1, 7, 2)...)
}

func TestNoContents(t *testing.T) {
	for _, l := range [][]api.TocEntry{nil, {}, example()[:0]} {
		for _, n := range numbers() {
			wantNoEntry(t, l, n)
			if n != -1 {
				wantNumberCalls(t, l, n, api.ErrRange, api.ErrRange)
			}
		}
		wantNumberCalls(t, l, -1, api.ErrRange, api.OK)
		wantKids(t, l, -1)
		wantShown(t, l, nil)
		wantShown(t, l, []int{0, -1, 5, 5, math.MaxInt})
	}
}

// numbers are those at and beyond the edges.
func numbers() []int {
	return []int{0, 1, 5, -1, -2, api.MaxTopics - 1, api.MaxTopics, api.MaxTopics + 1, 1 << 32, math.MaxInt, math.MinInt}
}

func TestNumbersOfEntries(t *testing.T) {
	for _, l := range [][]api.TocEntry{example(), contents(5, 1), long(8), long(api.MaxTopics)} {
		for _, i := range []int{-2, math.MinInt, len(l), len(l) + 1, api.MaxTopics, 1 << 40, math.MaxInt} {
			wantNumberCalls(t, l, i, api.ErrRange, api.ErrRange)
		}
		wantNumberCalls(t, l, -1, api.ErrRange, api.OK) // it has kids alone
	}
	l := leveled(1, 2, 3, 3, 2, 1, 2, 2, 3, 4, 1)
	for i, want := range []int{-1, 0, 1, 1, 0, -1, 5, 5, 7, 8, -1} {
		wantParent(t, l, i, want)
	}
	for i, want := range []int{5, 4, 3, 4, 5, 10, 7, 10, 10, 10, 11} {
		wantEnd(t, l, i, want)
	}
	for i, want := range [][]int{{1, 4}, {2, 3}, {}, {}, {}, {6, 7}, {}, {8}, {9}, {}, {}} {
		wantKids(t, l, i, want...)
	}
	wantKids(t, l, -1, 0, 5, 10)
}

func TestOneEntry(t *testing.T) {
	for _, topic := range []int{0, 1, 7, api.MaxTopics - 1} {
		l := contents(topic, 1)
		wantFind(t, l, topic, 0)
		wantParent(t, l, 0, -1)
		wantEnd(t, l, 0, 1)
		wantKids(t, l, 0)
		wantKids(t, l, -1, 0)
		wantWays(t, l, topic, none, none, none, topic)
		wantShown(t, l, nil, 0)
		wantShown(t, l, []int{topic}, 0)
	}
}

func TestDeepest(t *testing.T) {
	l := leveled(1, 2, 3, 4, 5, 6, 7, 8)
	all := []int{999, 998, 997, 996, 995, 994, 993, 992}
	for i, topic := range all {
		wantFind(t, l, topic, i)
		wantParent(t, l, i, i-1)
		wantEnd(t, l, i, 8)
		wantShown(t, l, all[:i], []int{0, 1, 2, 3, 4, 5, 6, 7}[:i+1]...)
	}
	wantWays(t, l, 999, 998, none, none, 999)
	wantWays(t, l, 995, 994, 996, 996, all[:5]...)
	wantWays(t, l, 992, none, 993, 993, all...)
	wantKids(t, l, 7)
	wantKids(t, l, 6, 7)
}

func TestTopicsOfEntries(t *testing.T) {
	l := contents(9, 1, 3, 2, 0, 3, 6, 3, 1, 2, 8, 1, 999, 2, 4, 1)
	wantWays(t, l, 9, 3, none, none, 9) // the first one
	wantWays(t, l, 3, 0, 9, 9, 9, 3)
	wantWays(t, l, 0, 6, 3, 3, 9, 3, 0)
	wantWays(t, l, 6, 1, 0, 3, 9, 3, 6)
	wantWays(t, l, 1, 8, 6, 9, 9, 1)
	wantWays(t, l, 8, 999, 1, none, 8)
	wantWays(t, l, 999, 4, 8, 8, 8, 999)
	wantWays(t, l, 4, none, 999, none, 4) // the last one
	for i, topic := range []int{9, 3, 0, 6, 1, 8, 999, 4} {
		wantFind(t, l, topic, i)
	}
	for _, topic := range []int{2, 5, 7, 10, 998, -1, -9, api.MaxTopics, math.MaxInt, math.MinInt} {
		wantNoEntry(t, l, topic)
	}
}

func TestWaysOfLastEntries(t *testing.T) {
	for level := 1; level <= api.MaxLevel; level++ { // a last one of each Level
		l := leveled([]int{1, 2, 3, 4, 5, 6, 7, 8}[:level]...)
		topic := api.MaxTopics - level
		up := topic + 1
		if level == 1 {
			up = none
		}
		var path []int
		for _, e := range l {
			path = append(path, e.Topic)
		}
		prev := up
		wantWays(t, l, topic, none, prev, up, path...)
	}
}

func TestMostEntries(t *testing.T) {
	l := long(api.MaxTopics)
	wantWays(t, l, 999, 998, none, none, 999)
	wantWays(t, l, 0, none, 1, 1, 7, 6, 5, 4, 3, 2, 1, 0)
	wantEnd(t, l, 992, 1000)
	wantFind(t, l, 0, 999)
	var tops, all, topics []int
	for i, e := range l {
		if e.Level == 1 {
			tops = append(tops, i)
		}
		all, topics = append(all, i), append(topics, e.Topic)
	}
	wantKids(t, l, -1, tops...)
	wantShown(t, l, nil, tops...)
	wantShown(t, l, topics, all...)
}

// What is shown

func TestShown(t *testing.T) {
	l := leveled(1, 2, 3, 3, 2, 1, 2, 3, 1) // 999 to 991
	wantShown(t, l, nil, 0, 5, 8)
	wantShown(t, l, []int{}, 0, 5, 8)
	wantShown(t, l, []int{999}, 0, 1, 4, 5, 8)
	wantShown(t, l, []int{994}, 0, 5, 6, 8)
	wantShown(t, l, []int{991}, 0, 5, 8)                    // nothing stands below it
	wantShown(t, l, []int{998}, 0, 5, 8)                    // in a fold
	wantShown(t, l, []int{998, 993}, 0, 5, 8)               // both
	wantShown(t, l, []int{998, 994}, 0, 5, 6, 8)            // one of them
	wantShown(t, l, []int{998, 999}, 0, 1, 2, 3, 4, 5, 8)   // in whatever order
	wantShown(t, l, []int{999, 998}, 0, 1, 2, 3, 4, 5, 8)   // they stand
	wantShown(t, l, []int{993, 994}, 0, 5, 6, 7, 8)         // the other one
	wantShown(t, l, []int{999, 993}, 0, 1, 4, 5, 8)         // what is in a fold stays there
	wantShown(t, l, []int{999, 997, 995}, 0, 1, 4, 5, 8)    // what has nothing below it
	wantShown(t, l, []int{994, 994, 994}, 0, 5, 6, 8)       // twice
	wantShown(t, l, []int{0, 1, 2, 3, 4, 5, 6, 7}, 0, 5, 8) // entries' numbers are no topics
	wantShown(t, l, []int{-1, 0, 500, 994, api.MaxTopics, math.MaxInt, math.MinInt}, 0, 5, 6, 8)
	wantShown(t, l, []int{-1, 990, 1 << 40}, 0, 5, 8)
	all := []int{991, 992, 993, 994, 995, 996, 997, 998, 999}
	wantShown(t, l, all, 0, 1, 2, 3, 4, 5, 6, 7, 8)
	wantShown(t, l, slices.Repeat(all, 1000), 0, 1, 2, 3, 4, 5, 6, 7, 8)
	wantShown(t, leveled(1, 2, 3, 4, 5), []int{999, 997, 996}, 0, 1) // a gap in the way down
	wantShown(t, leveled(1, 2, 3, 4, 5), []int{998, 997, 996}, 0)
	wantShown(t, leveled(1, 1, 1), []int{998}, 0, 1, 2)
}

// Lists that may not be

func TestListsThatMayNotBe(t *testing.T) {
	for _, c := range []struct {
		l []api.TocEntry
		e api.Errno
	}{
		{long(api.MaxTopics + 1), api.ErrLong},
		{make([]api.TocEntry, 5000), api.ErrLong},
		{contents(-1, 1), api.ErrRange},
		{contents(0, 1, api.MaxTopics, 1), api.ErrRange},
		{contents(0, 1, 1, 2, math.MaxInt, 9), api.ErrRange},
		{contents(5, 0), api.ErrLevel},
		{contents(5, 2), api.ErrLevel},
		{contents(5, 1, 0, 3), api.ErrLevel},
		{contents(5, 1, 0, 2, 5, 4), api.ErrLevel},
		{contents(5, 1, 0, -1), api.ErrLevel},
		{contents(5, 1, 0, math.MinInt, 1, math.MaxInt), api.ErrLevel},
		{leveled(1, 2, 3, 4, 5, 6, 7, 8, 9), api.ErrLevel},
		{contents(5, 1, 5, 1), api.ErrTocTwice},
		{contents(5, 1, 0, 2, 1, 3, 0, 1, -1, 1), api.ErrTocTwice},
	} {
		for _, n := range numbers() { // ahead of what is wrong with the number
			wantNumberCalls(t, c.l, n, c.e, c.e)
			wantTopicCalls(t, c.l, n, c.e)
		}
		for _, open := range [][]int{nil, {0}, {5, 0, 1}, {-1}} {
			if l, e := toc.Shown(c.l, open); len(l) != 0 || e != c.e {
				t.Errorf("Shown: %v, %d, want %d", l, e, c.e)
			}
		}
	}
}
