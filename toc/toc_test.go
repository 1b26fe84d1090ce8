package toc_test

import (
	"errors"
	"math"
	"slices"
	"testing"

	"folio/api"
	"folio/fault"
	"folio/toc"
)

// P10.1, P10.2

func topic(name string, level, line int) api.Topic {
	return api.Topic{Name: name, Level: level, Line: line}
}

func source(l ...api.Topic) api.Source { return api.Source{Topics: l} }

// topics answers some of these Levels, with names and lines that tell their places.
func topics(levels ...int) []api.Topic {
	var l []api.Topic
	for n, level := range levels {
		l = append(l, topic("topic "+string(rune('a'+n%26)), level, 10+n))
	}
	return l
}

// contents answers entries: topic, Level, topic, Level, ...
func contents(l ...int) []api.TocEntry {
	var t []api.TocEntry
	for ; len(l) > 1; l = l[2:] {
		t = append(t, api.TocEntry{Topic: l[0], Level: l[1]})
	}
	return t
}

func wantTree(t *testing.T, sources []api.Source, want ...api.TocEntry) {
	t.Helper()
	if got, err := toc.Tree(sources); err != nil || !slices.Equal(got, want) {
		t.Errorf("Tree: %v, %v, want %v", got, err, want)
	}
}

func wantFault(t *testing.T, sources []api.Source, f api.Fault) {
	t.Helper()
	l, err := toc.Tree(sources)
	if len(l) != 0 {
		t.Errorf("Tree with a fault tells %d entries", len(l))
	}
	all := fault.All(err)
	if len(all) != 1 || len(all[0].Trail) != 0 {
		t.Errorf("Tree tells %d faults, want %d alone", len(all), f.Code)
		return
	}
	got := all[0]
	if got.Code != f.Code || got.Source != f.Source || got.Line != f.Line || got.Col != f.Col || got.Word != f.Word {
		t.Errorf("Tree: %d at %d:%d:%d %.80q, want %d at %d:%d:%d %.80q", got.Code, got.Source, got.Line, got.Col, got.Word, f.Code, f.Source, f.Line, f.Col, f.Word)
	}
	var e *fault.Error
	if !errors.As(err, &e) || !errors.Is(err, fault.Code(f.Code)) || !fault.Is(err, f.Code) {
		t.Errorf("%v is no error of ours", err)
	}
}

// wantLevelFault asks for the fault at a topic of these.
func wantLevelFault(t *testing.T, sources []api.Source, source, at int) {
	t.Helper()
	bad := sources[source].Topics[at]
	wantFault(t, sources, api.Fault{Code: api.ErrLevel, Source: source, Line: bad.Line, Col: 1, Word: bad.Name})
}

func wantCheck(t *testing.T, l []api.TocEntry, topics, at int, e api.Errno) {
	t.Helper()
	if got, gotE := toc.Check(l, topics); got != at || gotE != e {
		t.Errorf("Check of %v with %d topics: %d, %d, want %d, %d", l[:min(len(l), 20)], topics, got, gotE, at, e)
	}
}

// Trees

func TestTreeOfNone(t *testing.T) {
	wantTree(t, nil)
	wantTree(t, []api.Source{})
	wantTree(t, make([]api.Source, api.MaxSources))
	wantTree(t, make([]api.Source, 10*api.MaxSources)) // how many sources there may be is others' matter
	wantTree(t, []api.Source{{Topics: []api.Topic{}}, {Styles: []api.StyleDef{{Text: "a"}}}})
}

func TestTreeOfTopicsWithoutLevels(t *testing.T) {
	wantTree(t, []api.Source{source(topic("a", 0, 1))})
	wantTree(t, []api.Source{source(topics(0, 0)...), {}, source(topics(0, 0, 0)...)})
	wantTree(t, []api.Source{source(make([]api.Topic, api.MaxTopics)...)})
}

func TestTreeNumbersTopics(t *testing.T) {
	wantTree(t, []api.Source{source(topics(1)...)}, contents(0, 1)...)
	wantTree(t, []api.Source{source(topics(0, 0, 1)...)}, contents(2, 1)...)
	wantTree(t, []api.Source{
		source(topics(0, 1, 0)...),
		{},
		source(topics(0)...),
		source(topics(2, 0, 0, 3, 1)...),
		source(topics(0, 0)...),
		source(topics(2)...),
	}, contents(1, 1, 4, 2, 7, 3, 8, 1, 11, 2)...)
	note := topic("n", 1, 3) // a note is a topic in numbers, and with a Level an entry
	note.Kind = api.KindNote
	plain := note
	plain.Level = 0
	wantTree(t, []api.Source{source(plain, note, topic("a", 2, 5))}, contents(1, 1, 2, 2)...)
	wantTree(t, []api.Source{source(topic("same", 1, 1), topic("same", 1, 1))}, contents(0, 1, 1, 1)...) // names are others' matter
	wantTree(t, []api.Source{source(topic("", 1, -3), topic("\xff", 2, math.MaxInt))}, contents(0, 1, 1, 2)...)
}

func goodLevels() [][]int {
	return [][]int{
		{1}, {1, 1}, {1, 2}, {1, 1, 1, 1}, {1, 2, 2, 2}, {1, 2, 1, 2, 1}, {1, 2, 3, 2, 1}, {1, 2, 3, 1}, {1, 2, 3, 3, 1, 1, 2},
		{1, 2, 3, 4, 5, 6, 7, 8}, {1, 2, 3, 4, 5, 6, 7, 8, 8, 1}, {1, 2, 3, 4, 5, 6, 7, 8, 7, 8}, {1, 2, 3, 4, 5, 6, 7, 8, 3, 4, 2},
		{0, 1}, {1, 0}, {0, 0, 1, 0, 0, 2, 0, 3, 0, 1, 0}, {1, 0, 2, 0, 0, 1, 0, 2},
	}
}

func TestTreeOfGoodLevels(t *testing.T) {
	for _, levels := range goodLevels() {
		var want []api.TocEntry
		for n, level := range levels {
			if level != 0 {
				want = append(want, api.TocEntry{Topic: n, Level: level})
			}
		}
		l := topics(levels...)
		for cut := range len(l) + 1 { // a Level goes by the topic ahead, in whatever source that stands
			wantTree(t, []api.Source{source(l[:cut]...), {}, source(l[cut:]...)}, want...)
		}
	}
}

// A badLevel is the last one of a list whose others are good.
func badLevels() [][]int {
	return [][]int{
		{2}, {3}, {8}, {9}, {10}, {math.MaxInt}, {-1}, {-8}, {math.MinInt}, // as the first
		{0, 2}, {0, 0, 8}, {0, -1}, {0, 9},
		{1, 3}, {1, 8}, {1, 9}, {1, math.MaxInt}, {1, -1}, {1, math.MinInt}, {1, 2, 4}, {1, 2, 3, 5}, {1, 1, 3}, {1, 2, 1, 3}, {1, 2, 3, 1, 3}, {1, 2, 3, 2, 4},
		{1, 0, 3}, {1, 2, 0, 0, 4}, {1, 0, -1}, {1, 2, 0, 1, 0, 3},
		{1, 2, 3, 4, 5, 6, 7, 8, 9}, {1, 2, 3, 4, 5, 6, 7, 9}, {1, 2, 3, 4, 5, 6, 7, 8, -1}, {1, 2, 3, 4, 5, 6, 8}, {1, 2, 3, 4, 5, 6, 7, 8, 1, 8},
	}
}

func TestTreeOfBadLevels(t *testing.T) {
	for _, levels := range badLevels() {
		l := topics(levels...)
		last := len(l) - 1
		wantLevelFault(t, []api.Source{source(l...)}, 0, last)
		wantLevelFault(t, []api.Source{source(append(slices.Clone(l), topics(1, 2, 0)...)...)}, 0, last)
		for cut := range len(l) {
			wantLevelFault(t, []api.Source{{}, source(l[:cut]...), {}, source(l[cut:]...), source(topics(1)...)}, 3, last-cut)
		}
	}
}

func TestTreeTellsTheFirstFault(t *testing.T) {
	for _, levels := range [][]int{{1, 2, 4, 6}, {1, 1, 3, -1}, {1, 2, -1, 9}, {0, 1, 9, 2}, {1, 2, 9, 9}} {
		l := topics(levels...)
		wantLevelFault(t, []api.Source{source(l...)}, 0, 2)
		wantLevelFault(t, []api.Source{source(l[:3]...), source(l[3:]...)}, 0, 2)
		wantLevelFault(t, []api.Source{source(l[:2]...), source(l[2:]...)}, 1, 0)
		wantLevelFault(t, []api.Source{source(l[:2]...), source(l[2:3]...), source(l[3:]...)}, 1, 0)
	}
	// Each alone would be told.
	l := topics(1, 3, 1, 9)
	wantLevelFault(t, []api.Source{source(l...)}, 0, 1)
	l[1].Level = 2
	wantLevelFault(t, []api.Source{source(l...)}, 0, 3)
}

func TestPlacesOfFaults(t *testing.T) {
	for _, line := range []int{0, 1, -1, 5, math.MaxInt, math.MinInt} { // as they are given
		for _, name := range []string{"", "x", "My  Topic ", "é", "\xff", "a\nb"} {
			wantFault(t, []api.Source{source(topic(name, 2, line))}, api.Fault{Code: api.ErrLevel, Line: line, Col: 1, Word: name})
			wantFault(t, []api.Source{{}, source(topic("y", 1, 3)), source(topic("z", 0, 4), topic(name, 3, line))}, api.Fault{Code: api.ErrLevel, Source: 2, Line: line, Col: 1, Word: name})
		}
	}
	note := topic("n", 2, 7)
	note.Kind, note.Title = api.KindNote, "Note"
	wantFault(t, []api.Source{source(note)}, api.Fault{Code: api.ErrLevel, Line: 7, Col: 1, Word: "n"})
	far := make([]api.Source, 100)
	far[99] = source(topic("x", -1, 2))
	wantFault(t, far, api.Fault{Code: api.ErrLevel, Source: 99, Line: 2, Col: 1, Word: "x"})
}

func TestHowManyTopics(t *testing.T) {
	for _, level := range []int{0, 1} { // those without a Level count, too
		most := make([]api.Topic, api.MaxTopics)
		var want []api.TocEntry
		for n := range most {
			most[n].Level = level
			if level != 0 {
				want = append(want, api.TocEntry{Topic: n, Level: level})
			}
		}
		long := api.Fault{Code: api.ErrLong}
		for _, l := range [][]api.Source{
			{source(most...)}, {source(most[:1]...), {}, source(most[1:]...)}, {source(most[:500]...), source(most[500:]...)},
		} {
			wantTree(t, l, want...)
			wantFault(t, append(slices.Clone(l), source(topic("a", 0, 1))), long)
			wantFault(t, append(slices.Clone(l), source(topic("a", 1, 1))), long)
			wantFault(t, append(slices.Clone(l), source(topic("a", 9, 1))), long)
			wantFault(t, append([]api.Source{source(topic("a", 2, 1))}, l...), long) // ahead of what else is wrong
		}
	}
	last := make([]api.Topic, api.MaxTopics)
	last[999] = topic("a", 1, 1)
	wantTree(t, []api.Source{source(last...)}, contents(999, 1)...)
	last[999] = topic("a", 2, 8)
	wantLevelFault(t, []api.Source{source(last...)}, 0, 999)
	wantFault(t, []api.Source{source(make([]api.Topic, 100000)...)}, api.Fault{Code: api.ErrLong})
}

// Contents that may be, and that may not

func TestCheckOfNone(t *testing.T) {
	for _, topics := range []int{0, 1, -1, api.MaxTopics, api.MaxTopics + 1, math.MaxInt, math.MinInt} {
		wantCheck(t, nil, topics, 0, api.OK)
		wantCheck(t, []api.TocEntry{}, topics, 0, api.OK)
		wantCheck(t, contents(0, 1)[:0], topics, 0, api.OK)
	}
}

func TestCheckTopics(t *testing.T) {
	l := contents(4, 1, 0, 2, 2, 3, 7, 2, 1, 1)
	wantCheck(t, l, 8, 0, api.OK)
	wantCheck(t, l, math.MaxInt, 0, api.OK)
	wantCheck(t, l, 7, 3, api.ErrRange)
	wantCheck(t, l, 5, 3, api.ErrRange)
	for _, topics := range []int{4, 1, 0, -1, math.MinInt} {
		wantCheck(t, l, topics, 0, api.ErrRange)
	}
	for _, bad := range []int{-1, -2, math.MinInt, 8, 9, math.MaxInt} {
		for at := range l {
			m := slices.Clone(l)
			m[at].Topic = bad
			wantCheck(t, m, 8, at, api.ErrRange)
		}
	}
	wantCheck(t, contents(math.MaxInt-1, 1, 5000, 1), math.MaxInt, 0, api.OK) // as many topics as are said to be
	wantCheck(t, contents(math.MaxInt, 1), math.MaxInt, 0, api.ErrRange)
}

func TestCheckLevels(t *testing.T) {
	for _, levels := range goodLevels() {
		if !slices.Contains(levels, 0) {
			wantCheck(t, leveled(levels...), api.MaxTopics, 0, api.OK)
		}
	}
	for _, levels := range badLevels() {
		levels = slices.DeleteFunc(levels, func(level int) bool { return level == 0 })
		wantCheck(t, leveled(levels...), api.MaxTopics, len(levels)-1, api.ErrLevel)
		wantCheck(t, leveled(append(levels, 1, 2, 9)...), api.MaxTopics, len(levels)-1, api.ErrLevel)
	}
	wantCheck(t, leveled(0), api.MaxTopics, 0, api.ErrLevel) // no entry has the Level of those that are none
	wantCheck(t, leveled(1, 2, 0, 1), api.MaxTopics, 2, api.ErrLevel)
}

func TestCheckTopicsTwice(t *testing.T) {
	wantCheck(t, contents(3, 1, 3, 1), 4, 1, api.ErrTocTwice)
	wantCheck(t, contents(3, 1, 3, 2), 4, 1, api.ErrTocTwice)
	wantCheck(t, contents(0, 1, 1, 2, 2, 3, 0, 1), 4, 3, api.ErrTocTwice)
	wantCheck(t, contents(0, 1, 1, 2, 2, 3, 1, 3, 2, 1), 4, 3, api.ErrTocTwice)
	wantCheck(t, contents(0, 1, 1, 2, 2, 3, 2, 3, 0, 1), 4, 3, api.ErrTocTwice)
	for at := 1; at < api.MaxTopics; at++ {
		l := long(api.MaxTopics)
		l[at].Topic = l[at/2].Topic
		wantCheck(t, l, api.MaxTopics, at, api.ErrTocTwice)
	}
}

// TestCheckTellsTheFirst has two reasons in one list.
func TestCheckTellsTheFirst(t *testing.T) {
	// Of one entry the reason that is named first.
	wantCheck(t, contents(-1, 2), 5, 0, api.ErrRange)
	wantCheck(t, contents(0, 1, 5, 3), 5, 1, api.ErrRange)
	wantCheck(t, contents(0, 1, 0, 3), 5, 1, api.ErrLevel)
	wantCheck(t, contents(0, 1, 0, 0), 5, 1, api.ErrLevel)
	wantCheck(t, contents(0, 1, 7, 1, 7, 9), 8, 2, api.ErrLevel)
	wantCheck(t, contents(7, 1, 7, 9), 7, 0, api.ErrRange)
	// Of two entries the first one's.
	wantCheck(t, contents(0, 1, 0, 1, -1, 1), 5, 1, api.ErrTocTwice)
	wantCheck(t, contents(0, 1, 0, 1, 1, 4), 5, 1, api.ErrTocTwice)
	wantCheck(t, contents(0, 1, 1, 3, 5, 1), 5, 1, api.ErrLevel)
	wantCheck(t, contents(0, 1, 1, 3, 1, 1), 5, 1, api.ErrLevel)
	wantCheck(t, contents(0, 1, 5, 2, 1, 9), 5, 1, api.ErrRange)
	wantCheck(t, contents(0, 1, 5, 2, 0, 1), 5, 1, api.ErrRange)
}

func TestHowManyEntries(t *testing.T) {
	wantCheck(t, long(api.MaxTopics), api.MaxTopics, 0, api.OK)
	wantCheck(t, long(api.MaxTopics), api.MaxTopics-1, 0, api.ErrRange)
	for _, n := range []int{api.MaxTopics + 1, api.MaxTopics + 2, 100000} {
		for _, topics := range []int{n, math.MaxInt, 0, -1} { // ahead of what else is wrong
			wantCheck(t, long(n), topics, 0, api.ErrLong)
			wantCheck(t, make([]api.TocEntry, n), topics, 0, api.ErrLong)
		}
	}
}
