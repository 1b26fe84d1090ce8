package keyword_test

import (
	"math"
	"slices"
	"strconv"
	"testing"

	"folio/api"
	"folio/keyword"
)

// P9.3

func wantCheck(t *testing.T, l []api.Entry, topics int, at int, e api.Errno) {
	t.Helper()
	if gotAt, got := keyword.Check(l, topics); gotAt != at || got != e {
		t.Errorf("Check for %d topics: %d, %d, want %d, %d%s", topics, gotAt, got, at, e, shown(l))
	}
}

func zero() []int { return []int{0} }

// good answers an index for three topics, of memory of its own.
func good() []api.Entry {
	return []api.Entry{
		entry("Ant", "", []int{0, 2}),
		entry("Ant", "b", []int{1}),
		entry("Ant", "C", zero()),
		entry("bee", "", []int{2}, "ANT", "cat"),
		entry("cat", "", nil, "ant"),
		entry("dog", "x", []int{0, 1, 2}),
	}
}

// changed answers the good one with another entry at a place.
func changed(at int, e api.Entry) []api.Entry {
	l := good()
	l[at] = e
	return l
}

func TestCheckOfGoodLists(t *testing.T) {
	for _, topics := range []int{3, 4, api.MaxTopics, api.MaxTopics + 1, math.MaxInt} {
		wantCheck(t, good(), topics, 0, api.OK)
	}
	for _, topics := range []int{math.MinInt, -1, 0, 1, 3, api.MaxTopics, math.MaxInt} {
		wantCheck(t, nil, topics, 0, api.OK)
		wantCheck(t, []api.Entry{}, topics, 0, api.OK)
	}
	wantCheck(t, []api.Entry{entry("a", "", zero())}, 1, 0, api.OK)
	wantCheck(t, []api.Entry{entry("a", "s", zero())}, 1, 0, api.OK)
	wantCheck(t, []api.Entry{entry("a", "", nil, "b"), entry("b", "", zero())}, 1, 0, api.OK)
	wantCheck(t, []api.Entry{entry("a", "", zero(), "B ", "c"), entry("b", "s", zero()), entry("c", "", nil, "b")}, 1, 0, api.OK)
	for _, s := range goodTexts() {
		wantCheck(t, []api.Entry{entry(s, "", zero())}, 1, 0, api.OK)
		wantCheck(t, []api.Entry{entry(s, s, zero())}, 1, 0, api.OK)
		wantCheck(t, []api.Entry{entry(s, "", zero()), entry("\U0010ffff", "", nil, s)}, 1, 0, api.OK)
	}
}

func TestCheckHowManyEntries(t *testing.T) {
	l := built(t, []api.Source{source(keys(api.MaxEntries, 64)...)})
	wantOK(t, l, api.MaxTopics)
	for _, last := range []api.Entry{entry("z", "", zero()), {}, entry("\xff", " ", nil), l[0]} {
		wantTooMany(t, append(slices.Clone(l), last))
		wantTooMany(t, append([]api.Entry{last}, l...))
	}
	wantTooMany(t, make([]api.Entry, api.MaxEntries+1))
	wantTooMany(t, make([]api.Entry, 100000))
	wantOK(t, append(l, api.Entry{})[:api.MaxEntries], api.MaxTopics)
}

// wantOK and wantTooMany don't show the whole list.
func wantOK(t *testing.T, l []api.Entry, topics int) {
	t.Helper()
	if at, e := keyword.Check(l, topics); at != 0 || e != api.OK {
		t.Errorf("Check of %d entries: %d, %d", len(l), at, e)
	}
}

func wantTooMany(t *testing.T, l []api.Entry) {
	t.Helper()
	for _, topics := range []int{0, 1000, -1, math.MaxInt} {
		if at, e := keyword.Check(l, topics); at != 0 || e != api.ErrLong {
			t.Errorf("Check of %d entries: %d, %d", len(l), at, e)
		}
	}
}

func TestCheckTerms(t *testing.T) {
	for _, s := range append(badTexts(), "") {
		wantCheck(t, changed(3, entry(s, "", []int{2})), 3, 3, api.ErrTerm)
		wantCheck(t, changed(3, entry(s, "sub", []int{2})), 3, 3, api.ErrTerm)
		wantCheck(t, changed(3, entry("bee", "", []int{2}, s)), 3, 3, api.ErrTerm)
		wantCheck(t, changed(3, entry("bee", "", []int{2}, "ant", s)), 3, 3, api.ErrTerm)
		wantCheck(t, changed(3, entry("bee", "", []int{2}, s, "cat")), 3, 3, api.ErrTerm)
		wantCheck(t, changed(3, entry("bee", "s", []int{2}, s)), 3, 3, api.ErrTerm)
		wantCheck(t, []api.Entry{entry(s, "", zero())}, 1, 0, api.ErrTerm)
		if s != "" {
			wantCheck(t, changed(5, entry("dog", s, zero())), 3, 5, api.ErrTerm)
			wantCheck(t, []api.Entry{entry("a", s, zero())}, 1, 0, api.ErrTerm)
		}
	}
}

func TestCheckTopics(t *testing.T) {
	for _, bad := range [][]int{
		{-1}, {3}, {math.MinInt}, {math.MaxInt}, {0, 3}, {-1, 0}, {0, 1, 2, 3}, {1, 0}, {0, 0}, {2, 1, 0}, {0, 2, 1}, {0, 1, 1}, {2, 2}, {0, math.MaxInt}, {math.MaxInt, math.MinInt},
	} {
		wantCheck(t, changed(0, entry("Ant", "", bad)), 3, 0, api.ErrRange)
		wantCheck(t, changed(2, entry("Ant", "C", bad)), 3, 2, api.ErrRange)
		wantCheck(t, changed(4, entry("cat", "", bad, "ant")), 3, 4, api.ErrRange)
		wantCheck(t, changed(5, entry("dog", "x", bad)), 3, 5, api.ErrRange)
	}
	for _, topics := range []int{2, 1, 0, -1, math.MinInt} {
		wantCheck(t, good(), topics, 0, api.ErrRange)
	}
	wantCheck(t, good()[1:], 2, 2, api.ErrRange)
	wantCheck(t, []api.Entry{entry("a", "", []int{999})}, 1000, 0, api.OK)
	wantCheck(t, []api.Entry{entry("a", "", []int{1000})}, 1000, 0, api.ErrRange)
	wantCheck(t, []api.Entry{entry("a", "", []int{math.MaxInt})}, math.MaxInt, 0, api.ErrRange)
	wantCheck(t, []api.Entry{entry("a", "", []int{math.MaxInt - 1})}, math.MaxInt, 0, api.OK)
}

func TestCheckWhatAnEntryHas(t *testing.T) {
	wantCheck(t, changed(3, entry("bee", "", nil)), 3, 3, api.ErrRange) // neither Topics nor Sees
	wantCheck(t, changed(3, entry("bee", "s", []int{})), 3, 3, api.ErrRange)
	wantCheck(t, []api.Entry{{Term: "a"}}, 1, 0, api.ErrRange)
	wantCheck(t, changed(3, entry("bee", "s", []int{2}, "cat")), 3, 3, api.ErrRange) // Sees with a Sub
	wantCheck(t, changed(5, entry("dog", "x", nil, "cat")), 3, 5, api.ErrRange)
}

func TestCheckOrderOfSees(t *testing.T) {
	for _, bad := range [][]string{
		{"cat", "ant"}, {"ant", "ant"}, {"Ant", "ant"}, {"ant", "Ant "}, {"ant", "cat", "ant"}, {"ant", "cat", "cat"}, {"cat", "dog", "ant"}, {" dog", "cat"}, {"dog", "CAT"}, {"x10", "x9"},
	} {
		wantCheck(t, changed(3, entry("bee", "", []int{2}, bad...)), 3, 3, api.ErrRange)
		wantCheck(t, changed(3, entry("bee", "", nil, bad...)), 3, 3, api.ErrRange)
	}
	for _, fine := range [][]string{{"ant", "Cat"}, {"Ant", "cat"}, {"ANT", " cat "}, {"ant", "CAT", "dog"}, {"  ant", "dog"}} {
		wantCheck(t, changed(3, entry("bee", "", []int{2}, fine...)), 3, 0, api.OK)
	}
}

func TestCheckOrderOfEntries(t *testing.T) {
	form := func(at int, l ...api.Entry) {
		t.Helper()
		wantCheck(t, l, 1, at, api.ErrForm)
	}
	form(1, entry("b", "", zero()), entry("a", "", zero()))
	form(1, entry("a", "", zero()), entry("a", "", zero()))
	form(1, entry("a", "s", zero()), entry("a", "s", zero()))
	form(1, entry("a", "s", zero()), entry("a", " S", zero())) // by Folds
	form(1, entry("a", "s", zero()), entry("a", "", zero()))
	form(1, entry("a", "t", zero()), entry("a", "S", zero()))
	form(1, entry("a", "x10", zero()), entry("a", "x9", zero()))
	form(1, entry("b", "", zero()), entry("A", "z", zero()))
	form(2, entry("a", "", zero()), entry("c", "", zero()), entry("b", "", zero()))
	form(2, entry("a", "", zero()), entry("b", "", zero()), entry("a", "s", zero()))
	form(1, entry("é", "", zero()), entry("e", "", zero()))
	form(1, entry("1", "", zero()), entry("-", "", zero()))
	// A Term that is written in another way than ahead.
	form(1, entry("a", "", zero()), entry("A", "s", zero()))
	form(1, entry("a", "", zero()), entry("a ", "s", zero()))
	form(2, entry("A", "", zero()), entry("A", "s", zero()), entry("a", "t", zero()))
	form(1, entry("a", "", zero()), entry("A", "", zero()))
	form(1, entry("x  y", "s", zero()), entry("x y", "t", zero()))
	wantCheck(t, []api.Entry{entry("a", "S", zero()), entry("b", "s", zero())}, 1, 0, api.OK) // a Sub may be under another Term
	wantCheck(t, []api.Entry{entry("B", "", zero()), entry("c", "", zero())}, 1, 0, api.OK)
	wantCheck(t, []api.Entry{entry("b", "", zero()), entry(" C", "", zero())}, 1, 0, api.OK)
	wantCheck(t, []api.Entry{entry("x9", "", zero()), entry("X10", "", zero())}, 1, 0, api.OK)
	wantCheck(t, []api.Entry{entry("b", "z", zero()), entry("c", "a", zero())}, 1, 0, api.OK)
}

func TestCheckSees(t *testing.T) {
	wantCheck(t, changed(3, entry("bee", "", nil, "none")), 3, 3, api.ErrSeeNone)
	wantCheck(t, changed(3, entry("bee", "", nil, "ant", "cat", "do")), 3, 3, api.ErrSeeNone)
	wantCheck(t, changed(3, entry("bee", "", nil, "x")), 3, 3, api.ErrSeeNone) // a Sub is no Term
	wantCheck(t, changed(3, entry("bee", "", nil, " DOG ")), 3, 0, api.OK)
	wantCheck(t, changed(3, entry("bee", "", nil, "Bee")), 3, 3, api.ErrSeeRing)
	wantCheck(t, changed(4, entry("cat", "", nil, "bee")), 3, 3, api.ErrSeeRing) // bee leads to cat
	wantCheck(t, changed(0, entry("Ant", "", nil, "bee")), 3, 0, api.ErrSeeRing)
	wantCheck(t, changed(0, entry("Ant", "", nil, "Cat")), 3, 0, api.ErrSeeRing)
	l := []api.Entry{entry("a", "", nil, "b"), entry("b", "", nil, "c"), entry("c", "", nil, "d"), entry("d", "", nil, "c")}
	wantCheck(t, l, 0, 2, api.ErrSeeRing) // a and b lead to the ring alone
	l[3].Sees = []string{"none"}
	wantCheck(t, l, 0, 3, api.ErrSeeNone)
	l[1].Sees = []string{"a", "none"}
	wantCheck(t, l, 0, 0, api.ErrSeeRing)
	l[0] = entry("a", "", nil, "all", "b")
	wantCheck(t, l, 0, 0, api.ErrSeeNone) // by its Sees in order
	l[0] = entry("a", "", nil, "b", "none")
	wantCheck(t, l, 0, 0, api.ErrSeeRing)
	l[1] = entry("b", "", nil, "c", "none")
	wantCheck(t, l, 0, 0, api.ErrSeeNone)
	l[0] = entry("a", "", zero())
	l[3] = entry("d", "", nil, "d")
	wantCheck(t, l, 1, 1, api.ErrSeeNone)
	l[1].Sees = l[1].Sees[:1]
	wantCheck(t, l, 1, 3, api.ErrSeeRing)
}

// TestCheckTheFirst puts faults side by side in one entry, in two, and in those that Sees lead to.
func TestCheckTheFirst(t *testing.T) {
	wantCheck(t, changed(1, entry("\xff", "", []int{9})), 3, 1, api.ErrTerm) // of one entry: ErrTerm, ErrRange, ErrForm
	wantCheck(t, changed(1, entry("Ant", " ", nil, "x")), 3, 1, api.ErrTerm)
	wantCheck(t, changed(1, entry("ant", "", []int{9}, "none")), 3, 1, api.ErrRange)
	wantCheck(t, changed(1, entry("aa", "", nil)), 3, 1, api.ErrRange)
	wantCheck(t, changed(1, entry("aa", "", nil, "none")), 3, 1, api.ErrForm)
	wantCheck(t, changed(3, entry("bee", "", nil, "Z", "\xff")), 3, 3, api.ErrTerm)
	bad := []struct {
		e    api.Entry
		code api.Errno
	}{{entry("\xff", "", zero()), api.ErrTerm}, {entry("b", "", nil), api.ErrRange}, {entry("A", "", zero()), api.ErrForm}}
	for _, x := range bad { // of two entries: the first one
		for _, y := range bad {
			wantCheck(t, []api.Entry{entry("a", "", zero()), x.e, y.e}, 1, 1, x.code)
			wantCheck(t, []api.Entry{entry("a", "", zero(), "a", "none"), x.e, y.e}, 1, 1, x.code) // all ahead of where Sees lead
			wantCheck(t, []api.Entry{entry("a", "", zero(), "none"), entry("b", "", nil, "c"), entry("c", "", nil, "b"), y.e}, 1, 3, y.code)
		}
	}
}

func TestCheckOfLongRings(t *testing.T) {
	var l []api.Entry
	for i := range api.MaxEntries {
		l = append(l, entry("t"+strconv.Itoa(i), "", nil, "t"+strconv.Itoa(i+1)))
	}
	last := api.MaxEntries - 1
	for to, want := range map[string]api.Errno{"t0": api.ErrSeeRing, "none": api.ErrSeeNone, "t10000": api.ErrSeeNone} {
		l[last].Sees = []string{to}
		at, e := keyword.Check(l, 0)
		place := last
		if want == api.ErrSeeRing {
			place = 0
		}
		if at != place || e != want {
			t.Errorf("with a last one that leads to %s: %d, %d", to, at, e)
		}
	}
	l[last] = entry(l[last].Term, "", zero())
	wantOK(t, l, 1)
	l[5000].Sees = []string{"t4999"}
	if at, e := keyword.Check(l, 1); at != 4999 || e != api.ErrSeeRing {
		t.Errorf("%d, %d", at, e)
	}
}
