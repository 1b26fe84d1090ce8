package names_test

import (
	"math"
	"slices"
	"strings"
	"testing"

	"folio/api"
	"folio/names"
	"folio/text"
)

// made answers a table of names that New takes.
func made(t *testing.T, l ...string) *names.Table {
	t.Helper()
	x, at, e := names.New(l)
	if x == nil || at != 0 || e != api.OK {
		t.Fatalf("New(%.200q): %v, %d, %d", l, x, at, e)
	}
	return x
}

// nameless are tables without names.
func nameless(t *testing.T) map[string]*names.Table {
	return map[string]*names.Table{"nil": nil, "a new one": new(names.Table), "of nil": made(t), "of none": made(t, []string{}...)}
}

// P7.3

func wantNew(t *testing.T, l []string, at int, e api.Errno) {
	t.Helper()
	x, gotAt, got := names.New(l)
	if gotAt != at || got != e || (x != nil) != (e == api.OK) {
		t.Errorf("New(%.200q): %v, %d, %d, want %d, %d", l, x, gotAt, got, at, e)
	}
}

func TestNewTakes(t *testing.T) {
	for _, l := range [][]string{nil, {}, {"a"}, {longest()}, {"b", "a", "C", "Ä", "ä b"}, manyNames(api.MaxTopics)} {
		wantNew(t, l, 0, api.OK)
	}
	for _, p := range unlikes() {
		wantNew(t, p[:], 0, api.OK)
	}
}

func TestNewHowMany(t *testing.T) {
	wantNew(t, manyNames(api.MaxTopics+1), 0, api.ErrLong)
	wantNew(t, append([]string{"", "a", "a"}, manyNames(api.MaxTopics)...), 0, api.ErrLong) // ahead of the names
	wantNew(t, make([]string, 100000), 0, api.ErrLong)
	wantNew(t, manyNames(api.MaxTopics + 1)[:api.MaxTopics], 0, api.OK)
	wantNew(t, append(manyNames(api.MaxTopics-1), ""), api.MaxTopics-1, api.ErrName)
	wantNew(t, append(manyNames(api.MaxTopics-1), "NAME 0"), api.MaxTopics-1, api.ErrTwice)
}

func TestNewRefuses(t *testing.T) {
	for _, name := range badNames() {
		wantNew(t, []string{name}, 0, api.ErrName)
		wantNew(t, []string{"a", "b", name, "c"}, 2, api.ErrName)
	}
	for _, name := range longNames() {
		wantNew(t, []string{name}, 0, api.ErrLong)
		wantNew(t, []string{"a", name, "c"}, 1, api.ErrLong)
	}
	for _, p := range likes() {
		wantNew(t, p[:], 1, api.ErrTwice)
		wantNew(t, []string{"one", p[0], "two", p[1], "three"}, 3, api.ErrTwice)
	}
}

func TestNewFirst(t *testing.T) {
	long := longNames()[0]
	wantNew(t, []string{"a", "", long, "a"}, 1, api.ErrName)
	wantNew(t, []string{"a", long, "", "a"}, 1, api.ErrLong)
	wantNew(t, []string{"a", "A", "", long}, 1, api.ErrTwice)
	wantNew(t, []string{"a", "b", "b", "a"}, 2, api.ErrTwice)
	wantNew(t, []string{"\xff", "\xff"}, 0, api.ErrName)
}

// P7.4

func TestLenAndName(t *testing.T) {
	for _, l := range [][]string{{"a"}, {" Home ", "a  B", "Ä"}, manyNames(api.MaxTopics)} {
		x := made(t, l...)
		if x.Len() != len(l) {
			t.Errorf("Len of %d names: %d", len(l), x.Len())
		}
		for i, name := range l {
			if got, e := x.Name(i); got != name || e != api.OK {
				t.Errorf("Name(%d): %q, %d, want %q", i, got, e, name)
			}
		}
		for _, i := range []int{-1, -2, len(l), len(l) + 1, api.MaxTopics, math.MaxInt, math.MinInt} {
			if got, e := x.Name(i); got != "" || e != api.ErrRange {
				t.Errorf("Name(%d) of %d names: %q, %d", i, len(l), got, e)
			}
		}
	}
}

func wantFind(t *testing.T, x *names.Table, name string, i int, ok bool) {
	t.Helper()
	if got, gotOK := x.Find(name); got != i || gotOK != ok {
		t.Errorf("Find(%.80q): %d, %v, want %d, %v", name, got, gotOK, i, ok)
	}
}

func TestFind(t *testing.T) {
	x := made(t, "Home", "a  B", "Ä", "ЁЖ", longest())
	for i, l := range [][]string{
		{"Home", "home", "HOME", "hOmE", "  home  ", strings.Repeat(" ", 60) + "home"},
		{"a  B", "a b", "A B", " a     b "},
		{"Ä", "ä", " ä"},
		{"ЁЖ", "ёж", "Ёж"},
		{longest(), strings.ToUpper(longest())},
	} {
		for _, name := range l {
			wantFind(t, x, name, i, true)
		}
	}
	for _, name := range []string{"hom", "homes", "ho me", "ab", "a", "b", "A\u0308", "еж", longest()[1:], "home\u200b", "ho\u00a0me", "0", "-1"} {
		wantFind(t, x, name, 0, false)
	}
	for _, name := range slices.Concat(badNames(), longNames(), []string{"home\t", "\x00home", strings.Repeat(" ", 61) + "home", longest() + " "}) {
		wantFind(t, x, name, 0, false)
	}
}

func TestFindOfLikes(t *testing.T) {
	for _, p := range likes() {
		wantFind(t, made(t, "other", p[0]), p[1], 1, true)
		wantFind(t, made(t, "other", p[1]), p[0], 1, true)
	}
	for _, p := range unlikes() {
		x := made(t, "other", p[0])
		wantFind(t, x, p[0], 1, true)
		wantFind(t, x, p[1], 0, false)
	}
	l := manyNames(api.MaxTopics)
	x := made(t, l...)
	for i, name := range l {
		wantFind(t, x, " "+strings.ToUpper(name), i, true)
	}
	wantFind(t, x, "Name 1000", 0, false)
}

// P7.5

// eachOf answers what Each tells.
func eachOf(x *names.Table) ([]int, []string) {
	var numbers []int
	var l []string
	for i, name := range x.Each() {
		numbers, l = append(numbers, i), append(l, name)
	}
	return numbers, l
}

func wantSorted(t *testing.T, l []string, want ...int) {
	t.Helper()
	x := made(t, l...)
	if got := x.Sorted(); !slices.Equal(got, want) {
		t.Errorf("Sorted of %q: %v, want %v", l, got, want)
	}
	numbers, told := eachOf(x)
	if !slices.Equal(numbers, want) {
		t.Errorf("Each of %q: %v, want %v", l, numbers, want)
	}
	for k, i := range want {
		if told[k] != l[i] {
			t.Errorf("Each of %q tells %q with %d", l, told[k], i)
		}
	}
}

func TestSorted(t *testing.T) {
	wantSorted(t, nil)
	wantSorted(t, []string{"a"}, 0)
	wantSorted(t, []string{"b10", "b2", "A"}, 2, 1, 0)
	wantSorted(t, []string{"c", "b", "a"}, 2, 1, 0)
	wantSorted(t, []string{"z", "Ä", "ab", "-", "7", "A"}, 3, 4, 5, 1, 2, 0)
	wantSorted(t, []string{"ä", "a", "á"}, 1, 2, 0)
	wantSorted(t, []string{"a2", "a02", "a1", "a 3"}, 3, 2, 1, 0)
	wantSorted(t, []string{"b", " c", "a"}, 1, 2, 0) // as they were given: a blank is a sign
	wantSorted(t, []string{"x  y", "x z", "x y z"}, 0, 2, 1)
	wantSorted(t, []string{"Ab", "aa", "AC"}, 1, 0, 2)
}

func TestSortedOfTheMost(t *testing.T) {
	l := manyNames(api.MaxTopics)
	var want []int
	for i := range l {
		want = append(want, len(l)-1-i)
	}
	slices.Reverse(l)
	wantSorted(t, l, want...) // by their numbers' values
}

func TestEachIsLeftAndGoneOverAgain(t *testing.T) {
	x := made(t, "b10", "b2", "A", "c")
	each := x.Each()
	for stop := 1; stop <= 4; stop++ {
		var got []int
		for i := range each {
			got = append(got, i)
			if len(got) == stop {
				break
			}
		}
		if !slices.Equal(got, []int{2, 1, 0, 3}[:stop]) {
			t.Errorf("left behind %d: %v", stop, got)
		}
	}
	told := 0
	each(func(int, string) bool { told++; return false })
	if told != 1 {
		t.Errorf("told %d behind the first refusal", told-1)
	}
	for range 2 {
		var pairs []int
		for i := range each { // one within the other
			for j := range each {
				pairs = append(pairs, 10*i+j)
			}
		}
		if !slices.Equal(pairs, []int{22, 21, 20, 23, 12, 11, 10, 13, 2, 1, 0, 3, 32, 31, 30, 33}) {
			t.Errorf("gone over again: %v", pairs)
		}
	}
}

// P7.6, of tables

func wantPrefix(t *testing.T, x *names.Table, s string, want ...int) {
	t.Helper()
	if got := x.Prefix(s); !slices.Equal(got, want) {
		t.Errorf("Prefix(%.80q): %v, want %v", s, got, want)
	}
}

func TestPrefix(t *testing.T) {
	x := made(t, "Home", "Index", "Indices", " a  b", "A Ä", "äb", "é", longest())
	all := x.Sorted()
	for _, s := range []string{"", " ", "     ", strings.Repeat(" ", 70000)} {
		wantPrefix(t, x, s, all...)
	}
	wantPrefix(t, x, "ind", 1, 2)
	wantPrefix(t, x, "IND", 1, 2)
	wantPrefix(t, x, "  inD ", 1, 2)
	wantPrefix(t, x, "indi", 2)
	wantPrefix(t, x, "index", 1)
	wantPrefix(t, x, "home", 0)
	wantPrefix(t, x, "H", 0)
	wantPrefix(t, x, "a", 3, 4)
	wantPrefix(t, x, "a ", 3, 4) // a blank at the end falls away
	wantPrefix(t, x, "a b", 3)
	wantPrefix(t, x, "A    B", 3)
	wantPrefix(t, x, "a ä", 4)
	wantPrefix(t, x, "Ä", 5)
	wantPrefix(t, x, "É", 6)
	wantPrefix(t, x, "nnn", 7)
	wantPrefix(t, x, strings.Repeat("N", api.MaxName), 7)
	for _, s := range []string{"b", "ome", "indexes", "ab", "homes", "in d", "e", "zz", "\u00a0", "a\u00a0", "中", longest() + "n", strings.Repeat("n", 70000)} {
		wantPrefix(t, x, s)
	}
	for _, s := range []string{"\xff", "\xc3", "ind\xff", "ind\t", "\tind", "\x00", "\n", "\x7f", "i\u0085", "\u009f", "a \xe4\xb8", " \x1f "} {
		wantPrefix(t, x, s)
	}
	wantPrefix(t, x, strings.Repeat(" ", 100)+"ind"+strings.Repeat(" ", 100), 1, 2) // longer than a name
	wantPrefix(t, made(t, "b10", "b2", "B", "a"), "b", 2, 1, 0)
}

func wantNear(t *testing.T, x *names.Table, s string, want ...int) {
	t.Helper()
	if got := x.Near(s); !slices.Equal(got, want) {
		t.Errorf("Near(%.80q): %v, want %v", s, got, want)
	}
}

func TestNear(t *testing.T) {
	x := made(t, "Home", "Index", "Indices", "Äpfel und  Birnen")
	for s, want := range map[string][]int{
		"home":                   {0},
		" HOME ":                 {0},
		"hom":                    {0}, // one step
		"homes":                  {0},
		"hame":                   {0},
		"hoem":                   {0}, // two: no step exchanges two side by side
		"homely":                 {0},
		"ho":                     {0},
		"gnome":                  {0},
		"h":                      {0}, // three
		"e":                      {0},
		"h o m e":                {0},
		"homeless":               nil, // four
		"x":                      nil,
		"zzzzzz":                 nil,
		"indexes":                {1, 2},
		"indes":                  {1},
		"indic":                  {1, 2}, // two each
		"indice":                 {2},
		"INDICES":                {2},
		"apfel und birnen":       {3}, // one step, though it is two bytes
		"apfel und birne":        {3},
		"apfel  und   birne":     {3},
		"pfelundbirnen":          {3},
		"pfelundbirne":           nil,
		"\u00e4pfel oder birnen": nil,
	} {
		wantNear(t, x, s, want...)
	}
	for _, s := range slices.Concat(badNames(), longNames(), []string{"home\xff", "home\t"}) {
		wantNear(t, x, s)
	}
}

func TestNearBySteps(t *testing.T) {
	x := made(t, "abcdefgh", "zzzzzzzzzzzzzzz")
	for s, steps := range map[string]int{
		"abcdefgh": 0, "abcdefg": 1, "abcdefghi": 1, "abcxefgh": 1, "bcdefg": 2, "abcfgh": 2, "bacdefgh": 2, "abc": 5, "cdefghab": 4,
		"abcde": 3, "xyabcdefghz": 3, "xbcxefgx": 3, "abcd": 4, "xbcxefxx": 4, "wxyzabcdefgh": 4,
	} {
		if got := names.Apart("abcdefgh", s); got != steps {
			t.Errorf("Apart of %q: %d, want %d", s, got, steps)
		}
		if steps <= 3 {
			wantNear(t, x, s, 0)
		} else {
			wantNear(t, x, s)
		}
	}
}

func TestNearIsTheNearest(t *testing.T) {
	x := made(t, "cat9", "Cut", "cat", "coat", "at", "bat", "cats", "dog")
	wantNear(t, x, "cat", 2) // found: alone, though many are but one step away
	wantNear(t, x, "caat", 2, 3)
	wantNear(t, x, "cit", 2, 1)
	wantNear(t, x, "ct", 4, 2, 1)
	wantNear(t, x, "rat", 4, 5, 2)
	wantNear(t, x, "cat8", 2, 0, 6)
	wantNear(t, x, "do", 7)
	wantNear(t, x, "d", 4, 7) // two each
	wantNear(t, x, "b", 4, 5)
	wantNear(t, x, "xyz", 4, 5, 2, 1, 7) // three each: those that are longer are four away
}

func TestNearOfTheLongest(t *testing.T) {
	x := made(t, longest(), longest()[:61])
	wantNear(t, x, longest()[:63], 0)
	wantNear(t, x, longest()[:62], 1)
	wantNear(t, x, longest()[:58], 1)
	wantNear(t, x, longest()[:57])
	wantNear(t, x, "x"+longest()[1:], 0)
	wantNear(t, made(t, "abc"), "x", 0) // all of it exchanged, or put in
	wantNear(t, made(t, "abc"), "xyz", 0)
	wantNear(t, made(t, "abcd"), "wxyz")
}

// Tables without names

func TestNameless(t *testing.T) {
	for what, x := range nameless(t) {
		if x.Len() != 0 || len(x.Sorted()) != 0 {
			t.Errorf("%s: Len %d, Sorted %v", what, x.Len(), x.Sorted())
		}
		for _, i := range []int{0, 1, -1, math.MaxInt, math.MinInt} {
			if name, e := x.Name(i); name != "" || e != api.ErrRange {
				t.Errorf("%s: Name(%d): %q, %d", what, i, name, e)
			}
		}
		for i, name := range x.Each() {
			t.Errorf("%s: Each tells %d, %q", what, i, name)
		}
		for _, s := range slices.Concat([]string{"a", longest()}, badNames(), longNames()) {
			wantFind(t, x, s, 0, false)
			wantPrefix(t, x, s)
			wantNear(t, x, s)
		}
	}
}

func TestTableOfOne(t *testing.T) {
	x := made(t, " One ")
	if name, e := x.Name(0); name != " One " || e != api.OK || x.Len() != 1 {
		t.Error(name, e)
	}
	wantFind(t, x, "ONE", 0, true)
	wantPrefix(t, x, "", 0)
	wantPrefix(t, x, "o", 0)
	wantPrefix(t, x, "n")
	wantNear(t, x, "on", 0)
	if text.Compare(" One ", "One") == 0 {
		t.Error("names are given as they stand")
	}
}
