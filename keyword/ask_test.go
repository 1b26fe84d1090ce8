package keyword_test

import (
	"math"
	"slices"
	"strconv"
	"strings"
	"testing"

	"folio/api"
	"folio/keyword"
)

// P9.4, P9.5

func wantNumbers(t *testing.T, what, term string, got, want []int) {
	t.Helper()
	if !slices.Equal(got, want) {
		t.Errorf("%s %.80q: %v, want %v", what, term, got, want)
	}
}

func wantFind(t *testing.T, l []api.Entry, term string, want ...int) {
	t.Helper()
	wantNumbers(t, "Find", term, keyword.Find(l, term), want)
}

func wantUnder(t *testing.T, l []api.Entry, term string, want ...int) {
	t.Helper()
	wantNumbers(t, "Under", term, keyword.Under(l, term), want)
}

func wantTopics(t *testing.T, l []api.Entry, term string, want ...int) {
	t.Helper()
	wantNumbers(t, "Topics", term, keyword.Topics(l, term), want)
}

func wantStarting(t *testing.T, l []api.Entry, s string, want ...int) {
	t.Helper()
	wantNumbers(t, "Starting", s, keyword.Starting(l, s), want)
}

func wantFollow(t *testing.T, l []api.Entry, term string, want ...string) {
	t.Helper()
	if got := keyword.Follow(l, term); !slices.Equal(got, want) {
		t.Errorf("Follow %.80q: %.80q, want %.80q", term, got, want)
	}
}

// wantHeadings asks for headings by name, number, name, number ...
func wantHeadings(t *testing.T, l []api.Entry, want ...any) {
	t.Helper()
	var told []api.Heading
	for ; len(want) > 1; want = want[2:] {
		told = append(told, api.Heading{Name: want[0].(string), At: want[1].(int)})
	}
	if got := keyword.Headings(l); !slices.Equal(got, told) {
		t.Errorf("Headings: %v, want %v%s", got, told, shown(l))
	}
}

func TestFindAndUnder(t *testing.T) {
	l := good()
	for _, ant := range []string{"Ant", "ant", "ANT", " ant", "aNT   "} {
		wantFind(t, l, ant, 0)
		wantUnder(t, l, ant, 1, 2)
		wantTopics(t, l, ant, 0, 1, 2)
	}
	wantFind(t, l, "bee", 3)
	wantUnder(t, l, "bee")
	wantFind(t, l, "dog")
	wantUnder(t, l, "dog", 5)
	wantTopics(t, l, "dog", 0, 1, 2)
	wantTopics(t, l, "bee", 2)
	wantTopics(t, l, "cat")
	for _, none := range append(badTexts(), "", "an", "ants", "a nt", "b", "C", "x", "änt", longest()) {
		wantFind(t, l, none)
		wantUnder(t, l, none)
		wantTopics(t, l, none)
		wantFollow(t, l, none)
	}
}

// TestAskingOfNone asks lists of no entries.
func TestAskingOfNone(t *testing.T) {
	for _, l := range [][]api.Entry{nil, {}, good()[:0]} {
		for _, s := range append(badTexts(), "", "ant", "a") {
			wantFind(t, l, s)
			wantUnder(t, l, s)
			wantTopics(t, l, s)
			wantFollow(t, l, s)
			wantStarting(t, l, s)
		}
		wantHeadings(t, l)
	}
}

// odd answers a list that is no index.
func odd() []api.Entry {
	return []api.Entry{
		entry("b", "", []int{9, -1, 9, math.MaxInt}, "A"),
		entry("", "", []int{1}, "", "b"),
		entry("B ", "s", []int{5, 0, 9, math.MinInt}, "no"),
		entry("  ", "t", nil, "b"),
		entry("\xff", "", []int{2}, "\xfe", " "),
		entry("a\tb", " S", []int{4, 4}),
		entry("B", "", nil, "c", "\xff", "c"),
		entry("c", "", []int{3}),
		entry("b", "s", []int{7}),
		entry(longest()+"N", "", []int{6}, longest()+"nn"),
		entry("A", "", nil, "b", "d"),
		entry("d", "  ", []int{8}, "never"), // blanks may be no sub, but they are not the empty one
	}
}

func TestAskingOfAnyList(t *testing.T) {
	l := odd()
	wantFind(t, l, "b", 0, 6)
	wantUnder(t, l, "b", 2, 8)
	wantTopics(t, l, "b", math.MinInt, -1, 0, 5, 7, 9, math.MaxInt)
	for _, empty := range []string{"", " ", "   ", strings.Repeat(" ", 100)} {
		wantFind(t, l, empty, 1)
		wantUnder(t, l, empty, 3)
		wantTopics(t, l, empty, 1)
		wantFollow(t, l, empty, "a", "b", "c", "d", "\xfe", "\xff")
	}
	wantFind(t, l, "\xff", 4)
	wantFind(t, l, "\xfe")
	wantFind(t, l, "\ufffd") // which is another text than a bad byte
	wantTopics(t, l, " \xff", 2)
	wantFind(t, l, "a\tb")
	wantUnder(t, l, "A\tb", 5)
	wantUnder(t, l, "a b")
	wantTopics(t, l, "A\tB", 4)
	wantFind(t, l, strings.Repeat("n", api.MaxName+1), 9)
	wantFollow(t, l, longest()+"n", longest()+"nn")
	wantFollow(t, l, "c")
	wantFollow(t, l, "no")
	wantFind(t, l, "d")
	wantUnder(t, l, "D", 11)
	wantTopics(t, l, "d", 8)
	wantFollow(t, l, "d")
}

func TestFollow(t *testing.T) {
	l := []api.Entry{
		entry("a", "", nil, "C", "b 10", "b  9"),
		entry("b 9", "", []int{0}, "É"),
		entry("b 10", "", nil, "z", "A B"),
		entry("c", "", nil, "B 9"),
		entry("c", "s", nil, "never"), // no Sees of a Sub
		entry("e", "", zero()),
		entry("x", "", nil, "a"),
		entry("z", "t", zero()),
	}
	wantFollow(t, l, "a", "a b", "b 9", "b 10", "c", "é", "z")
	wantFollow(t, l, " X ", "a", "a b", "b 9", "b 10", "c", "é", "z")
	wantFollow(t, l, "C", "b 9", "é")
	wantFollow(t, l, "b   10", "a b", "z")
	wantFollow(t, l, "B 9", "é")
	for _, end := range []string{"e", "é", "z", "a b", "s", "never", "t"} {
		wantFollow(t, l, end)
	}
}

func TestFollowInRings(t *testing.T) {
	wantFollow(t, []api.Entry{entry("a", "", nil, "a")}, "a")
	wantFollow(t, []api.Entry{entry("a", "", nil, "A ", " a")}, "A")
	l := []api.Entry{entry("a", "", nil, "b"), entry("b", "", nil, "c"), entry("c", "", nil, "A"), entry("d", "", nil, "b", "D")}
	wantFollow(t, l, "a", "b", "c") // term's own is not among them
	wantFollow(t, l, "b", "a", "c")
	wantFollow(t, l, "c", "a", "b")
	wantFollow(t, l, "D", "a", "b", "c")
	var ring []api.Entry
	var all []string
	const long = 20000 // more than an index has
	for i := range long {
		ring = append(ring, entry("t"+strconv.Itoa(i), "", nil, "T"+strconv.Itoa((i+1)%long), "t"+strconv.Itoa(i*7%long)))
		all = append(all, "t"+strconv.Itoa(i))
	}
	wantFollow(t, ring, "T0", all[1:]...)
	wantFollow(t, ring, "t19999", all[:long-1]...)
}

func TestHeadings(t *testing.T) {
	wantHeadings(t, good(), "A", 0, "B", 3, "C", 4, "D", 5)
	wantHeadings(t, []api.Entry{{}}, "*", 0)
	l := []api.Entry{{Term: "\u0301"}, {Term: "-"}, {Term: "(a)"}, {Term: "1"}, {Term: "20a"}, {Term: "a"}, {Term: "Äb"}, {Term: "  aC"}, {Term: "éclair"}, {Term: "F"}, {Term: "ß"}, {Term: "t"}, {Term: "þ"}, {Term: "z"}, {Term: "Ω"}, {Term: "ж"}, {Term: "Ж"}, {Term: "中"}}
	wantHeadings(t, l, "*", 0, "0", 3, "A", 5, "E", 8, "F", 9, "S", 10, "T", 11, "Z", 13, "ω", 14, "ж", 15, "中", 17)
	// Of any list: in its order, by the one ahead alone.
	wantHeadings(t, []api.Entry{{Term: "b"}, {Term: "a"}, {Term: "A"}, {Term: "b", Sub: "a"}, {Term: ""}, {Term: " "}, {Term: "!"}, {Term: "\xff"}, {Term: "\ufffd"}, {Term: "7"}},
		"B", 0, "A", 1, "B", 3, "*", 4, "\ufffd", 7, "0", 9)
	wantHeadings(t, []api.Entry{{Term: "x", Sub: "a"}, {Term: "x", Sub: "b"}, {Term: "X", Sub: "c"}}, "X", 0) // by Terms
}

func TestStarting(t *testing.T) {
	l := good()
	wantStarting(t, l, "", 0, 1, 2, 3, 4, 5)
	wantStarting(t, l, "   ", 0, 1, 2, 3, 4, 5)
	wantStarting(t, l, "a", 0, 1, 2)
	wantStarting(t, l, " AN", 0, 1, 2)
	wantStarting(t, l, "ant", 0, 1, 2)
	wantStarting(t, l, "ant ", 0, 1, 2) // blanks at the ends are folded away
	wantStarting(t, l, "CAT", 4)
	for _, none := range []string{"ants", "nt", "x", "à", "e", "b e", "\xff", "\t", "c\x00", longest()} {
		wantStarting(t, l, none)
	}
	l = []api.Entry{{Term: "é"}, {Term: "My  Key"}, {Term: "mYk"}, {Term: ""}, {Term: "e\u0301"}, {Term: "\xffa"}, {Term: " É a"}, {Term: "my", Sub: "k"}, {Term: "10"}, {Term: "my k"}}
	wantStarting(t, l, "e", 4) // a mark is not folded away
	wantStarting(t, l, "É", 0, 6)
	wantStarting(t, l, "my   K", 1, 9)
	wantStarting(t, l, "my", 1, 2, 7, 9)
	wantStarting(t, l, "\xff", 5)
	wantStarting(t, l, "\xffA", 5)
	wantStarting(t, l, "1", 8) // no values
	wantStarting(t, l, "", 0, 1, 2, 3, 4, 5, 6, 7, 8, 9)
}
