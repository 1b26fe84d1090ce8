package keyword_test

import (
	"errors"
	"fmt"
	"math"
	"slices"
	"strconv"
	"strings"
	"testing"

	"folio/api"
	"folio/fault"
	"folio/keyword"
	"folio/src"
)

// P9.1, P9.2

func key(term, sub string, line int) api.KeyRef {
	return api.KeyRef{Term: term, Sub: sub, Line: line}
}

func see(from, to string, line int) api.SeeRef { return api.SeeRef{From: from, To: to, Line: line} }

// topic answers one of keys and sees: "Term", "Term;Sub", "From->To", as they stand, each at the line of its place.
func topic(l ...string) api.Topic {
	var t api.Topic
	for i, s := range l {
		if from, to, ok := strings.Cut(s, "->"); ok {
			t.Sees = append(t.Sees, see(from, to, i+1))
			continue
		}
		term, sub, _ := strings.Cut(s, ";")
		t.Keys = append(t.Keys, key(term, sub, i+1))
	}
	return t
}

func source(l ...api.Topic) api.Source { return api.Source{Topics: l} }

// one answers sources of one topic alone.
func one(l ...string) []api.Source { return []api.Source{source(topic(l...))} }

func entry(term, sub string, topics []int, sees ...string) api.Entry {
	return api.Entry{Term: term, Sub: sub, Topics: topics, Sees: sees}
}

func sameEntry(a, b api.Entry) bool {
	return a.Term == b.Term && a.Sub == b.Sub && slices.Equal(a.Topics, b.Topics) && slices.Equal(a.Sees, b.Sees)
}

// shown tells entries so that one sees what parts them, the first ones alone.
func shown(l []api.Entry) string {
	var b strings.Builder
	for _, e := range l[:min(len(l), 40)] {
		fmt.Fprintf(&b, "\n%.80q; %.80q %v -> %.80q", e.Term, e.Sub, e.Topics, e.Sees)
	}
	return b.String()
}

func built(t *testing.T, sources []api.Source) []api.Entry {
	t.Helper()
	l, err := keyword.Build(sources)
	if err != nil {
		t.Fatalf("Build: %.200v", err)
	}
	return l
}

func wantIndex(t *testing.T, sources []api.Source, want ...api.Entry) {
	t.Helper()
	l, err := keyword.Build(sources)
	if err != nil || !slices.EqualFunc(l, want, sameEntry) {
		t.Errorf("Build: %.200v%s\nwant%s", err, shown(l), shown(want))
	}
}

func wantFault(t *testing.T, sources []api.Source, f api.Fault) {
	t.Helper()
	l, err := keyword.Build(sources)
	if len(l) != 0 {
		t.Errorf("Build with a fault tells %d entries", len(l))
	}
	all := fault.All(err)
	if len(all) != 1 || len(all[0].Trail) != 0 {
		t.Errorf("Build tells %d faults, want %d alone", len(all), f.Code)
		return
	}
	got := all[0]
	if got.Code != f.Code || got.Source != f.Source || got.Line != f.Line || got.Col != 0 || got.Word != f.Word {
		t.Errorf("Build: %d at %d:%d:%d %.80q, want %d at %d:%d:0 %.80q", got.Code, got.Source, got.Line, got.Col, got.Word, f.Code, f.Source, f.Line, f.Word)
	}
	var e *fault.Error
	if !errors.As(err, &e) || !errors.Is(err, fault.Code(f.Code)) || !fault.Is(err, f.Code) {
		t.Errorf("%v is no error of ours", err)
	}
}

func TestBuildOfNone(t *testing.T) {
	wantIndex(t, nil)
	wantIndex(t, []api.Source{})
	wantIndex(t, make([]api.Source, api.MaxSources))
	wantIndex(t, []api.Source{{Topics: []api.Topic{}}, {Styles: []api.StyleDef{{Text: "a"}}}})
	wantIndex(t, []api.Source{source(make([]api.Topic, api.MaxTopics)...)})
	wantIndex(t, []api.Source{source(api.Topic{Name: "Home", Title: "Start", Level: 1, Keys: []api.KeyRef{}, Sees: []api.SeeRef{}, Line: 3})})
}

func TestBuild(t *testing.T) {
	wantIndex(t, one("a"), entry("a", "", []int{0}))
	wantIndex(t, one("a;b"), entry("a", "b", []int{0})) // none without a Sub comes of it
	wantIndex(t, one("b", "a;z", "a", "a;c"),
		entry("a", "", []int{0}), entry("a", "c", []int{0}), entry("a", "z", []int{0}), entry("b", "", []int{0}))
	wantIndex(t, one("b", "a->b"), entry("a", "", nil, "b"), entry("b", "", []int{0}))
	wantIndex(t, one("b;c", "a->b"), entry("a", "", nil, "b"), entry("b", "c", []int{0}))
	wantIndex(t, one("b", "a", "a->b"), entry("a", "", []int{0}, "b"), entry("b", "", []int{0}))
	wantIndex(t, one("b", "a;x", "a->b"), entry("a", "", nil, "b"), entry("a", "x", []int{0}), entry("b", "", []int{0}))
	wantIndex(t, one("a;b", "b;a", "a;a", "b;b"),
		entry("a", "a", []int{0}), entry("a", "b", []int{0}), entry("b", "a", []int{0}), entry("b", "b", []int{0}))
}

func TestBuildNumbersTopics(t *testing.T) {
	note := topic("a", "n") // a note has a number, and keys, like all
	note.Kind = api.KindNote
	wantIndex(t, []api.Source{
		source(topic("b"), topic()),
		{},
		source(topic("a;s"), note, topic("b", "x->a")),
		source(topic()),
		source(topic("x", "a;s", "b")),
	},
		entry("a", "", []int{3}), entry("a", "s", []int{2, 6}), entry("b", "", []int{0, 4, 6}), entry("n", "", []int{3}), entry("x", "", []int{6}, "a"))
	last := make([]api.Topic, api.MaxTopics)
	last[999] = topic("a")
	wantIndex(t, []api.Source{source(last...)}, entry("a", "", []int{999}))
	wantIndex(t, []api.Source{source(last[:300]...), source(last[300:]...)}, entry("a", "", []int{999}))
}

func TestKeysTwice(t *testing.T) {
	wantIndex(t, one("a", "a"), entry("a", "", []int{0}))
	wantIndex(t, []api.Source{source(topic("x"), topic("a;b", "c", "A ;B", " a; b ", "c"), topic("c"), topic("c", "c"))},
		entry("a", "b", []int{1}), entry("c", "", []int{1, 2, 3}), entry("x", "", []int{0}))
}

func TestTheFirstWritingStands(t *testing.T) {
	wantIndex(t, one("Color", "color", "COLOR"), entry("Color", "", []int{0}))
	wantIndex(t, one("color", "Color"), entry("color", "", []int{0}))
	wantIndex(t, one("  My   key ", "my key"), entry("  My   key ", "", []int{0}))
	wantIndex(t, one("my key", " My  KEY"), entry("my key", "", []int{0}))
	wantIndex(t, one("ÄΩЁ", "äωё", "ÄωЁ"), entry("ÄΩЁ", "", []int{0}))
	wantIndex(t, one("e", "é", "E", "É"), entry("e", "", []int{0}), entry("é", "", []int{0})) // marks part them
	wantIndex(t, one("a1", "a01"), entry("a01", "", []int{0}), entry("a1", "", []int{0}))     // so do noughts
	// Of a Term wherever it comes first, of a Sub where it does under that Term.
	wantIndex(t, one("COLOR;Of", "color", "Color;of", "Color;IN"),
		entry("COLOR", "", []int{0}), entry("COLOR", "IN", []int{0}), entry("COLOR", "Of", []int{0}))
	wantIndex(t, one("a;X", "b;x", "A; x", "B;X "), entry("a", "X", []int{0}), entry("b", "x", []int{0}))
	wantIndex(t, one("X;a", "b;x"), entry("b", "x", []int{0}), entry("X", "a", []int{0})) // a Term is no Sub
	wantIndex(t, []api.Source{source(topic("b"), topic("Term;x")), source(topic("TERM", "term;X"))},
		entry("b", "", []int{0}), entry("Term", "", []int{2}), entry("Term", "x", []int{1, 2}))
}

func TestTheFirstWritingOfSees(t *testing.T) {
	// The keys of a topic come ahead of its sees, whatever their lines.
	both := api.Topic{Keys: []api.KeyRef{key("TERM", "", 9), key("b", "", 9)}, Sees: []api.SeeRef{see("term", "B", 1)}}
	wantIndex(t, []api.Source{source(both)}, entry("b", "", []int{0}), entry("TERM", "", []int{0}, "B"))
	wantIndex(t, []api.Source{source(topic("b", "Term->b"), topic("TERM;s", "term"))},
		entry("b", "", []int{0}), entry("Term", "", []int{1}, "b"), entry("Term", "s", []int{1}))
	wantIndex(t, []api.Source{source(topic("A->B")), source(topic("b", "a"))}, // a To is no writing of its Term
		entry("A", "", []int{1}, "B"), entry("b", "", []int{1}))
	wantIndex(t, one("z", "x->Y", "y->Z"), entry("x", "", nil, "Y"), entry("y", "", nil, "Z"), entry("z", "", []int{0}))
}

func TestSees(t *testing.T) {
	wantIndex(t, one("b", "c", "d", "a->d", "a->b", "a->c"),
		entry("a", "", nil, "b", "c", "d"), entry("b", "", []int{0}), entry("c", "", []int{0}), entry("d", "", []int{0}))
	// Froms that are one, and Tos that are one.
	wantIndex(t, []api.Source{source(topic("x y", "z", "A->X  y", "a->z", " a ->x Y", "A->Z")), source(topic("q->x y", "a->x y", "a->q"))},
		entry("A", "", nil, "q", "X  y", "z"), entry("q", "", nil, "x y"), entry("x y", "", []int{0}), entry("z", "", []int{0}))
	wantIndex(t, one("c", "a->c", "b->C", "a->C", "b->c"), // as written where it comes first of that From
		entry("a", "", nil, "c"), entry("b", "", nil, "C"), entry("c", "", []int{0}))
	// By the order of words, of what is folded.
	wantIndex(t, one("b10", "b2", "B1", "é", "ez", "-", "7", "a->ez", "a->b10", "a->É", "a->B2", "a->b1", "a->7", "a->-"),
		entry("-", "", []int{0}), entry("7", "", []int{0}), entry("a", "", nil, "-", "7", "b1", "B2", "b10", "É", "ez"),
		entry("B1", "", []int{0}), entry("b2", "", []int{0}), entry("b10", "", []int{0}), entry("é", "", []int{0}), entry("ez", "", []int{0}))
	wantIndex(t, one("z;s", "y;s", "x;s", "a->x", "a->Y", "a->z"), // not by large and small letters, nor by blanks
		entry("a", "", nil, "x", "Y", "z"), entry("x", "s", []int{0}), entry("y", "s", []int{0}), entry("z", "s", []int{0}))
	wantIndex(t, one("b", "c", "a-> c", "a->b"), entry("a", "", nil, "b", " c"), entry("b", "", []int{0}), entry("c", "", []int{0}))
}

func TestOrderOfEntries(t *testing.T) {
	wantIndex(t, one("b10", " b2", "A", "ä", "az", "B1", "2", "10", "-", "\u0301", "Ω", "中", "a b", "ab"),
		entry("\u0301", "", []int{0}), entry("-", "", []int{0}), entry("2", "", []int{0}), entry("10", "", []int{0}),
		entry("A", "", []int{0}), entry("ä", "", []int{0}), entry("a b", "", []int{0}), entry("ab", "", []int{0}), entry("az", "", []int{0}),
		entry("B1", "", []int{0}), entry(" b2", "", []int{0}), entry("b10", "", []int{0}), entry("Ω", "", []int{0}), entry("中", "", []int{0}))
	wantIndex(t, one("a;x10", "a; X9", "A;-", "ab", "a", "a;\u0301", "a;é", "a;eb"), // those of one Term side by side, the empty Sub ahead
		entry("a", "", []int{0}), entry("a", "\u0301", []int{0}), entry("a", "-", []int{0}), entry("a", "é", []int{0}), entry("a", "eb", []int{0}),
		entry("a", " X9", []int{0}), entry("a", "x10", []int{0}), entry("ab", "", []int{0}))
	wantIndex(t, one("B;a", "a;c", "C;b"), entry("a", "c", []int{0}), entry("B", "a", []int{0}), entry("C", "b", []int{0})) // by Folds
}

// Terms that may be, and that may not

func longest() string { return strings.Repeat("n", api.MaxName) }

// goodTexts are texts that may be terms and subs.
func goodTexts() []string {
	return []string{
		"a", "0", "-", "*", ".key", "{b x}", "\\", "|", "e\u0301", "\u0301", "\u200b", "\u00a0", "\ufffd", "中文", "\U0001f600", "~", " a", "a ", "x  y",
		longest(), strings.Repeat("é", api.MaxName/2), strings.Repeat("中", api.MaxName/3) + "a", strings.Repeat("\U0001f600", api.MaxName/4),
		strings.Repeat(" ", api.MaxName-1) + "a", "a" + strings.Repeat(" ", api.MaxName-1), "a" + strings.Repeat(" ", api.MaxName-2) + "b",
	}
}

// badTexts are texts that may be neither; the empty one, which may be a sub, is not among them.
func badTexts() []string {
	return []string{
		" ", "   ", strings.Repeat(" ", api.MaxName),
		"\t", "a\t", "\ta", "a\tb", "a\nb", "\r", "\x00", "a\x1f", "\x7f", "a\u0080b", "\u0085", "a\u009f",
		"\xff", "a\xffb", "a \xc3", "\xa9a", "\xed\xa0\x80", "\xe4\xb8", "\xc0\x80",
		longest() + "n", strings.Repeat("a", api.MaxName) + " ", " " + longest(), strings.Repeat(" ", api.MaxName+1),
		strings.Repeat("é", api.MaxName/2) + "e", strings.Repeat("\xff", api.MaxName+1), strings.Repeat("中", api.MaxName), strings.Repeat("long ", 20000),
	}
}

func TestTermsThatMayBe(t *testing.T) {
	for _, s := range goodTexts() {
		wantIndex(t, []api.Source{source(api.Topic{Keys: []api.KeyRef{key(s, "", 1)}})}, entry(s, "", []int{0}))
		wantIndex(t, []api.Source{source(api.Topic{Keys: []api.KeyRef{key(s, s, 1)}})}, entry(s, s, []int{0}))
		wantIndex(t, []api.Source{source(api.Topic{Keys: []api.KeyRef{key("q", s, 1)}})}, entry("q", s, []int{0}))
		l := built(t, []api.Source{source(api.Topic{Keys: []api.KeyRef{key("q", "", 1)}, Sees: []api.SeeRef{see(s, "q", 2), see("q q", s, 3)}})})
		if len(l) != 3 || !slices.ContainsFunc(l, func(e api.Entry) bool { return sameEntry(e, entry("q q", "", nil, s)) }) {
			t.Errorf("with sees from and to %q:%s", s, shown(l))
		}
	}
}

func TestTermsThatMayNotBe(t *testing.T) {
	good := topic("a", "b", "b;c", "d->a")
	for _, s := range append(badTexts(), "") {
		want := api.Fault{Code: api.ErrTerm, Source: 2, Line: 7, Word: s}
		for i, bad := range []api.Topic{
			{Keys: []api.KeyRef{key("a", "", 5), key(s, "", 7)}},
			{Keys: []api.KeyRef{key(s, "b", 7)}},
			{Keys: []api.KeyRef{key("b", "c", 6)}, Sees: []api.SeeRef{see("a", "b", 8), see(s, "b", 7)}},
			{Sees: []api.SeeRef{see("a", s, 7)}},
			{Keys: []api.KeyRef{key("a", s, 7)}},
		} {
			if s == "" && i == 4 { // which a sub may be
				continue
			}
			wantFault(t, []api.Source{source(good), {}, source(good, bad)}, want)
			note := bad
			note.Kind = api.KindNote
			wantFault(t, []api.Source{source(good), {}, source(note, good), source(bad)}, want)
		}
	}
}

func TestPlacesOfFaults(t *testing.T) {
	for _, line := range []int{0, -1, 1, math.MaxInt, math.MinInt} { // as they are given
		wantFault(t, []api.Source{source(api.Topic{Line: 3, Keys: []api.KeyRef{key("", "", line)}})}, api.Fault{Code: api.ErrTerm, Line: line})
		wantFault(t, []api.Source{{}, source(api.Topic{Line: 3, Sees: []api.SeeRef{see("a", "b", line)}})}, api.Fault{Code: api.ErrSeeNone, Source: 1, Line: line, Word: "b"})
		wantFault(t, []api.Source{{}, source(api.Topic{Line: 3, Sees: []api.SeeRef{see("a", "A", line)}})}, api.Fault{Code: api.ErrSeeRing, Source: 1, Line: line, Word: "A"})
	}
}

// Too many

// keys answers so many keys, no two of them one, of topics of at most so many.
func keys(n, most int) []api.Topic {
	var l []api.Topic
	for i := range n {
		if i%most == 0 {
			l = append(l, api.Topic{})
		}
		t := &l[len(l)-1]
		t.Keys = append(t.Keys, key("Term "+strconv.Itoa(i/2), strings.Repeat("s", i%2), i))
	}
	return l
}

func TestHowManySources(t *testing.T) {
	l := make([]api.Source, api.MaxSources)
	l[63] = source(topic("a"))
	wantIndex(t, l, entry("a", "", []int{0}))
	wantFault(t, append(slices.Clone(l), api.Source{}), api.Fault{Code: api.ErrLong})
	wantFault(t, make([]api.Source, api.MaxSources+1), api.Fault{Code: api.ErrLong})
	wantFault(t, make([]api.Source, 100000), api.Fault{Code: api.ErrLong})
	l[0] = source(topic("", "a->b")) // ahead of all else
	wantFault(t, append(slices.Clone(l), api.Source{}), api.Fault{Code: api.ErrLong})
}

func TestHowManyTopics(t *testing.T) {
	most := make([]api.Topic, api.MaxTopics)
	most[999] = topic("a")
	for _, l := range [][]api.Source{
		{source(most...)}, {source(most[:1]...), {}, source(most[1:]...)}, {source(most[:500]...), source(most[500:]...)},
	} {
		wantIndex(t, l, entry("a", "", []int{999}))
		wantFault(t, append(slices.Clone(l), source(api.Topic{})), api.Fault{Code: api.ErrLong})
		wantFault(t, append([]api.Source{source(topic("\xff", "a->b"))}, l...), api.Fault{Code: api.ErrLong})
	}
	wantFault(t, []api.Source{source(make([]api.Topic, 100000)...)}, api.Fault{Code: api.ErrLong})
}

func TestHowManyEntries(t *testing.T) {
	for _, most := range []int{10, api.MaxEntries} { // as many keys as one likes
		topics := keys(api.MaxEntries, most)
		if l := built(t, []api.Source{source(topics...)}); len(l) != api.MaxEntries {
			t.Errorf("%d entries", len(l))
		}
		half := len(topics) / 2
		if l := built(t, []api.Source{source(topics[half:]...), source(topics[:half]...)}); len(l) != api.MaxEntries {
			t.Errorf("%d entries", len(l))
		}
		if most == 10 { // no topic may come in addition
			topics = topics[1:]
			topics[0].Keys = append(topics[0].Keys, keys(10, 10)[0].Keys...)
		}
		for _, there := range []api.Topic{topic("term 7", "TERM  0;S"), topic("Term 1", "term 3->term 4"), keys(3000, 3000)[0]} {
			if l := built(t, []api.Source{source(topics...), source(there)}); len(l) != api.MaxEntries {
				t.Errorf("%d entries", len(l))
			}
		}
		for _, more := range []api.Topic{topic("a"), topic("Term 7;t"), topic("b->Term 1"), topic(""), topic("a;\xff"), topic("b->none"), topic("a->a"), topic("\xff")} {
			wantFault(t, []api.Source{source(topics...), source(more)}, api.Fault{Code: api.ErrLong}) // ahead of what else is wrong
			wantFault(t, []api.Source{source(more), source(topics...)}, api.Fault{Code: api.ErrLong})
		}
		// What is there already is no entry more, though it may not be.
		wantFault(t, []api.Source{source(topics...), source(topic("term 1; "))}, api.Fault{Code: api.ErrTerm, Source: 1, Line: 1, Word: " "})
		wantFault(t, []api.Source{source(topics...), source(topic("term 1->none"))}, api.Fault{Code: api.ErrSeeNone, Source: 1, Line: 1, Word: "none"})
	}
}

// TestHowManyMentions has more keys and sees than any source that was read.
func TestHowManyMentions(t *testing.T) {
	var many api.Topic
	for i := range 50000 {
		many.Keys = append(many.Keys, key([]string{"a", "A"}[i%2], "", i))
		many.Sees = append(many.Sees, see("b", []string{"A", "a "}[i%2], i))
	}
	wantIndex(t, []api.Source{source(topic(), many)}, entry("a", "", []int{1}), entry("b", "", nil, "A"))
}

// Sees that lead nowhere, and rings

func TestSeesThatLeadNowhere(t *testing.T) {
	none := func(line int, word string) api.Fault { return api.Fault{Code: api.ErrSeeNone, Line: line, Word: word} }
	wantFault(t, one("a->b"), none(1, "b"))
	wantFault(t, one("b", "a-> B", "a->c"), none(3, "c"))
	wantFault(t, one("b", "c", "a->c", "b->C  c", "c->b"), none(4, "C  c"))
	for _, word := range []string{"bb", "ab", "b c", "é", "b\u0301", "ß", "Sub", "a;b", "a b", longest()} {
		wantFault(t, one("b", "e", "ss", "q;sub", "a->"+word), none(5, word))
	}
	wantFault(t, one("a->z", "b->z", "z;s->z"), none(1, "z")) // that others lead there, too, makes it no entry
	wantFault(t, []api.Source{source(topic("b"), topic("a->b")), source(topic("c->d"), topic("e->f"))}, api.Fault{Code: api.ErrSeeNone, Source: 1, Line: 1, Word: "d"})
	wantIndex(t, []api.Source{source(topic("a->b")), source(topic("b;c"))}, entry("a", "", nil, "b"), entry("b", "c", []int{1})) // it may come later
}

func TestRings(t *testing.T) {
	ring := func(line int, word string) api.Fault { return api.Fault{Code: api.ErrSeeRing, Line: line, Word: word} }
	wantFault(t, one("a->a"), ring(1, "a"))
	wantFault(t, one("a", "a;b", "b", "b->a", "A -> a"), ring(5, " a"))
	wantFault(t, one("a->B", "b->A"), ring(1, "B"))
	wantFault(t, one("x", "a->x", "a->b", "b->a"), ring(3, "b"))
	wantFault(t, one("a->b", "b->c", "C->D", "d->a"), ring(1, "b"))
	wantFault(t, one("a->b", "b->c", "C->D", "d->C"), ring(3, "D")) // a and b lead to a ring and lie on none
	wantFault(t, one("d->C", "C->D", "b->c", "a->b"), ring(1, "C"))
	wantFault(t, one("z", "a->b", "a->z", "b->c", "b->z", "c->z", "c->b", "z->z"), ring(4, "c"))
	wantFault(t, one("a->b", "b->c", "c->d", "d->e", "e->c", "d->b"), ring(2, "c")) // rings within one another
	wantFault(t, one("o", "a->b", "b->o", "c->d", "d->a", "d->e", "e->c"), ring(4, "d"))
	wantFault(t, one("a->b", "a->c", "b->d", "c->d", "d->c"), ring(4, "d"))
	wantFault(t, one("d", "a->c", "a->b", "c->d", "b->d", "d->B"), ring(5, "d"))
	wantFault(t, []api.Source{source(topic("c", "a->b")), source(topic(), topic("b->c")), source(topic("x", "c->A"))}, api.Fault{Code: api.ErrSeeRing, Source: 0, Line: 2, Word: "b"})
	wantFault(t, []api.Source{source(topic("c", "a->b")), source(topic(), topic("b->c")), source(topic("x", "c->b"))}, api.Fault{Code: api.ErrSeeRing, Source: 1, Line: 1, Word: "c"})
	// Ways that part and come together again are none.
	wantIndex(t, one("d", "a->b", "a->c", "b->d", "c->d", "a->d", "b->c"),
		entry("a", "", nil, "b", "c", "d"), entry("b", "", nil, "c", "d"), entry("c", "", nil, "d"), entry("d", "", []int{0}))
	wantIndex(t, one("a;b", "b;a", "a->b"), entry("a", "", nil, "b"), entry("a", "b", []int{0}), entry("b", "a", []int{0})) // a Sub leads nowhere
}

// chain answers sees from each of so many terms to the next, in throws of 60.
func chain(n int) []api.Topic {
	var l []api.Topic
	for i := range n {
		if i%60 == 0 {
			l = append(l, api.Topic{})
		}
		t := &l[len(l)-1]
		t.Sees = append(t.Sees, see("t"+strconv.Itoa(i), "t"+strconv.Itoa(i+1), i))
	}
	return l
}

func TestLongRings(t *testing.T) {
	for _, n := range []int{1, 2, 100, api.MaxEntries - 1} {
		l := chain(n)
		last := "t" + strconv.Itoa(n)
		wantFault(t, []api.Source{source(l...)}, api.Fault{Code: api.ErrSeeNone, Source: 0, Line: n - 1, Word: last})
		if got := built(t, []api.Source{source(l...), source(topic(last))}); len(got) != n+1 {
			t.Errorf("%d entries", len(got))
		}
		wantFault(t, []api.Source{source(l...), source(topic(last + "->t0"))}, api.Fault{Code: api.ErrSeeRing, Line: 0, Word: "t1"})
		wantFault(t, []api.Source{source(topic(last + "->T0")), source(l...)}, api.Fault{Code: api.ErrSeeRing, Line: 1, Word: "T0"})
		half := "t" + strconv.Itoa(n/2)
		wantFault(t, []api.Source{source(l...), source(topic(last + "->" + half))}, api.Fault{Code: api.ErrSeeRing, Line: n / 2, Word: "t" + strconv.Itoa(n/2+1)})
		wantFault(t, []api.Source{source(l...), source(topic(last + "->" + last))}, api.Fault{Code: api.ErrSeeRing, Source: 1, Line: 1, Word: last})
		slices.Reverse(l)
		if got := built(t, []api.Source{source(l...), source(topic(last))}); len(got) != n+1 {
			t.Errorf("%d entries", len(got))
		}
	}
}

// TestManySeesAheadOfARing would go on for long if each see were walked from alone.
func TestManySeesAheadOfARing(t *testing.T) {
	var l api.Topic
	const layers, wide = 100, 30
	name := func(layer, n int) string { return "l" + strconv.Itoa(layer) + "n" + strconv.Itoa(n) }
	for i := range layers {
		for a := range wide {
			for b := range wide {
				l.Sees = append(l.Sees, see(name(i, a), name(i+1, b), i))
			}
		}
	}
	for a := range wide {
		l.Sees = append(l.Sees, see(name(layers, a), "end", 1000), see("end", "finis", 1001))
	}
	wantFault(t, []api.Source{source(l, topic("finis->end"))}, api.Fault{Code: api.ErrSeeRing, Line: 1001, Word: "finis"})
	if got := built(t, []api.Source{source(l, topic("finis"))}); len(got) != (layers+1)*wide+2 {
		t.Errorf("%d entries", len(got))
	}
}

func TestTheFirstFault(t *testing.T) {
	// ErrTerm of any place is ahead of all sees that lead nowhere or come round.
	for _, ahead := range []string{"a->none", "a->a"} {
		for _, bad := range []api.Topic{topic(""), topic("a", "b; "), topic("b-> "), topic("\xff->b")} {
			l := []api.Source{source(topic(ahead)), source(bad)}
			_, err := keyword.Build(l)
			if f := fault.Told(err); f.Code != api.ErrTerm || f.Source != 1 {
				t.Errorf("%+v", f)
			}
		}
	}
	term := func(line int, word string) api.Fault { return api.Fault{Code: api.ErrTerm, Line: line, Word: word} }
	wantFault(t, one("\xff;\xfe"), term(1, "\xff")) // by the order of what a key, a see has
	wantFault(t, one("\xff->\xfe"), term(1, "\xff"))
	wantFault(t, one("a;\xfe", "\xff"), term(1, "\xfe"))
	wantFault(t, one("a->\xfe", "\xff->a"), term(1, "\xfe"))
	wantFault(t, one("\xff->a", "\xfe"), term(2, "\xfe")) // the keys first
	wantFault(t, one("\xff->a", "a;\xfe"), term(2, "\xfe"))
	wantFault(t, []api.Source{source(topic("a", "\xff->a"), topic("\xfe"))}, term(2, "\xff")) // but of one topic alone
	wantFault(t, []api.Source{source(topic("a", "a->\xff")), source(topic("\xfe"))}, term(2, "\xff"))
	first := api.Topic{Keys: []api.KeyRef{key("a", "", 9), key("\xff", "", 8), key("\xfe", "", 1)}} // not by their lines
	wantFault(t, []api.Source{source(first)}, term(8, "\xff"))
	// See by see.
	wantFault(t, one("a->a", "b->none"), api.Fault{Code: api.ErrSeeRing, Line: 1, Word: "a"})
	wantFault(t, one("b->none", "a->a"), api.Fault{Code: api.ErrSeeNone, Line: 1, Word: "none"})
	wantFault(t, one("b->none", "b->other"), api.Fault{Code: api.ErrSeeNone, Line: 1, Word: "none"})
	wantFault(t, one("z", "c->z", "a->b", "b->none", "b->a"), api.Fault{Code: api.ErrSeeRing, Line: 3, Word: "b"})
	wantFault(t, one("z", "c->z", "b->none", "b->a", "a->b"), api.Fault{Code: api.ErrSeeNone, Line: 3, Word: "none"})
	wantFault(t, []api.Source{source(topic("z"), topic("z->y"), topic("y->x")), source(topic("x->y"), topic("y->none"))}, api.Fault{Code: api.ErrSeeRing, Source: 0, Line: 1, Word: "x"})
	wantFault(t, []api.Source{source(topic("a->b"), topic("b", "c->C")), source(topic("a->B", "B->A"))}, api.Fault{Code: api.ErrSeeRing, Source: 0, Line: 1, Word: "b"})
	twice := []api.SeeRef{see("a", "b", 4), see("A", "B", 2), see("a", "b", 1)} // the same one twice: where it first comes
	wantFault(t, []api.Source{source(api.Topic{Sees: twice})}, api.Fault{Code: api.ErrSeeNone, Line: 4, Word: "b"})
	wantFault(t, []api.Source{source(api.Topic{Sees: append(twice, see("b", "a", 7))})}, api.Fault{Code: api.ErrSeeRing, Line: 4, Word: "b"})
}

// The chapter's examples

func TestExamples(t *testing.T) {
	s, err := src.Parse(".topic One\n.key Color; of links\n.key Print\n.topic Two\n.key print\n.key color\n.see Colour -> color\n")
	if err != nil {
		t.Fatal(err)
	}
	want := []api.Entry{entry("Color", "", []int{1}), entry("Color", "of links", []int{0}), entry("Colour", "", nil, "color"), entry("Print", "", []int{0, 1})}
	wantIndex(t, []api.Source{s}, want...)
	wantFollow(t, want, "colour", "color")
	wantCheck(t, want, 2, 0, api.OK)
	wantFault(t, one("a->a"), api.Fault{Code: 92, Line: 1, Word: "a"})
	wantFault(t, one("a->b"), api.Fault{Code: 91, Line: 1, Word: "b"})
	s.Topics[0].Sees = append(s.Topics[0].Sees, see("color", "Colour", 99))
	wantFault(t, []api.Source{{}, s}, api.Fault{Code: api.ErrSeeRing, Source: 1, Line: 99, Word: "Colour"})
	s.Topics[0].Sees, s.Topics[1].Sees = s.Topics[1].Sees, append(s.Topics[1].Sees, s.Topics[0].Sees...)
	wantFault(t, []api.Source{{}, s}, api.Fault{Code: api.ErrSeeRing, Source: 1, Line: 7, Word: "color"})
}
