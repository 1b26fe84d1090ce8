package keyword_test

import (
	"maps"
	"slices"
	"strings"
	"testing"
	"unicode/utf8"

	"folio/api"
	"folio/keyword"
	"folio/text"
)

// dice throws numbers that are the same each time.
type dice uint64

func (d *dice) throw(n int) int {
	*d = *d*6364136223846793005 + 1442695040888963407
	return int(*d>>33) % n
}

func (d *dice) one(l ...string) string { return l[d.throw(len(l))] }

// word throws one of a few, so that many come again, in one writing.
func (d *dice) word() string {
	return d.one("a", "b", "b 2", "b 10", "c", "d", "e", "é", "ж", "中", "-", "7", "ab", "a b", "ß")
}

// like throws a text that is one with s; of the empty one itself alone, since blanks may be no sub.
func (d *dice) like(s string) string {
	if s == "" {
		return s
	}
	s = d.one(s, s, strings.ReplaceAll(strings.ToUpper(s), "SS", "ß"))
	return d.one("", "", "", " ", "  ") + strings.ReplaceAll(s, " ", d.one(" ", "   ")) + d.one("", "", " ")
}

// sub throws one, or none.
func (d *dice) sub() string { return d.one("", "", d.word(), d.word()) }

// sources throws some. Each text is written as writing has it. A see goes from a word to one that is behind it in an order of its
// own (so that there are no rings), or, if loose, to any one.
func (d *dice) sources(writing func(string) string, loose bool) []api.Source {
	var l []api.Source
	line := 0
	for range 1 + d.throw(3) {
		var s api.Source
		for range d.throw(4) {
			t := api.Topic{Kind: d.throw(2)}
			for range d.throw(5) {
				line++
				t.Keys = append(t.Keys, key(writing(d.word()), writing(d.sub()), line))
			}
			for range d.throw(3) {
				line++
				from, to := d.word(), d.word()
				if !loose {
					from, to = min(from, to), max(from, to)
				}
				if from == to && !loose {
					continue
				}
				t.Sees = append(t.Sees, see(writing(from), writing(to), line))
			}
			s.Topics = append(s.Topics, t)
		}
		l = append(l, s)
	}
	return l
}

// withTerms adds a topic of all words as keys, so that no see leads nowhere.
func withTerms(l []api.Source) []api.Source {
	return append(l, source(topic("a", "b", "b 2", "b 10", "c", "d", "e", "é", "ж", "中", "-", "7", "ab", "a b", "ß")))
}

// A second reckoning of an index.

// folded goes by what the library knows of letters, which for those that are thrown here is the same.
func folded(s string) string {
	return strings.Join(strings.FieldsFunc(strings.ToLower(s), func(r rune) bool { return r == ' ' }), " ")
}

func reckonedTerm(s string) bool {
	control := func(r rune) bool { return r < 0x20 || r >= 0x7f && r < 0xa0 }
	return len(s) < 65 && utf8.ValidString(s) && !strings.ContainsFunc(s, control) && strings.Trim(s, " ") != ""
}

// topicsOf answers all topics in one list, and of each the number of its source.
func topicsOf(l []api.Source) ([]api.Topic, []int) {
	var topics []api.Topic
	var sources []int
	for n, s := range l {
		for _, t := range s.Topics {
			topics = append(topics, t)
			sources = append(sources, n)
		}
	}
	return topics, sources
}

// reckonedIndex puts entries in one behind the other, each where it belongs. It looks for each text anew among all that are
// there.
func reckonedIndex(l []api.Source) []api.Entry {
	topics, _ := topicsOf(l)
	var terms []string // in the order in which they first come
	var index []api.Entry
	at := func(term, sub string) *api.Entry {
		known := slices.IndexFunc(terms, func(s string) bool { return folded(s) == folded(term) })
		if known < 0 {
			known, terms = len(terms), append(terms, term)
		}
		n := slices.IndexFunc(index, func(e api.Entry) bool { return folded(e.Term) == folded(term) && folded(e.Sub) == folded(sub) })
		if n < 0 {
			n = 0
			for n < len(index) && before(index[n], api.Entry{Term: term, Sub: sub}) {
				n++
			}
			index = slices.Insert(index, n, api.Entry{Term: terms[known], Sub: sub})
		}
		return &index[n]
	}
	for n, t := range topics {
		for _, k := range t.Keys {
			if e := at(k.Term, k.Sub); !slices.Contains(e.Topics, n) {
				e.Topics = append(e.Topics, n)
			}
		}
		for _, s := range t.Sees {
			e := at(s.From, "")
			if slices.ContainsFunc(e.Sees, func(to string) bool { return folded(to) == folded(s.To) }) {
				continue
			}
			n := 0
			for n < len(e.Sees) && text.Compare(folded(e.Sees[n]), folded(s.To)) < 0 {
				n++
			}
			e.Sees = slices.Insert(e.Sees, n, s.To)
		}
	}
	return index
}

// before answers whether one entry stands ahead of another one.
func before(a, b api.Entry) bool {
	c := text.Compare(folded(a.Term), folded(b.Term))
	return c < 0 || c == 0 && text.Compare(folded(a.Sub), folded(b.Sub)) < 0
}

// ways answers from which terms one comes to which, by Folds, with at least one step.
func ways(l []api.Entry) map[[2]string]int {
	steps := map[[2]string]int{}
	terms := map[string]int{}
	for _, e := range l {
		for _, s := range e.Sees {
			if e.Sub == "" {
				steps[[2]string{folded(e.Term), folded(s)}] = 1
				terms[folded(e.Term)], terms[folded(s)] = 1, 1
			}
		}
	}
	for k := range terms {
		for i := range terms {
			for j := range terms {
				if steps[[2]string{i, k}] == 1 && steps[[2]string{k, j}] == 1 {
					steps[[2]string{i, j}] = 1
				}
			}
		}
	}
	return steps
}

// reckonedSee answers what is wrong with a see.
func reckonedSee(l []api.Entry, all map[[2]string]int, from, to string) api.Errno {
	if !slices.ContainsFunc(l, func(e api.Entry) bool { return folded(e.Term) == folded(to) }) {
		return api.ErrSeeNone
	}
	if folded(from) == folded(to) || all[[2]string{folded(to), folded(from)}] == 1 {
		return api.ErrSeeRing
	}
	return api.OK
}

func reckonedFault(l []api.Source) api.Fault {
	topics, sources := topicsOf(l)
	for n, t := range topics {
		for _, k := range t.Keys {
			for i, s := range []string{k.Term, k.Sub} {
				if !reckonedTerm(s) && (i == 0 || s != "") {
					return api.Fault{Code: api.ErrTerm, Source: sources[n], Line: k.Line, Word: s}
				}
			}
		}
		for _, r := range t.Sees {
			for _, s := range []string{r.From, r.To} {
				if !reckonedTerm(s) {
					return api.Fault{Code: api.ErrTerm, Source: sources[n], Line: r.Line, Word: s}
				}
			}
		}
	}
	index := reckonedIndex(l)
	all := ways(index)
	for n, t := range topics {
		for _, r := range t.Sees {
			if e := reckonedSee(index, all, r.From, r.To); e != api.OK {
				return api.Fault{Code: e, Source: sources[n], Line: r.Line, Word: r.To}
			}
		}
	}
	return api.Fault{}
}

func TestBuildIsAsReckoned(t *testing.T) {
	d := dice(1)
	codes := map[api.Errno]int{}
	for range 6000 {
		l := d.sources(d.like, d.throw(4) == 0)
		if d.throw(5) > 0 {
			l = withTerms(l)
		}
		if d.throw(4) == 0 {
			d.spoil(l)
		}
		f := reckonedFault(l)
		codes[f.Code]++
		if f.Code == api.OK {
			wantIndex(t, l, reckonedIndex(l)...)
		} else {
			wantFault(t, l, f)
		}
	}
	for _, e := range []api.Errno{api.OK, api.ErrTerm, api.ErrSeeNone, api.ErrSeeRing} {
		if codes[e] < 150 {
			t.Errorf("%d came %d times alone", e, codes[e])
		}
	}
}

// spoil puts texts that may not be into some keys and sees.
func (d *dice) spoil(l []api.Source) {
	for _, s := range l {
		for _, t := range s.Topics {
			for n := range t.Keys {
				switch d.throw(30) {
				case 0:
					t.Keys[n].Term = d.one(append(badTexts(), "")...)
				case 1:
					t.Keys[n].Sub = d.one(badTexts()...)
				}
			}
			for n := range t.Sees {
				switch d.throw(30) {
				case 0:
					t.Sees[n].From = d.one(append(badTexts(), "")...)
				case 1:
					t.Sees[n].To = d.one(append(badTexts(), "")...)
				}
			}
		}
	}
}

// P9.3

func reckonedCheck(l []api.Entry, topics int) (int, api.Errno) {
	for n, e := range l {
		bad := func(s string) bool { return !reckonedTerm(s) }
		switch {
		case bad(e.Term), e.Sub != "" && bad(e.Sub), slices.ContainsFunc(e.Sees, bad):
			return n, api.ErrTerm
		case len(e.Topics)+len(e.Sees) == 0, len(e.Sees) > 0 && e.Sub != "":
			return n, api.ErrRange
		case slices.ContainsFunc(e.Topics, func(i int) bool { return i < 0 || i >= topics }):
			return n, api.ErrRange
		}
		for i := range len(e.Topics) - 1 {
			if e.Topics[i] >= e.Topics[i+1] {
				return n, api.ErrRange
			}
		}
		for i := range len(e.Sees) - 1 {
			if text.Compare(folded(e.Sees[i]), folded(e.Sees[i+1])) != -1 {
				return n, api.ErrRange
			}
		}
		if n == 0 {
			continue
		}
		if ahead := l[n-1]; !before(ahead, e) || folded(ahead.Term) == folded(e.Term) && ahead.Term != e.Term {
			return n, api.ErrForm
		}
	}
	all := ways(l)
	for n, e := range l {
		for _, s := range e.Sees {
			if err := reckonedSee(l, all, e.Term, s); err != api.OK {
				return n, err
			}
		}
	}
	return 0, api.OK
}

// bend changes something of a list.
func (d *dice) bend(l []api.Entry) []api.Entry {
	n := d.throw(len(l))
	e := &l[n]
	switch d.throw(14) {
	case 0:
		e.Term = d.like(e.Term)
	case 1:
		e.Term = d.word()
	case 2:
		e.Term = d.one(append(badTexts(), "")...)
	case 3:
		e.Sub = d.one(d.like(e.Sub), d.word(), d.one(badTexts()...))
	case 4:
		e.Sees = append(e.Sees, d.like(d.word()))
	case 5:
		e.Sees = append(e.Sees, d.one("none", "", "\xff"))
	case 6:
		e.Sees = append(e.Sees, e.Term)
	case 7:
		slices.Reverse(e.Sees)
	case 8:
		e.Topics = append(e.Topics, d.throw(20)-2)
	case 9:
		e.Topics = nil
	case 10:
		slices.Reverse(e.Topics)
	case 11:
		m := d.throw(len(l))
		l[n], l[m] = l[m], l[n]
	case 12:
		l = slices.Delete(l, n, n+1)
	case 13:
		l = slices.Insert(l, n, api.Entry{Term: d.like(e.Term), Sub: d.like(e.Sub), Topics: zero()})
	}
	return l
}

func TestCheckIsAsReckoned(t *testing.T) {
	d := dice(2)
	codes := map[api.Errno]int{}
	for range 12000 {
		l := built(t, withTerms(d.sources(d.like, false)[:1]))
		topics := 5 - d.throw(3)
		for range d.throw(4) {
			if len(l) > 0 {
				l = d.bend(l)
			}
		}
		at, e := reckonedCheck(l, topics)
		codes[e]++
		wantCheck(t, l, topics, at, e)
	}
	for _, e := range []api.Errno{api.OK, api.ErrTerm, api.ErrRange, api.ErrForm, api.ErrSeeNone, api.ErrSeeRing} {
		if codes[e] < 150 {
			t.Errorf("%d came %d times alone", e, codes[e])
		}
	}
}

// P9.4, P9.5

// entries throws a list of any entries.
func (d *dice) entries() []api.Entry {
	var l []api.Entry
	for range d.throw(12) {
		e := api.Entry{Term: d.like(d.word()), Sub: d.like(d.sub())}
		e.Term = d.one(e.Term, e.Term, e.Term, e.Term, e.Term, "", " ", "\xff", "a\t", longest()+"N")
		e.Sub = d.one(e.Sub, e.Sub, e.Sub, e.Sub, e.Sub, e.Sub, " ", "\xff") // blanks are a text, too
		for range d.throw(3) {
			e.Topics = append(e.Topics, d.throw(10)-2)
		}
		for range d.throw(3) {
			e.Sees = append(e.Sees, d.one(d.like(d.word()), d.like(d.word()), d.like(d.word()), "", " ", "\xff", "\xfe", "None"))
		}
		l = append(l, e)
	}
	return l
}

// bytewise folds a text in which bad bytes may stand.
func bytewise(s string) string {
	var b strings.Builder
	for len(s) > 0 {
		r, n := utf8.DecodeRuneInString(s)
		if r == utf8.RuneError && n == 1 {
			b.WriteByte(s[0])
		} else {
			b.WriteString(strings.ToLower(string(r)))
		}
		s = s[n:]
	}
	return strings.Join(strings.FieldsFunc(b.String(), func(r rune) bool { return r == ' ' }), " ")
}

func wantAsked(t *testing.T, l []api.Entry, s string) {
	t.Helper()
	var find, under, topics, starting []int
	for n, e := range l {
		if strings.HasPrefix(bytewise(e.Term), bytewise(s)) {
			starting = append(starting, n)
		}
		if bytewise(e.Term) != bytewise(s) {
			continue
		}
		topics = append(topics, e.Topics...)
		if e.Sub == "" {
			find = append(find, n)
		} else {
			under = append(under, n)
		}
	}
	wantFind(t, l, s, find...)
	wantUnder(t, l, s, under...)
	wantTopics(t, l, s, slices.Sorted(maps.Keys(set(topics)))...)
	wantStarting(t, l, s, starting...)
	wantFollow(t, l, s, reckonedFollow(l, s)...)
}

func set(l []int) map[int]int {
	out := map[int]int{}
	for _, n := range l {
		out[n] = 1
	}
	return out
}

// reckonedFollow goes over the list again and again, till nothing comes in addition.
func reckonedFollow(l []api.Entry, s string) []string {
	come := []string{bytewise(s)}
	for more := true; more; {
		more = false
		for _, e := range l {
			for _, to := range e.Sees {
				if e.Sub == "" && slices.Contains(come, bytewise(e.Term)) && !slices.Contains(come, bytewise(to)) {
					come = append(come, bytewise(to))
					more = true
				}
			}
		}
	}
	come = come[1:]
	slices.SortFunc(come, text.Compare)
	return come
}

func TestAskingIsAsReckoned(t *testing.T) {
	d := dice(3)
	for range 2500 {
		l := d.entries()
		for _, s := range []string{d.like(d.word()), d.like(d.word()), d.word(), "", "\xff", "\xfe", "NONE", d.one("a\t", longest()+"n", "  ", "\xe4", "\xd0")} {
			wantAsked(t, l, s)
		}
		var told []any
		for n, e := range l {
			if g := text.Group(bytewise(e.Term)); n == 0 || g != text.Group(bytewise(l[n-1].Term)) {
				told = append(told, g, n)
			}
		}
		wantHeadings(t, l, told...)
	}
}

// P9.6

func TestAllOfItIsThere(t *testing.T) {
	d := dice(4)
	for range 2000 {
		l := withTerms(d.sources(d.like, false))
		index := built(t, l)
		topics, _ := topicsOf(l)
		wantCheck(t, index, len(topics), 0, api.OK)
		wantCheck(t, index, api.MaxTopics, 0, api.OK)
		for n, topic := range topics {
			for _, k := range topic.Keys {
				if !slices.Contains(keyword.Topics(index, k.Term), n) {
					t.Fatalf("Topics %q has no %d:%s", k.Term, n, shown(index))
				}
				numbers := keyword.Find(index, k.Term)
				if k.Sub != "" {
					numbers = keyword.Under(index, k.Term)
				}
				if !slices.ContainsFunc(numbers, func(i int) bool {
					return folded(index[i].Sub) == folded(k.Sub) && slices.Contains(index[i].Topics, n)
				}) {
					t.Fatalf("no entry has the key %q; %q of %d:%s", k.Term, k.Sub, n, shown(index))
				}
			}
			for _, s := range topic.Sees {
				if !slices.Contains(keyword.Follow(index, s.From), folded(s.To)) {
					t.Fatalf("one doesn't come from %q to %q:%s", s.From, s.To, shown(index))
				}
			}
		}
		for _, e := range index {
			for _, n := range e.Topics {
				if !slices.ContainsFunc(topics[n].Keys, func(k api.KeyRef) bool {
					return folded(k.Term) == folded(e.Term) && folded(k.Sub) == folded(e.Sub)
				}) {
					t.Fatalf("the topic %d has no such key: %q; %q", n, e.Term, e.Sub)
				}
			}
			if e.Sub == "" && len(keyword.Find(index, e.Term)) != 1 {
				t.Fatalf("Find %q: not one:%s", e.Term, shown(index))
			}
		}
	}
}

// P9.7

func TestNoOrderOfSources(t *testing.T) {
	d := dice(5)
	moved := 0
	for range 2000 {
		l := withTerms(d.sources(func(s string) string { return s }, false))
		index := built(t, l)
		order := make([]int, len(l)) // the sources' numbers as they will stand
		for n := range order {
			order[n] = n
		}
		for n := range order {
			m := d.throw(len(order))
			order[n], order[m] = order[m], order[n]
		}
		var other []api.Source
		var numbers []int // of the topics, as they were
		for _, n := range order {
			first := 0
			for _, s := range l[:n] {
				first += len(s.Topics)
			}
			for at := range l[n].Topics {
				numbers = append(numbers, first+at)
			}
			other = append(other, l[n])
		}
		back := built(t, other)
		for n := range back {
			for i, topic := range back[n].Topics {
				back[n].Topics[i] = numbers[topic]
			}
			slices.Sort(back[n].Topics)
		}
		if !slices.EqualFunc(index, back, sameEntry) {
			t.Fatalf("in the order %v:%s\nas they were:%s", order, shown(back), shown(index))
		}
		if !slices.IsSorted(numbers) {
			moved++
		}
	}
	if moved < 500 {
		t.Errorf("moved %d times alone", moved)
	}
}

// P9.8

func TestHeadingsOnce(t *testing.T) {
	d := dice(6)
	for range 2000 {
		var many api.Topic
		for range d.throw(40) {
			word := d.one("a", "Ä", "æ", "e", "É", "ez", "ß", "st", "Þ", "t", "ω", "Ж", "中", "-", "(", "1", "10", "\u0301", "z", "y") + d.one("", "a", "-", "1", " b", "z")
			many.Keys = append(many.Keys, key(word, d.sub(), 1))
		}
		index := built(t, []api.Source{source(many)})
		wantCheck(t, index, 1, 0, api.OK)
		headings := keyword.Headings(index)
		names := map[string]int{}
		for n, h := range headings {
			names[h.Name]++
			if letter := len(h.Name) == 1 && h.Name[0] >= 'A' && h.Name[0] <= 'Z'; letter && names[h.Name] > 1 {
				t.Fatalf("%q twice: %v%s", h.Name, headings, shown(index))
			}
			end := len(index)
			if n+1 < len(headings) {
				end = headings[n+1].At
			}
			if h.At >= end || n == 0 && h.At != 0 {
				t.Fatalf("Headings: %v%s", headings, shown(index))
			}
			for _, e := range index[h.At:end] {
				if text.Group(text.Fold(e.Term)) != h.Name {
					t.Fatalf("%q under %q", e.Term, h.Name)
				}
			}
		}
		if len(headings) == 0 && len(index) > 0 {
			t.Fatalf("no headings:%s", shown(index))
		}
	}
}

// What holds everywhere

func TestNothingIsShared(t *testing.T) {
	sources := []api.Source{source(topic("c", "a;s", "b", "q->c", "q->B"), topic("a", "b", "a->b"))}
	before := []api.Source{source(topic("c", "a;s", "b", "q->c", "q->B"), topic("a", "b", "a->b"))}
	want := []api.Entry{entry("a", "", []int{1}, "b"), entry("a", "s", []int{0}), entry("b", "", []int{0, 1}), entry("c", "", []int{0}), entry("q", "", nil, "B", "c")}
	first := built(t, sources)
	for range 2 {
		got := built(t, sources)
		if !slices.EqualFunc(got, want, sameEntry) {
			t.Fatalf("Build:%s", shown(got))
		}
		for n := range got { // what stands behind a list's length belongs to no other list either
			clear(got[n].Topics[:cap(got[n].Topics)])
			clear(got[n].Sees[:cap(got[n].Sees)])
			for m := range got[n+1:] {
				if !sameEntry(got[n+1+m], want[n+1+m]) {
					t.Fatalf("the lists of %d and %d are one", n, n+1+m)
				}
			}
		}
		clear(got[:cap(got)])
	}
	for n, topic := range sources[0].Topics {
		if !slices.Equal(topic.Keys, before[0].Topics[n].Keys) || !slices.Equal(topic.Sees, before[0].Topics[n].Sees) {
			t.Fatal("changed")
		}
		clear(topic.Keys)
		clear(topic.Sees)
	}
	if !slices.EqualFunc(first, want, sameEntry) {
		t.Errorf("what was told goes with the sources:%s", shown(first))
	}

	l := []api.Entry{entry("b", "", []int{3, 1}, "c", "a"), entry("b", "s", []int{2}), entry("a", "", []int{7}, "z")}
	same := []api.Entry{entry("b", "", []int{3, 1}, "c", "a"), entry("b", "s", []int{2}), entry("a", "", []int{7}, "z")}
	for range 2 {
		wantFind(t, l, "b", 0)
		wantUnder(t, l, "b", 1)
		wantTopics(t, l, "a", 7)
		wantTopics(t, l, "b", 1, 2, 3)
		wantFollow(t, l, "b", "a", "c", "z")
		wantStarting(t, l, "", 0, 1, 2)
		wantHeadings(t, l, "B", 0, "A", 2)
		wantCheck(t, l, 9, 0, api.ErrRange)
		for _, got := range [][]int{keyword.Find(l, "b"), keyword.Under(l, "b"), keyword.Topics(l, "a"), keyword.Topics(l, "b"), keyword.Starting(l, "")} {
			clear(got[:cap(got)])
		}
		follow, headings := keyword.Follow(l, "b"), keyword.Headings(l)
		clear(follow[:cap(follow)])
		clear(headings[:cap(headings)])
		if !slices.EqualFunc(l, same, sameEntry) {
			t.Fatalf("changed:%s", shown(l))
		}
	}
}

// TestNothingBehindAList has more behind the length of each list that is given.
func TestNothingBehindAList(t *testing.T) {
	whole := topic("a", "\xff", "a->a", "b->none")
	whole.Sees[0] = see("b", "a", 3)
	topics := []api.Topic{{Keys: whole.Keys[:1], Sees: whole.Sees[:1]}, whole}
	sources := []api.Source{{Topics: topics[:1]}, {Topics: topics}}
	wantIndex(t, sources[:1], entry("a", "", []int{0}), entry("b", "", nil, "a"))
	wantFault(t, []api.Source{source(whole)}, api.Fault{Code: api.ErrTerm, Line: 2, Word: "\xff"})
	if whole.Keys[1].Term != "\xff" || whole.Sees[1].To != "none" || len(topics[1].Keys) != 2 || len(sources[1].Topics) != 2 {
		t.Error("changed")
	}

	numbers, sees := []int{0, 9}, []string{"b", "a", "\xff"}
	room := []api.Entry{{Term: "a", Topics: numbers[:1], Sees: sees[:1]}, entry("b", "", zero()), entry("a", "", []int{5}, "z"), entry("\xff", "", nil)}
	l := room[:2]
	wantCheck(t, l, 1, 0, api.OK)
	wantFind(t, l, "a", 0)
	wantTopics(t, l, "a", 0)
	wantFollow(t, l, "a", "b")
	wantStarting(t, l, "", 0, 1)
	wantHeadings(t, l, "A", 0, "B", 1)
	if numbers[1] != 9 || sees[1] != "a" || sees[2] != "\xff" || !sameEntry(room[2], entry("a", "", []int{5}, "z")) {
		t.Error("changed")
	}
}

// TestNothingIsKept asks again behind faults and other lists.
func TestNothingIsKept(t *testing.T) {
	for _, l := range [][]api.Source{one("a", "b->c"), one("A", "A;B"), one("A", "\xff"), one("A->A"), make([]api.Source, api.MaxSources+1)} {
		keyword.Build(l)
		wantIndex(t, one("a"), entry("a", "", zero()))
		keyword.Check([]api.Entry{entry("A", "", nil, "A")}, 1)
		wantCheck(t, []api.Entry{entry("a", "", zero())}, 1, 0, api.OK)
		wantFollow(t, []api.Entry{entry("a", "", nil, "b")}, "a", "b")
	}
}
