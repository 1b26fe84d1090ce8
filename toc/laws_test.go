package toc_test

import (
	"math"
	"slices"
	"testing"

	"folio/api"
	"folio/fault"
	"folio/toc"
)

// dice throws numbers that are the same each time.
type dice uint64

func (d *dice) throw(n int) int {
	*d = *d*6364136223846793005 + 1442695040888963407
	return int(*d>>33) % n
}

func (d *dice) one(l ...int) int { return l[d.throw(len(l))] }

// contents throws so many entries that may be; shallow ones are of the first few Levels.
func (d *dice) contents(n int) []api.TocEntry {
	deepest := 1 + d.throw(api.MaxLevel)
	var t []api.TocEntry
	for topic := range api.MaxTopics {
		if len(t) == n {
			break
		}
		if d.throw(api.MaxTopics-topic) < n-len(t) { // so that any of them may come
			t = append(t, api.TocEntry{Topic: topic})
		}
	}
	ahead := 0
	for i := range t {
		other := i + d.throw(n-i)
		t[i], t[other] = t[other], t[i]
		t[i].Level = min(1+d.throw(ahead+1), deepest)
		if d.throw(2) == 0 {
			t[i].Level = min(ahead+1, deepest)
		}
		ahead = t[i].Level
	}
	return t
}

// subset throws some of these.
func (d *dice) subset(l []int) []int {
	var some []int
	often := 1 + d.throw(5)
	for _, n := range l {
		if d.throw(6) < often {
			some = append(some, n)
		}
	}
	return some
}

func topicsOf(t []api.TocEntry) []int {
	var l []int
	for _, e := range t {
		l = append(l, e.Topic)
	}
	return l
}

// eachShape hands over contents of all shapes of up to so many entries.
func eachShape(most int, try func(t []api.TocEntry)) {
	var grow func(levels []int)
	grow = func(levels []int) {
		try(leveled(levels...))
		if len(levels) == most {
			return
		}
		ahead := 0
		if len(levels) > 0 {
			ahead = levels[len(levels)-1]
		}
		for level := 1; level <= min(ahead+1, api.MaxLevel); level++ {
			grow(append(slices.Clone(levels), level))
		}
	}
	grow(nil)
}

// A second reckoning of the tree, by the chapter's words: who is whose parent, and all else by that.

type reckoned struct {
	t       []api.TocEntry
	parents []int
}

func reckon(t []api.TocEntry) reckoned {
	r := reckoned{t: t}
	for i, e := range t {
		parent := -1
		for n := range i {
			if t[n].Level == e.Level-1 {
				parent = n
			}
		}
		r.parents = append(r.parents, parent)
	}
	return r
}

func (r reckoned) kids(i int) []int {
	var kids []int
	for n, parent := range r.parents {
		if parent == i {
			kids = append(kids, n)
		}
	}
	return kids
}

func (r reckoned) below(i int) []int {
	var l []int
	for _, kid := range r.kids(i) {
		l = append(append(l, kid), r.below(kid)...)
	}
	return l
}

func (r reckoned) path(i int) []int {
	if i == -1 {
		return nil
	}
	return append(r.path(r.parents[i]), r.t[i].Topic)
}

func (r reckoned) isShown(i int, open []int) bool {
	parent := r.parents[i]
	return parent == -1 || slices.Contains(open, r.t[parent].Topic) && r.isShown(parent, open)
}

func (r reckoned) shown(open []int) []int {
	var l []int
	for i := range r.t {
		if r.isShown(i, open) {
			l = append(l, i)
		}
	}
	return l
}

func (r reckoned) topicAt(i int) int {
	if i < 0 || i >= len(r.t) {
		return none
	}
	return r.t[i].Topic
}

func wantAsReckoned(t *testing.T, l []api.TocEntry) {
	t.Helper()
	wantCheck(t, l, api.MaxTopics, 0, api.OK)
	r := reckon(l)
	wantKids(t, l, -1, r.kids(-1)...)
	for i, e := range l {
		wantFind(t, l, e.Topic, i)
		wantParent(t, l, i, r.parents[i])
		wantKids(t, l, i, r.kids(i)...)
		below := r.below(i)
		for n, b := range below { // the entries directly behind it
			if b != i+1+n {
				t.Fatalf("the test's own reckoning is wrong: below %d in %v: %v", i, l, below)
			}
		}
		wantEnd(t, l, i, i+1+len(below))
		wantWays(t, l, e.Topic, r.topicAt(i+1), r.topicAt(i-1), r.topicAt(r.parents[i]), r.path(i)...)
	}
}

func TestTreesAreAsReckoned(t *testing.T) {
	shapes := 0
	eachShape(8, func(l []api.TocEntry) {
		shapes++
		wantAsReckoned(t, l)
	})
	if shapes != 2056 { // the sum of the first nine of Catalan's numbers
		t.Errorf("%d shapes", shapes)
	}
	d := dice(1)
	for range 300 {
		wantAsReckoned(t, d.contents(1+d.throw(40)))
	}
}

func TestShownIsAsReckoned(t *testing.T) {
	eachShape(6, func(l []api.TocEntry) {
		r := reckon(l)
		for bits := range 1 << len(l) {
			var open []int
			for i, e := range l {
				if bits>>i&1 == 1 {
					open = append(open, e.Topic)
				}
			}
			wantShown(t, l, open, r.shown(open)...)
		}
	})
	d := dice(2)
	for range 1000 {
		l := d.contents(1 + d.throw(40))
		open := d.subset(topicsOf(l))
		for range d.throw(4) { // which counts for nothing
			open = slices.Insert(open, d.throw(len(open)+1), d.one(append(open, -1, api.MaxTopics, math.MaxInt, math.MinInt)...))
		}
		wantShown(t, l, open, reckon(l).shown(open)...)
	}
}

// A second reckoning of Check, each entry by all that are ahead of it.

func reckonedLevel(ahead []api.TocEntry, level int) bool {
	if len(ahead) == 0 {
		return level == 1
	}
	return slices.Contains([]int{1, 2, 3, 4, 5, 6, 7, 8}, level) && (level <= ahead[len(ahead)-1].Level || level-1 == ahead[len(ahead)-1].Level)
}

func reckonedCheck(l []api.TocEntry, topics int) (int, api.Errno) {
	for i, e := range l {
		if !(0 <= e.Topic && e.Topic < topics) {
			return i, api.ErrRange
		}
		if !reckonedLevel(l[:i], e.Level) {
			return i, api.ErrLevel
		}
		if slices.Contains(topicsOf(l[:i]), e.Topic) {
			return i, api.ErrTocTwice
		}
	}
	return 0, api.OK
}

// TestCheckIsAsReckoned goes over all lists of up to three entries of some topics and Levels, and over contents that are bent.
func TestCheckIsAsReckoned(t *testing.T) {
	codes := map[api.Errno]int{}
	try := func(l []api.TocEntry, topics int) {
		at, e := reckonedCheck(l, topics)
		wantCheck(t, l, topics, at, e)
		codes[e]++
	}
	var grow func(l []api.TocEntry)
	grow = func(l []api.TocEntry) {
		try(l, 3)
		if len(l) == 3 {
			return
		}
		for _, topic := range []int{-1, 0, 1, 2, 3} {
			for _, level := range []int{math.MinInt, -1, 0, 1, 2, 3, 4, 8, 9, math.MaxInt} {
				grow(append(slices.Clone(l), api.TocEntry{Topic: topic, Level: level}))
			}
		}
	}
	grow(nil)
	d := dice(3)
	for range 3000 {
		l := d.contents(1 + d.throw(30))
		for range d.throw(4) {
			e := &l[d.throw(len(l))]
			switch d.throw(3) {
			case 0:
				e.Topic = d.one(-1, math.MinInt, api.MaxTopics, math.MaxInt, d.throw(api.MaxTopics))
			case 1:
				e.Level = d.one(0, -1, 9, 1+d.throw(api.MaxLevel), math.MaxInt, math.MinInt)
			case 2:
				e.Topic = l[d.throw(len(l))].Topic
			}
		}
		try(l, d.one(api.MaxTopics, api.MaxTopics, api.MaxTopics, 900, math.MaxInt))
	}
	for _, e := range []api.Errno{api.OK, api.ErrRange, api.ErrLevel, api.ErrTocTwice} {
		if codes[e] < 500 {
			t.Errorf("answers: %v", codes)
		}
	}
}

// P10.6

func TestATree(t *testing.T) {
	d := dice(4)
	for range 300 {
		l := d.contents(1 + d.throw(40))
		parents := make([]int, len(l)) // how many each has
		var tops []int
		for i := -1; i < len(l); i++ {
			kids, _ := toc.Kids(l, i)
			for _, kid := range kids {
				parents[kid]++
				if parent, _ := toc.Parent(l, kid); parent != i {
					t.Fatalf("%d is a kid of %d, its parent is %d: %v", kid, i, parent, l)
				}
			}
			if i == -1 {
				tops = kids
			}
		}
		for i, e := range l {
			if parents[i] != 1 || slices.Contains(tops, i) != (e.Level == 1) {
				t.Fatalf("%d is a kid of %d: %v", i, parents[i], l)
			}
		}
		wantSpans(t, l)
	}
}

// wantSpans asks of any two that they lie within one another or apart.
func wantSpans(t *testing.T, l []api.TocEntry) {
	t.Helper()
	for i := range l {
		end, _ := toc.End(l, i)
		for n := i + 1; n < len(l); n++ {
			if other, _ := toc.End(l, n); n < end && other > end {
				t.Fatalf("the spans %d to %d, %d to %d: %v", i, end, n, other, l)
			}
		}
	}
}

// P10.7

func TestThereAndBack(t *testing.T) {
	d := dice(5)
	for range 300 {
		l := d.contents(1 + d.throw(40))
		walk := []int{l[0].Topic}
		for {
			at := walk[len(walk)-1]
			next, e := toc.Next(l, at)
			if e != api.OK {
				break
			}
			if back, e := toc.Prev(l, next); e != api.OK || back != at || len(walk) > len(l) {
				t.Fatalf("Next of %d is %d, Prev of that %d: %v", at, next, back, l)
			}
			walk = append(walk, next)
		}
		if !slices.Equal(walk, topicsOf(l)) {
			t.Fatalf("Next leads through %v in %v", walk, l)
		}
		for _, topic := range walk {
			wantPath(t, l, topic)
		}
	}
}

// wantPath asks of a path for its ends and its steps.
func wantPath(t *testing.T, l []api.TocEntry, topic int) {
	t.Helper()
	path, e := toc.Path(l, topic)
	if e != api.OK || len(path) == 0 || path[len(path)-1] != topic {
		t.Fatalf("Path of %d: %v, %d", topic, path, e)
	}
	if up, e := toc.Up(l, path[0]); e != api.ErrNone {
		t.Fatalf("Path of %d: %v, and still up to %d, %d", topic, path, up, e)
	}
	for i := 1; i < len(path); i++ {
		if up, e := toc.Up(l, path[i]); e != api.OK || up != path[i-1] {
			t.Fatalf("Path of %d: %v, but up of %d is %d, %d", topic, path, path[i], up, e)
		}
	}
}

// P10.8

func TestMoreIsMore(t *testing.T) {
	d := dice(6)
	for range 500 {
		l := d.contents(1 + d.throw(40))
		topics := topicsOf(l)
		open := d.subset(topics)
		some, _ := toc.Shown(l, open)
		more, _ := toc.Shown(l, append(slices.Clone(open), d.subset(topics)...))
		for _, i := range some {
			if !slices.Contains(more, i) {
				t.Fatalf("with more open %d is no longer shown: %v, %v", i, some, more)
			}
		}
		if all, _ := toc.Shown(l, topics); len(all) != len(l) {
			t.Fatalf("with all open %v are shown: %v", all, l)
		}
		tops, _ := toc.Kids(l, -1)
		wantShown(t, l, nil, tops...)
		for i, e := range l {
			path, _ := toc.Path(l, e.Topic)
			folded := slices.ContainsFunc(path[:len(path)-1], func(topic int) bool { return !slices.Contains(open, topic) })
			if slices.Contains(some, i) == folded {
				t.Fatalf("with %v open of %v is shown %v", open, l, some)
			}
		}
	}
}

// Trees of sources

// sources throws some whose Levels may be.
func (d *dice) sources() []api.Source {
	var l []api.Source
	ahead := 0
	for range 1 + d.throw(4) {
		var s api.Source
		for range d.throw(8) {
			t := topic(string(rune('a'+d.throw(26))), 0, d.throw(99))
			t.Kind = d.throw(2)
			if d.throw(3) > 0 {
				t.Level = min(1+d.throw(ahead+1), api.MaxLevel)
				ahead = t.Level
			}
			s.Topics = append(s.Topics, t)
		}
		l = append(l, s)
	}
	return l
}

// place is where a topic stands: the numbers of its source, and in that.
type place struct{ source, at int }

func places(sources []api.Source) []place {
	var l []place
	for source, s := range sources {
		for at := range s.Topics {
			l = append(l, place{source, at})
		}
	}
	return l
}

// P10.9

func TestAsTheSourcesSay(t *testing.T) {
	d := dice(7)
	for range 2000 {
		sources := d.sources()
		all := places(sources)
		l, err := toc.Tree(sources)
		if err != nil {
			t.Fatal(err)
		}
		wantCheck(t, l, len(all), 0, api.OK)
		var want []api.TocEntry
		for topic, p := range all {
			level := sources[p.source].Topics[p.at].Level
			if n, ok := toc.Find(l, topic); ok != (level != 0) || ok && l[n].Level != level {
				t.Fatalf("topic %d of Level %d is %d, %t in %v", topic, level, n, ok, l)
			}
			if level != 0 {
				want = append(want, api.TocEntry{Topic: topic, Level: level})
			}
		}
		wantTree(t, sources, want...)
	}
}

// TestTreeIsAsReckoned bends some Levels: it may be just if Check takes what would come of it, and else the first fault is that
// of the same topic.
func TestTreeIsAsReckoned(t *testing.T) {
	d := dice(8)
	good, bad := 0, 0
	for range 3000 {
		sources := d.sources()
		all := places(sources)
		if len(all) == 0 {
			continue
		}
		for range 1 + d.throw(2) {
			p := all[d.throw(len(all))]
			sources[p.source].Topics[p.at].Level = d.one(0, 1, 2, 3, 8, 9, -1, math.MaxInt, math.MinInt, 1+d.throw(api.MaxLevel))
		}
		var want []api.TocEntry
		for topic, p := range all {
			if level := sources[p.source].Topics[p.at].Level; level != 0 {
				want = append(want, api.TocEntry{Topic: topic, Level: level})
			}
		}
		at, e := reckonedCheck(want, len(all))
		if e == api.OK {
			wantTree(t, sources, want...)
			good++
			continue
		}
		p := all[want[at].Topic]
		wantLevelFault(t, sources, p.source, p.at)
		bad++
	}
	if min(good, bad) < 500 {
		t.Errorf("%d may be, %d may not", good, bad)
	}
}

// What holds everywhere

func TestNothingIsShared(t *testing.T) {
	l := example()
	open := []int{4, 0}
	for range 2 {
		kids, _ := toc.Kids(l, -1)
		path, _ := toc.Path(l, 2)
		shown, _ := toc.Shown(l, open)
		if !slices.Equal(kids, []int{0, 4}) || !slices.Equal(path, []int{4, 0, 2}) || !slices.Equal(shown, []int{0, 1, 2, 3, 4}) {
			t.Fatal(kids, path, shown)
		}
		clear(kids[:cap(kids)])
		if !slices.Equal(path, []int{4, 0, 2}) || !slices.Equal(shown, []int{0, 1, 2, 3, 4}) {
			t.Fatal("answers share memory")
		}
		clear(path[:cap(path)])
		clear(shown[:cap(shown)])
		if !slices.Equal(l, example()) || !slices.Equal(open, []int{4, 0}) {
			t.Fatalf("changed: %v, %v", l, open)
		}
	}
	shown, _ := toc.Shown(l, open)
	clear(l)
	clear(open)
	if !slices.Equal(shown, []int{0, 1, 2, 3, 4}) {
		t.Errorf("what was told goes with what was given: %v", shown)
	}
}

func TestTreesShareNothing(t *testing.T) {
	sources := []api.Source{source(topics(1, 2)...), source(topics(0, 1)...)}
	before := []api.Source{source(topics(1, 2)...), source(topics(0, 1)...)}
	want := contents(0, 1, 1, 2, 3, 1)
	for range 2 {
		l, err := toc.Tree(sources)
		if err != nil || !slices.Equal(l, want) {
			t.Fatal(l, err)
		}
		clear(l[:cap(l)])
		for n := range sources {
			if !slices.EqualFunc(sources[n].Topics, before[n].Topics, func(a, b api.Topic) bool { return a.Name == b.Name && a.Level == b.Level && a.Line == b.Line }) {
				t.Fatalf("changed: %v", sources)
			}
		}
	}
	l, _ := toc.Tree(sources)
	sources[0].Topics[0].Level = 3
	_, err := toc.Tree(sources)
	sources[0].Topics[0] = api.Topic{}
	if f := fault.Told(err); !slices.Equal(l, want) || f.Code != api.ErrLevel || f.Line != 10 || f.Word != "topic a" {
		t.Errorf("what was told goes with the sources: %v, %v", l, f)
	}
}

// TestNothingBehindAList has more behind the length of each list that is given.
func TestNothingBehindAList(t *testing.T) {
	room := contents(4, 1, 0, 2, 2, 3, 7, 2, 1, 1)
	before := slices.Clone(room)
	l := room[:2]
	wantCheck(t, l, 5, 0, api.OK)
	wantNoEntry(t, l, 2)
	wantEnd(t, l, 0, 2)
	wantKids(t, l, -1, 0)
	wantKids(t, l, 0, 1)
	wantNumberCalls(t, l, 2, api.ErrRange, api.ErrRange)
	wantWays(t, l, 0, none, 4, 4, 4, 0)
	open := []int{0, 4}
	wantShown(t, room, open[:1], 0, 4)
	wantShown(t, l, open, 0, 1)
	if !slices.Equal(room, before) || !slices.Equal(open, []int{0, 4}) {
		t.Errorf("changed: %v, %v", room, open)
	}
	levels := topics(1, 2, 9)
	sources := []api.Source{source(levels[:2]...), source(levels...)}
	wantTree(t, sources[:1], contents(0, 1, 1, 2)...)
	wantTree(t, []api.Source{{Topics: levels[:1]}}, contents(0, 1)...)
	if levels[1].Level != 2 || levels[2].Level != 9 || len(sources[1].Topics) != 3 {
		t.Errorf("changed: %v", levels)
	}
}
