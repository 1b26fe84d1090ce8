package link_test

import (
	"math"
	"slices"
	"strings"
	"testing"

	"folio/api"
	"folio/fault"
	"folio/link"
	"folio/names"
)

// dice throws numbers that are the same each time.
type dice uint64

func (d *dice) throw(n int) int {
	*d = *d*6364136223846793005 + 1442695040888963407
	return int(*d>>33) % n
}

func (d *dice) one(l ...string) string { return l[d.throw(len(l))] }

// refs throws so many references among so many topics, some of which don't count.
func (d *dice) refs(n, topics int) []api.Refer {
	var l []api.Refer
	for range n {
		r := api.Refer{From: d.throw(topics), To: d.throw(topics), Note: d.throw(2), Line: d.throw(9)}
		switch d.throw(12) {
		case 0:
			r.From = d.outside(topics)
		case 1:
			r.To = d.outside(topics)
		}
		l = append(l, r)
	}
	return l
}

func (d *dice) outside(topics int) int {
	l := []int{-1, -2, math.MinInt, topics, topics + 1, math.MaxInt}
	return l[d.throw(len(l))]
}

// A second reckoning of ways.

const far = 1 << 20

// steps answers how many references lead at least from each topic to each, or far.
func steps(l []api.Refer, topics int) [][]int {
	far := slices.Repeat([]int{far}, topics)
	var out [][]int
	for n := range topics {
		out = append(out, slices.Clone(far))
		out[n][n] = 0
	}
	for _, r := range l {
		if min(r.From, r.To) >= 0 && max(r.From, r.To) < topics && r.From != r.To {
			out[r.From][r.To] = 1
		}
	}
	for k := range topics {
		for i := range topics {
			for j := range topics {
				out[i][j] = min(out[i][j], out[i][k]+out[k][j])
			}
		}
	}
	return out
}

// firstWay takes at each topic the least of those that lie on a shortest way.
func firstWay(dist [][]int, from, to int) []int {
	way := []int{from}
	for from != to {
		for n := range dist {
			if dist[from][n] == 1 && dist[n][to] == dist[from][to]-1 {
				from = n
				break
			}
		}
		way = append(way, from)
	}
	return way
}

func reckonedEnds(l []api.Refer, topics int, topic int) (out, into []int) {
	for n := range topics {
		if slices.ContainsFunc(l, func(r api.Refer) bool { return r.From == topic && r.To == n }) {
			out = append(out, n)
		}
		if slices.ContainsFunc(l, func(r api.Refer) bool { return r.To == topic && r.From == n }) {
			into = append(into, n)
		}
	}
	return out, into
}

func TestWalksAreAsReckoned(t *testing.T) {
	d := dice(1)
	for range 1500 {
		topics := 1 + d.throw(12)
		l := d.refs(d.throw(30), topics)
		dist := steps(l, topics)
		var orphans []int
		for n := range topics {
			out, into := reckonedEnds(l, topics, n)
			wantOut(t, l, topics, n, out...)
			wantInto(t, l, topics, n, into...)
			if len(into) == 0 || slices.Equal(into, []int{n}) {
				orphans = append(orphans, n)
			}
			var reach []int
			for to := range topics {
				if dist[n][to] >= far {
					wantNoWay(t, l, topics, n, to)
					continue
				}
				reach = append(reach, to)
				wantWay(t, l, topics, firstWay(dist, n, to)...)
			}
			wantReach(t, l, topics, n, reach...)
		}
		wantOrphans(t, l, topics, orphans...)
	}
}

// TestWaysAreTheFirst goes over all ways without a topic twice.
func TestWaysAreTheFirst(t *testing.T) {
	d := dice(2)
	several := 0
	for range 5000 {
		topics := 4 + d.throw(4)
		l := slices.DeleteFunc(d.refs(topics+d.throw(4*topics), topics), func(r api.Refer) bool {
			return r.From == 0 && r.To == topics-1 // a step alone is no choice
		})
		var best []int
		shortest := 0
		var visit func(way []int)
		visit = func(way []int) {
			at := way[len(way)-1]
			switch {
			case at == topics-1 && (best == nil || len(way) < len(best)):
				best, shortest = slices.Clone(way), 1
			case at == topics-1 && len(way) == len(best):
				shortest++
				if slices.Compare(way, best) < 0 {
					best = slices.Clone(way)
				}
			case at != topics-1:
				out, _ := reckonedEnds(l, topics, at)
				for _, n := range out {
					if !slices.Contains(way, n) {
						visit(append(slices.Clone(way), n))
					}
				}
			}
		}
		visit([]int{0})
		if best == nil {
			wantNoWay(t, l, topics, 0, topics-1)
		} else {
			wantWay(t, l, topics, best...)
		}
		several += min(max(shortest-1, 0), 1)
	}
	if several < 300 {
		t.Errorf("several shortest ways: %d times alone", several)
	}
}

// P8.5, P8.6

func TestThereAndBack(t *testing.T) {
	d := dice(3)
	for range 800 {
		topics := 1 + d.throw(10)
		l := d.refs(d.throw(25), topics)
		orphans, _ := link.Orphans(l, topics)
		for a := range topics {
			into, _ := link.Into(l, topics, a)
			others := slices.ContainsFunc(into, func(n int) bool { return n != a })
			if slices.Contains(orphans, a) == others {
				t.Fatalf("Orphans %v, Into of %d %v", orphans, a, into)
			}
			for b := range topics {
				out, _ := link.Out(l, topics, b)
				if slices.Contains(out, a) != slices.Contains(into, b) {
					t.Fatalf("Out of %d %v, Into of %d %v", b, out, a, into)
				}
			}
		}
	}
}

func TestAWayIsOne(t *testing.T) {
	d := dice(4)
	for range 500 {
		topics := 1 + d.throw(10)
		l := d.refs(d.throw(25), topics)
		for from := range topics {
			reach, _ := link.Reach(l, topics, from)
			for to := range topics {
				way, e := link.Way(l, topics, from, to)
				if (e == api.OK) != slices.Contains(reach, to) {
					t.Fatalf("Reach of %d %v, Way to %d: %d", from, reach, to, e)
				}
				wantSteps(t, l, topics, way)
			}
			for _, n := range reach {
				further, _ := link.Reach(l, topics, n)
				for _, m := range further {
					if !slices.Contains(reach, m) {
						t.Fatalf("Reach of %d %v, of %d in it %v", from, reach, n, further)
					}
				}
			}
		}
	}
}

// wantSteps asks of a way that each step refers to the next, and that no topic stands on it twice.
func wantSteps(t *testing.T, l []api.Refer, topics int, way []int) {
	t.Helper()
	for i, n := range way {
		if slices.Contains(way[:i], n) {
			t.Fatalf("twice on a way: %v", way)
		}
		if i == 0 {
			continue
		}
		if out, _ := link.Out(l, topics, way[i-1]); !slices.Contains(out, n) {
			t.Fatalf("no step to %d: %v", n, way)
		}
	}
}

// References of sources

// A book is sources with the directory of their topics.
type book struct {
	sources []api.Source
	dir     []api.Named
}

// book throws some, whose links and notes are all good.
func (d *dice) book(t *testing.T) book {
	t.Helper()
	var b book
	n := 0
	for range 1 + d.throw(4) {
		s := api.Source{}
		for range d.throw(5) {
			name := "Topic " + strings.Repeat("x", n)
			s.Topics = append(s.Topics, api.Topic{Name: name, Kind: d.throw(2), Line: d.throw(99)})
			n++
		}
		b.sources = append(b.sources, s)
	}
	dir, err := names.Collect(b.sources)
	if err != nil {
		t.Fatal(err)
	}
	b.dir = dir
	for _, s := range b.sources {
		for at := range s.Topics {
			for range d.throw(4) {
				s.Topics[at].Blocks = append(s.Topics[at].Blocks, api.Block{Kind: api.BlockKind(1 + d.throw(6)), Text: d.pieces(dir)})
			}
		}
	}
	return b
}

func (d *dice) pieces(dir []api.Named) []api.Inline {
	var l []api.Inline
	for range d.throw(5) {
		to := dir[d.throw(len(dir))]
		p := api.Inline{Kind: api.InlineKind(1 + d.throw(7)), Name: d.like(to.Name), Line: d.throw(99), Col: d.throw(99)}
		if p.Kind == api.InLink && to.Kind == api.KindNote {
			p.Kind = api.InNote
		} else if p.Kind == api.InNote && to.Kind == api.KindTopic {
			p.Kind = api.InLink
		}
		l = append(l, p)
	}
	return l
}

// like throws a name that is one name with s.
func (d *dice) like(s string) string {
	s = d.one(s, strings.ToUpper(s), strings.ToLower(s))
	return d.one("", " ", "  ") + strings.ReplaceAll(s, " ", d.one(" ", "   ")) + d.one("", " ")
}

// spot is where a reference stands.
type spot struct{ source, topic, at, block, piece int }

func (b book) spots() []spot {
	var l []spot
	n := 0
	for source, s := range b.sources {
		for at, t := range s.Topics {
			for block, bl := range t.Blocks {
				for piece, p := range bl.Text {
					if p.Kind == api.InLink || p.Kind == api.InNote {
						l = append(l, spot{source, n, at, block, piece})
					}
				}
			}
			n++
		}
	}
	return l
}

func (b book) piece(s spot) *api.Inline {
	return &b.sources[s.source].Topics[s.at].Blocks[s.block].Text[s.piece]
}

// reckoned goes over the directory by hand.
func (b book) reckoned(s spot) api.Refer {
	p := b.piece(s)
	to := slices.IndexFunc(b.dir, func(d api.Named) bool {
		return strings.Join(strings.Fields(strings.ToLower(p.Name)), " ") == d.Norm
	})
	r := api.Refer{From: s.topic, To: to, Name: p.Name, Line: p.Line, Col: p.Col}
	if p.Kind == api.InNote {
		r.Note = 1
	}
	return r
}

func TestRefsAreAsReckoned(t *testing.T) {
	d := dice(5)
	kinds := map[int]int{}
	for range 1500 {
		b := d.book(t)
		var told []api.Refer
		for _, s := range b.spots() {
			r := b.reckoned(s)
			kinds[r.Note]++
			told = append(told, r)
			if b.dir[r.To].Kind != r.Note { // P8.4
				t.Fatalf("the test's own reference is wrong: %+v", r)
			}
		}
		wantRefs(t, b.sources, b.dir, told...)
	}
	if min(kinds[0], kinds[1]) < 1000 {
		t.Errorf("links and notes: %v", kinds)
	}
}

// TestRefsTellTheFirstFault makes some references bad.
func TestRefsTellTheFirstFault(t *testing.T) {
	d := dice(6)
	codes := map[api.Errno]int{}
	for range 1500 {
		b := d.book(t)
		spots := b.spots()
		if len(spots) == 0 {
			continue
		}
		bad := map[spot]api.Errno{}
		for range 1 + d.throw(3) {
			s := spots[d.throw(len(spots))]
			p := b.piece(s)
			bad[s] = api.ErrBroken
			if p.Name = d.one("", "none", "\xff", "Topic  yy", longest()+"n", "*"); p.Name == "*" {
				bad[s] = api.ErrOther
				p.Name = d.like(b.dir[d.throw(len(b.dir))].Name)
				p.Kind = api.InLink
				if b.dir[b.reckoned(s).To].Kind == api.KindTopic {
					p.Kind = api.InNote
				}
			}
		}
		at := slices.IndexFunc(spots, func(s spot) bool { return bad[s] != api.OK })
		s := spots[at]
		codes[bad[s]]++
		p := b.piece(s)
		wantFault(t, b.sources, b.dir, api.Fault{Code: bad[s], Source: s.source, Line: p.Line, Col: p.Col, Word: p.Name})
	}
	if min(codes[api.ErrBroken], codes[api.ErrOther]) < 100 {
		t.Errorf("faults: %v", codes)
	}
}

// P8.7

func TestTheFirstBrokenOne(t *testing.T) {
	d := dice(7)
	for range 800 {
		b := d.book(t)
		if _, err := link.Refs(b.sources, b.dir); err != nil {
			t.Fatal(err)
		}
		p := api.Inline{Kind: api.InLink + api.InlineKind(d.throw(2)), Name: d.one("Nowhere", "Topic y", "topic-"), Line: d.throw(99), Col: d.throw(99)}
		at := len(b.sources) - 1
		b.sources[at].Topics = append(b.sources[at].Topics, topic("last", p))
		want := api.Fault{Code: api.ErrBroken, Source: at, Line: p.Line, Col: p.Col, Word: p.Name}
		wantFault(t, b.sources, b.dir, want)
		if spots := b.spots(); len(spots) > 1 { // but not, if there was one
			first := b.piece(spots[d.throw(len(spots)-1)])
			first.Name, first.Line = "Elsewhere", 1000
			_, err := link.Refs(b.sources, b.dir)
			if f := fault.Told(err); f.Line != 1000 || f.Word != "Elsewhere" {
				t.Fatalf("the fault of the last one is told: %+v", f)
			}
		}
	}
}

// What holds everywhere

func TestNothingIsShared(t *testing.T) {
	l := refs(0, 2, 0, 1, 1, 2, 2, 0, 3, 0)
	before := slices.Clone(l)
	for range 2 {
		wantOut(t, l, 5, 0, 1, 2)
		wantInto(t, l, 5, 0, 2, 3)
		wantReach(t, l, 5, 3, 0, 1, 2, 3)
		wantWay(t, l, 5, 3, 0, 2)
		wantOrphans(t, l, 5, 3, 4)
		for _, call := range all(l, 5, 0) {
			got, _ := call()
			clear(got[:cap(got)])
		}
		if !slices.Equal(l, before) {
			t.Fatalf("changed: %+v", l)
		}
	}

	sources := []api.Source{source(topic("a", linkTo("B", 1, 2), noteTo("c", 3, 4)), topic("b"))}
	dir := dirOf("a", "b", "*c")
	told := []api.Refer{{To: 1, Name: "B", Line: 1, Col: 2}, {To: 2, Note: 1, Name: "c", Line: 3, Col: 4}}
	for range 2 {
		got, err := link.Refs(sources, dir)
		if err != nil || !slices.Equal(got, told) {
			t.Fatalf("%+v, %v", got, err)
		}
		clear(got[:cap(got)])
	}
	wantRefs(t, sources, dir, told...)
	got, _ := link.Refs(sources, dir)
	sources[0].Topics[0].Blocks[0].Text[0] = linkTo("x", 0, 0)
	clear(dir)
	if !slices.Equal(got, told) {
		t.Errorf("what was told goes with the sources: %+v", got)
	}
	wantFault(t, sources, dir, api.Fault{Code: api.ErrBroken, Word: "x"}) // nothing is kept from the calls ahead
}

// TestNothingBehindAList has more behind the length of each list that is given.
func TestNothingBehindAList(t *testing.T) {
	room := refs(0, 1, 1, 2, 2, 3, 3, 0, 0, 3)
	before := slices.Clone(room)
	wantOut(t, room[:2], 4, 0, 1)
	wantInto(t, room[:2], 4, 3)
	wantReach(t, room[:2], 4, 0, 0, 1, 2)
	wantNoWay(t, room[:2], 4, 0, 3)
	wantOrphans(t, room[:2], 4, 0, 3)
	if !slices.Equal(room, before) {
		t.Errorf("changed: %+v", room)
	}

	pieces := []api.Inline{linkTo("a", 1, 2), linkTo("none", 3, 4)}
	blocks := []api.Block{{Text: pieces[:1]}, {Text: pieces}}
	topics := []api.Topic{{Blocks: blocks[:1]}, {Blocks: blocks}}
	sources := []api.Source{{Topics: topics[:1]}, {Topics: topics}}
	dir := dirOf("a", "none")
	wantRefs(t, sources[:1], dir[:1], api.Refer{Name: "a", Line: 1, Col: 2})
	wantFault(t, []api.Source{{Topics: []api.Topic{{Blocks: []api.Block{{Text: pieces}}}}}}, dir[:1], api.Fault{Code: api.ErrBroken, Line: 3, Col: 4, Word: "none"})
	if pieces[1].Name != "none" || len(blocks[1].Text) != 2 || len(topics[1].Blocks) != 2 || len(sources[1].Topics) != 2 || dir[1].Norm != "none" {
		t.Error("changed")
	}
}

// TestFromRefsToWalks goes the whole way: from sources over their references to what leads where.
func TestFromRefsToWalks(t *testing.T) {
	sources := []api.Source{
		source(topic("Home", linkTo("Help", 1, 1), linkTo("more", 2, 1)), topic("Alone", linkTo("alone", 3, 1))),
		source(topic("Help", noteTo("Tip", 1, 1), noteTo("TIP ", 2, 1)), topic("More", linkTo("Home", 3, 1))),
		source(api.Topic{Name: "Tip", Kind: api.KindNote}),
	}
	dir, err := names.Collect(sources)
	if err != nil {
		t.Fatal(err)
	}
	l, err := link.Refs(sources, dir)
	if err != nil {
		t.Fatal(err)
	}
	wantOut(t, l, len(dir), 0, 2, 3)
	wantOut(t, l, len(dir), 2, 4)
	wantInto(t, l, len(dir), 0, 3)
	wantInto(t, l, len(dir), 1, 1)
	wantReach(t, l, len(dir), 0, 0, 2, 3, 4)
	wantReach(t, l, len(dir), 4, 4)
	wantWay(t, l, len(dir), 3, 0, 2, 4)
	wantNoWay(t, l, len(dir), 4, 0)
	wantOrphans(t, l, len(dir), 1)
}
