package link_test

import (
	"math"
	"slices"
	"testing"

	"folio/api"
	"folio/link"
)

// P8.2, P8.3

// refs answers references by their ends: from, to, from, to, ...
func refs(ends ...int) []api.Refer {
	var l []api.Refer
	for ; len(ends) > 1; ends = ends[2:] {
		l = append(l, api.Refer{From: ends[0], To: ends[1]})
	}
	return l
}

func want(t *testing.T, what string, got []int, e api.Errno, told []int) {
	t.Helper()
	if e != api.OK || !slices.Equal(got, told) {
		t.Errorf("%s: %v, %d, want %v", what, got, e, told)
	}
}

func wantOut(t *testing.T, l []api.Refer, topics, topic int, told ...int) {
	t.Helper()
	got, e := link.Out(l, topics, topic)
	want(t, "Out", got, e, told)
}

func wantInto(t *testing.T, l []api.Refer, topics, topic int, told ...int) {
	t.Helper()
	got, e := link.Into(l, topics, topic)
	want(t, "Into", got, e, told)
}

func wantReach(t *testing.T, l []api.Refer, topics, from int, told ...int) {
	t.Helper()
	got, e := link.Reach(l, topics, from)
	want(t, "Reach", got, e, told)
}

func wantOrphans(t *testing.T, l []api.Refer, topics int, told ...int) {
	t.Helper()
	got, e := link.Orphans(l, topics)
	want(t, "Orphans", got, e, told)
}

// wantWay asks for a way from the first to the last of it.
func wantWay(t *testing.T, l []api.Refer, topics int, way ...int) {
	t.Helper()
	got, e := link.Way(l, topics, way[0], way[len(way)-1])
	want(t, "Way", got, e, way)
}

func wantNoWay(t *testing.T, l []api.Refer, topics, from, to int) {
	t.Helper()
	if got, e := link.Way(l, topics, from, to); e != api.ErrNone || len(got) != 0 {
		t.Errorf("Way from %d to %d: %v, %d", from, to, got, e)
	}
}

// upTo answers the numbers 0 to below n.
func upTo(n int) []int {
	var l []int
	for i := range n {
		l = append(l, i)
	}
	return l
}

func TestExample(t *testing.T) {
	l := refs(0, 1, 0, 2, 1, 3, 2, 3, 3, 0)
	wantOut(t, l, 4, 0, 1, 2)
	wantInto(t, l, 4, 3, 1, 2)
	wantWay(t, l, 4, 0, 1, 3)
	wantReach(t, l, 4, 3, 0, 1, 2, 3)
	wantOrphans(t, l, 4)
	wantOrphans(t, l, 5, 4)
}

// Which references count, and which calls may be

// all asks all five calls, with the same topic at each place.
func all(l []api.Refer, topics, topic int) map[string]func() ([]int, api.Errno) {
	return map[string]func() ([]int, api.Errno){
		"Out":     func() ([]int, api.Errno) { return link.Out(l, topics, topic) },
		"Into":    func() ([]int, api.Errno) { return link.Into(l, topics, topic) },
		"Reach":   func() ([]int, api.Errno) { return link.Reach(l, topics, topic) },
		"Way":     func() ([]int, api.Errno) { return link.Way(l, topics, topic, topic) },
		"Orphans": func() ([]int, api.Errno) { return link.Orphans(l, topics) },
	}
}

func wantAll(t *testing.T, l []api.Refer, topics, topic int, e api.Errno) {
	t.Helper()
	for what, call := range all(l, topics, topic) {
		if got, gotE := call(); gotE != e || e != api.OK && len(got) != 0 {
			t.Errorf("%s of %d references, %d topics, topic %d: %v, %d, want %d", what, len(l), topics, topic, got, gotE, e)
		}
	}
}

// outsides are no numbers of any topic.
func outsides() []int { return []int{-1, -2, math.MinInt, api.MaxTopics, 1 << 32, math.MaxInt} }

func TestHowManyTopics(t *testing.T) {
	l := refs(0, 0, 0, 1, 1, 0)
	for _, topics := range []int{1, 2, 3, 999, api.MaxTopics} {
		wantAll(t, l, topics, 0, api.OK)
		wantAll(t, nil, topics, topics-1, api.OK)
	}
	for _, topics := range []int{-1, -2, -1000, math.MinInt, api.MaxTopics + 1, 2000, 1 << 32, math.MaxInt} {
		wantAll(t, l, topics, 0, api.ErrRange)
		wantAll(t, nil, topics, 0, api.ErrRange)
		wantAll(t, nil, topics, 1, api.ErrRange)
		wantAll(t, nil, topics, -1, api.ErrRange)
		wantAll(t, nil, topics, topics-1, api.ErrRange)
	}
}

func TestNumbersOfTopics(t *testing.T) {
	l := refs(0, 1, 1, 2, 2, 0, -1, 0, 0, -1, 3, 0, 0, 3)
	for _, topics := range []int{1, 2, 3, 999, api.MaxTopics} {
		bad := []int{topics, topics + 1}
		for _, n := range append(bad, outsides()...) {
			for what, call := range all(l, topics, n) {
				if got, e := call(); what != "Orphans" && (e != api.ErrRange || len(got) != 0) {
					t.Errorf("%s of the topic %d of %d: %v, %d", what, n, topics, got, e)
				}
			}
			for _, good := range []int{0, topics - 1} {
				for _, p := range [][2]int{{good, n}, {n, good}} {
					if got, e := link.Way(l, topics, p[0], p[1]); e != api.ErrRange || len(got) != 0 {
						t.Errorf("Way from %d to %d of %d: %v, %d", p[0], p[1], topics, got, e)
					}
				}
			}
		}
		for _, good := range []int{0, topics - 1} {
			wantAll(t, l, topics, good, api.OK)
		}
	}
}

func TestNoTopics(t *testing.T) {
	for _, l := range [][]api.Refer{nil, {}, refs(0, 0, 0, 1), make([]api.Refer, api.MaxRefs)} {
		wantOrphans(t, l, 0)
		for _, n := range append(outsides(), 0, 1) {
			for what, call := range all(l, 0, n) {
				if got, e := call(); what != "Orphans" && (e != api.ErrRange || len(got) != 0) {
					t.Errorf("%s of the topic %d of none: %v, %d", what, n, got, e)
				}
			}
		}
	}
}

func TestHowManyReferences(t *testing.T) {
	dont := slices.Repeat(refs(-1, 0), api.MaxRefs) // none of which counts
	for _, l := range [][]api.Refer{make([]api.Refer, api.MaxRefs), dont} {
		wantAll(t, l, 1, 0, api.OK)
		long := append(slices.Clone(l), refs(0, 0)...)
		wantAll(t, long, 1, 0, api.ErrLong)
		wantAll(t, append(slices.Clone(l), refs(-5, 1<<40)...), 1, 0, api.ErrLong)
		for _, topics := range []int{-1, 0, 1, api.MaxTopics, api.MaxTopics + 1, math.MaxInt} { // ahead of the numbers
			for _, n := range []int{0, -1, math.MaxInt} {
				wantAll(t, long, topics, n, api.ErrLong)
			}
		}
	}
	wantAll(t, make([]api.Refer, 200000), 1, 0, api.ErrLong)
	wantAll(t, make([]api.Refer, api.MaxRefs+1)[:api.MaxRefs], 1, 0, api.OK)
	last := append(dont[:api.MaxRefs-1:api.MaxRefs-1], refs(1, 2)...)
	wantWay(t, last, 3, 1, 2)
	wantOrphans(t, last, 3, 0, 1)
}

func TestReferencesThatDontCount(t *testing.T) {
	l := refs(0, 1, 1, 2)
	for _, n := range append(outsides(), 4, 5) {
		l = append(l, refs(0, n, n, 3, n, n, 2, n, n, 0)...) // a way from 0 to 3 but for these
	}
	wantOut(t, l, 4, 0, 1)
	wantOut(t, l, 4, 2)
	wantInto(t, l, 4, 3)
	wantInto(t, l, 4, 0)
	wantInto(t, l, 4, 1, 0)
	wantReach(t, l, 4, 0, 0, 1, 2)
	wantReach(t, l, 4, 2, 2)
	wantNoWay(t, l, 4, 0, 3)
	wantWay(t, l, 4, 0, 1, 2)
	wantOrphans(t, l, 4, 0, 3)
	wantWay(t, l, 5, 0, 4, 3) // with a topic more they do
	wantReach(t, l, 5, 2, 0, 1, 2, 3, 4)
	wantOut(t, l, 5, 4, 0, 3, 4)
	wantInto(t, l, 5, 4, 0, 2, 4)
	wantOrphans(t, l, 5)
	wantOut(t, l, 1, 0)
	wantInto(t, l, 1, 0)
	wantReach(t, l, 1, 0, 0)
	wantOrphans(t, l, 1, 0)
	wantOrphans(t, l, 2, 0)
}

func TestOnlyEndsCount(t *testing.T) {
	l := []api.Refer{{From: 0, To: 1, Note: 1, Name: "\xff", Line: -1, Col: 9}, {From: 1, To: 2, Note: -7, Line: math.MaxInt}}
	wantOut(t, l, 3, 0, 1)
	wantInto(t, l, 3, 2, 1)
	wantWay(t, l, 3, 0, 1, 2)
	wantReach(t, l, 3, 0, 0, 1, 2)
	wantOrphans(t, l, 3, 0)
}

// What refers to what

func TestOutAndInto(t *testing.T) {
	l := refs(5, 9, 5, 2, 5, 2, 5, 5, 5, 0, 9, 5, 2, 5, 2, 2, 9, 5, 5, 9, 7, 5)
	wantOut(t, l, 10, 5, 0, 2, 5, 9)
	wantOut(t, l, 10, 9, 5)
	wantOut(t, l, 10, 2, 2, 5)
	wantOut(t, l, 10, 7, 5)
	wantOut(t, l, 10, 0)
	wantOut(t, l, 10, 1)
	wantInto(t, l, 10, 5, 2, 5, 7, 9)
	wantInto(t, l, 10, 9, 5)
	wantInto(t, l, 10, 2, 2, 5)
	wantInto(t, l, 10, 0, 5)
	wantInto(t, l, 10, 7)
	wantInto(t, l, 10, 1)
	var down []api.Refer
	for n := range api.MaxTopics {
		down = append(down, refs(3, 999-n, 999-n, 3)...)
	}
	wantOut(t, down, api.MaxTopics, 3, upTo(api.MaxTopics)...)
	wantInto(t, down, api.MaxTopics, 3, upTo(api.MaxTopics)...)
	wantOut(t, down, api.MaxTopics, 999, 3)
	wantInto(t, down, 999, 998, 3)
}

func TestOrphans(t *testing.T) {
	wantOrphans(t, nil, 4, 0, 1, 2, 3)
	wantOrphans(t, nil, api.MaxTopics, upTo(api.MaxTopics)...)
	wantOrphans(t, refs(0, 0, 1, 1, 1, 1), 3, 0, 1, 2) // itself is no other one
	wantOrphans(t, refs(0, 0, 1, 0, 1, 1), 3, 1, 2)
	wantOrphans(t, refs(0, 1, 1, 0), 2)
	wantOrphans(t, refs(2, 1, 2, 1, 1, 0), 3, 2)
	wantOrphans(t, refs(0, 1, 1, 2, 2, 3), 4, 0)
	wantOrphans(t, refs(3, 0, 3, 1, 3, 2), 5, 3, 4)
	wantOrphans(t, refs(0, 1, -1, 0, 5, 0, 0, -1), 3, 0, 2)
}

func TestReach(t *testing.T) {
	wantReach(t, nil, 1, 0, 0)
	wantReach(t, nil, 9, 4, 4)
	l := refs(6, 2, 2, 4, 4, 6, 4, 1, 3, 6, 0, 0, 5, 5, 5, 1)
	wantReach(t, l, 8, 6, 1, 2, 4, 6)
	wantReach(t, l, 8, 3, 1, 2, 3, 4, 6)
	wantReach(t, l, 8, 1, 1)
	wantReach(t, l, 8, 0, 0)
	wantReach(t, l, 8, 5, 1, 5)
	wantReach(t, l, 8, 7, 7)
	wantReach(t, refs(0, 9, 9, 5), 10, 0, 0, 5, 9)
}

// Ways

func TestWayToItself(t *testing.T) {
	for _, l := range [][]api.Refer{nil, refs(2, 2), refs(2, 3, 3, 2, 2, 1), refs(0, 1)} {
		for n := range 4 {
			wantWay(t, l, 4, n)
		}
	}
}

func TestWay(t *testing.T) {
	l := refs(0, 1, 1, 2, 2, 3, 3, 4, 1, 4, 4, 0)
	wantWay(t, l, 5, 0, 1)
	wantWay(t, l, 5, 0, 1, 2)
	wantWay(t, l, 5, 0, 1, 4)
	wantWay(t, l, 5, 0, 1, 2, 3)
	wantWay(t, l, 5, 2, 3, 4, 0, 1)
	wantWay(t, l, 5, 4, 0)
	wantWay(t, refs(3, 2, 2, 1, 1, 0), 4, 3, 2, 1, 0)
	wantWay(t, refs(1, 0, 2, 1, 3, 2), 4, 3, 2, 1, 0)
	wantWay(t, refs(0, 1, 1, 2, 2, 3, 0, 3), 4, 0, 3) // the shorter one, though its second topic is greater
	wantWay(t, refs(0, 0, 0, 1, 1, 1, 1, 0, 1, 2, 2, 2), 3, 0, 1, 2)
}

func TestNoWay(t *testing.T) {
	wantNoWay(t, nil, 2, 0, 1)
	l := refs(0, 1, 2, 1, 3, 3, 3, 0)
	wantNoWay(t, l, 5, 1, 0) // the other way round
	wantNoWay(t, l, 5, 0, 2)
	wantNoWay(t, l, 5, 0, 3)
	wantNoWay(t, l, 5, 0, 4)
	wantNoWay(t, l, 5, 4, 0)
	wantNoWay(t, l, 5, 1, 4)
	wantNoWay(t, refs(0, 1, 1, 0, 2, 3, 3, 2), 4, 0, 3) // two rings
	wantNoWay(t, refs(0, -1, -1, 1), 2, 0, 1)
}

func TestTheFirstOfSeveralWays(t *testing.T) {
	wantWay(t, refs(0, 2, 0, 1, 2, 3, 1, 3), 4, 0, 1, 3)
	wantWay(t, refs(0, 1, 0, 2, 1, 4, 2, 3, 4, 5, 3, 5), 6, 0, 1, 4, 5) // by the second topic, not by the last but one
	wantWay(t, refs(3, 5, 4, 5, 2, 3, 1, 4, 0, 2, 0, 1), 6, 0, 1, 4, 5)
	wantWay(t, refs(0, 1, 1, 3, 1, 2, 3, 4, 2, 4), 5, 0, 1, 2, 4) // by the third
	wantWay(t, refs(9, 8, 9, 7, 8, 0, 7, 1, 0, 2, 1, 2), 10, 9, 7, 1, 2)
	wantWay(t, refs(0, 3, 0, 2, 0, 1, 1, 4, 2, 5, 3, 5, 4, 4), 6, 0, 2, 5) // not by a topic that leads elsewhere
	wantWay(t, refs(0, 5, 5, 9, 0, 6, 6, 1, 6, 9, 1, 9), 10, 0, 5, 9)
	var layers []api.Refer // each of four to each of the next four
	for n := range 5 {
		for i := range 16 {
			layers = append(layers, refs(4*n+i/4, 4*n+4+3-i%4)...)
		}
	}
	wantWay(t, layers, 24, 3, 4, 8, 12, 16, 22)
	slices.Reverse(layers)
	wantWay(t, layers, 24, 3, 4, 8, 12, 16, 22)
	wantWay(t, layers[:64], 24, 5, 8, 12, 16, 23)
	wantNoWay(t, layers[:64], 24, 0, 23)
}

func TestRings(t *testing.T) {
	for _, topics := range []int{1, 2, 3, 10, api.MaxTopics} {
		var ring []api.Refer
		for n := range topics {
			ring = append(ring, refs(n, (n+1)%topics)...)
		}
		wantOrphans(t, ring[:topics], topics, upTo(1/topics)...) // of a ring of one nothing but itself refers to it
		wantReach(t, ring, topics, topics/2, upTo(topics)...)
		way := append(upTo(topics)[topics/2:], upTo(topics/2)...)
		wantWay(t, ring, topics, way...)
		wantOut(t, ring, topics, topics-1, 0)
		wantInto(t, ring, topics, 0, topics-1)
		cut := ring[:topics-1] // a chain
		wantOrphans(t, cut, topics, 0)
		wantWay(t, cut, topics, upTo(topics)...)
		wantReach(t, cut, topics, topics-1, topics-1)
		if topics > 1 {
			wantNoWay(t, cut, topics, topics-1, 0)
		}
	}
}

func TestTheMost(t *testing.T) {
	var l []api.Refer // of 256 topics each to each
	for n := range api.MaxRefs {
		l = append(l, api.Refer{From: n % 256, To: n / 256})
	}
	wantOut(t, l, api.MaxTopics, 255, upTo(256)...)
	wantInto(t, l, api.MaxTopics, 0, upTo(256)...)
	wantReach(t, l, api.MaxTopics, 77, upTo(256)...)
	wantWay(t, l, api.MaxTopics, 200, 100)
	wantNoWay(t, l, api.MaxTopics, 200, 256)
	wantOrphans(t, l, api.MaxTopics, upTo(api.MaxTopics)[256:]...)
}
