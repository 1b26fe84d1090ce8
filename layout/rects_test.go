package layout_test

import (
	"math"
	"slices"
	"testing"

	"folio/api"
	"folio/layout"
)

func rectsOf(t *testing.T, lines [][]api.Glyph, want ...api.Rect) {
	t.Helper()
	if got := layout.Rects(lines); !slices.Equal(got, want) {
		t.Errorf("Rects of %v: %v, want %v", lines, got, want)
	}
}

// wide is glyphs of these Wides, of one link.
func wide(link int, wides ...int) []api.Glyph {
	var l []api.Glyph
	for _, w := range wides {
		l = append(l, api.Glyph{Text: "x", Wide: w, Link: link})
	}
	return l
}

// P13.3

func TestRects(t *testing.T) {
	rectsOf(t, nil)
	rectsOf(t, [][]api.Glyph{})
	rectsOf(t, [][]api.Glyph{nil, {}, nil})
	rectsOf(t, [][]api.Glyph{wide(0, 1, 2, 1)})
	rectsOf(t, [][]api.Glyph{wide(1, 1)}, api.Rect{Wide: 1, Link: 1})
	rectsOf(t, [][]api.Glyph{nil, line(wide(0, 1, 2), wide(5, 2, 1, 2), wide(0, 1))}, api.Rect{Row: 1, Col: 3, Wide: 5, Link: 5})
	rectsOf(t, [][]api.Glyph{wide(1, 1, 1), wide(1, 2)}, api.Rect{Row: 0, Wide: 2, Link: 1}, api.Rect{Row: 1, Wide: 2, Link: 1})
	rectsOf(t, [][]api.Glyph{line(wide(2, 1), wide(1, 2, 1))}, api.Rect{Wide: 1, Link: 2}, api.Rect{Col: 1, Wide: 3, Link: 1})
	rectsOf(t, [][]api.Glyph{line(wide(1, 1), wide(0, 1), wide(1, 1))}, api.Rect{Wide: 1, Link: 1}, api.Rect{Col: 2, Wide: 1, Link: 1})
	rectsOf(t, [][]api.Glyph{line(wide(1, 1), wide(2, 1), wide(1, 1))}, api.Rect{Wide: 1, Link: 1}, api.Rect{Col: 1, Wide: 1, Link: 2}, api.Rect{Col: 2, Wide: 1, Link: 1})
}

// TestRectsGoByLinksAlone has glyphs side by side that differ in all else.
func TestRectsGoByLinksAlone(t *testing.T) {
	l := []api.Glyph{{Text: "a", Wide: 1, Link: 3}, {Text: " ", Wide: 1, Look: api.Look{Attr: 4, Color: 2}, Link: 3}, {Text: "\t", Wide: 2, Link: 3}}
	rectsOf(t, [][]api.Glyph{l}, api.Rect{Wide: 4, Link: 3})
}

func TestRectsOfOddGlyphs(t *testing.T) {
	rectsOf(t, [][]api.Glyph{wide(1, 0)}, api.Rect{Link: 1})
	rectsOf(t, [][]api.Glyph{line(wide(1, 1), wide(0, 0), wide(1, 1))}, api.Rect{Wide: 1, Link: 1}, api.Rect{Col: 1, Wide: 1, Link: 1})
	rectsOf(t, [][]api.Glyph{line(wide(0, 2), wide(1, 0, 2, 0))}, api.Rect{Col: 2, Wide: 2, Link: 1})
	rectsOf(t, [][]api.Glyph{line(wide(0, -3), wide(-1, 4, -2))}, api.Rect{Col: -3, Wide: 2, Link: -1})
	rectsOf(t, [][]api.Glyph{wide(math.MinInt, math.MaxInt)}, api.Rect{Wide: math.MaxInt, Link: math.MinInt})
	layout.Rects([][]api.Glyph{line(wide(1, math.MaxInt, math.MaxInt), wide(2, math.MinInt, math.MinInt, -1))}) // doesn't panic
}

func TestRectsAreNew(t *testing.T) {
	lines := [][]api.Glyph{withMore(wide(1, 1), api.Glyph{Text: "y", Wide: 1, Link: 1})}
	first := layout.Rects(lines)
	first[0] = api.Rect{Row: 9}
	rectsOf(t, lines, api.Rect{Wide: 1, Link: 1})
	if !slices.Equal(lines[0][:2], append(wide(1, 1), api.Glyph{Text: "y", Wide: 1, Link: 1})) {
		t.Error(lines[0][:2])
	}
}

// P13.4

func wantHit(t *testing.T, rects []api.Rect, row, col, want int) {
	t.Helper()
	n, ok := layout.Hit(api.Laid{Rects: rects}, row, col)
	if n != want || !ok {
		t.Errorf("Hit of %v at %d, %d: %d, %t, want %d", rects, row, col, n, ok, want)
	}
}

func wantNoHit(t *testing.T, rects []api.Rect, row, col int) {
	t.Helper()
	n, ok := layout.Hit(api.Laid{Rects: rects}, row, col)
	if n != 0 || ok {
		t.Errorf("Hit of %v at %d, %d: %d, %t, want none", rects, row, col, n, ok)
	}
}

func TestHit(t *testing.T) {
	l := []api.Rect{{Row: 1, Col: 3, Wide: 2, Link: 7}, {Row: 1, Col: 5, Wide: 1, Link: 8}, {Row: 2, Col: 0, Wide: 9, Link: 7}}
	wantNoHit(t, nil, 0, 0)
	wantNoHit(t, l, 1, 2)
	wantHit(t, l, 1, 3, 7)
	wantHit(t, l, 1, 4, 7)
	wantHit(t, l, 1, 5, 8)
	wantNoHit(t, l, 1, 6)
	wantHit(t, l, 2, 0, 7)
	wantHit(t, l, 2, 8, 7)
	for _, at := range [][]int{{0, 3}, {3, 0}, {-1, 3}, {1, -1}, {2, -1}, {2, 9}, {math.MinInt, 0}, {math.MaxInt, 3}, {1, math.MinInt}, {2, math.MaxInt}} {
		wantNoHit(t, l, at[0], at[1])
	}
}

func TestHitOfOddRects(t *testing.T) {
	wantHit(t, []api.Rect{{Wide: 3, Link: 4}, {Wide: 9, Link: 5}}, 0, 2, 4) // the first one
	wantHit(t, []api.Rect{{Wide: 3, Link: 4}, {Wide: 9, Link: 5}}, 0, 3, 5)
	wantHit(t, []api.Rect{{Row: -2, Col: -5, Wide: 3, Link: -1}}, -2, -3, -1)
	wantNoHit(t, []api.Rect{{Row: -2, Col: -5, Wide: 3, Link: -1}}, -2, -2)
	wantHit(t, []api.Rect{{Wide: 1}}, 0, 0, 0) // of the Link 0, and yet hit
	for _, none := range []int{0, -1, math.MinInt} {
		for _, col := range []int{math.MinInt, -1, 0, 1, math.MaxInt} {
			wantNoHit(t, []api.Rect{{Wide: none, Link: 1}}, 0, col)
			wantNoHit(t, []api.Rect{{Col: math.MaxInt, Wide: none, Link: 1}}, 0, col)
			wantNoHit(t, []api.Rect{{Col: math.MinInt, Wide: none, Link: 1}}, 0, col)
		}
	}
}

// TestHitBeyondInts has rects whose end is more than an int holds.
func TestHitBeyondInts(t *testing.T) {
	l := []api.Rect{{Col: 5, Wide: math.MaxInt, Link: 1}}
	wantHit(t, l, 0, 5, 1)
	wantHit(t, l, 0, math.MaxInt, 1)
	wantNoHit(t, l, 0, 4)
	wantNoHit(t, l, 0, math.MinInt)
	l = []api.Rect{{Col: math.MaxInt, Wide: 2, Link: 1}}
	wantHit(t, l, 0, math.MaxInt, 1)
	wantNoHit(t, l, 0, math.MinInt)
	wantNoHit(t, l, 0, math.MaxInt-1)
	l = []api.Rect{{Col: math.MinInt, Wide: math.MaxInt, Link: 1}}
	wantHit(t, l, 0, math.MinInt, 1)
	wantHit(t, l, 0, -2, 1)
	for _, col := range []int{-1, 0, 1, math.MaxInt} {
		wantNoHit(t, l, 0, col)
	}
}

// P13.5

func TestShow(t *testing.T) {
	for _, c := range []struct {
		lines [][]api.Glyph
		want  []string
	}{
		{nil, nil},
		{[][]api.Glyph{nil}, []string{""}},
		{[][]api.Glyph{{}, glyphs("a b", plain, 1), nil}, []string{"", "a b", ""}},
		{[][]api.Glyph{{{Text: ""}, {Text: "\xff\n", Wide: -4}, {Text: "\t"}}}, []string{"\xff\n\t"}},
	} {
		if got := layout.Show(api.Laid{Lines: c.lines, More: true}); !slices.Equal(got, c.want) {
			t.Errorf("Show of %v: %q, want %q", c.lines, got, c.want)
		}
	}
}

func TestShowIsNew(t *testing.T) {
	d := api.Laid{Lines: [][]api.Glyph{withMore(glyphs("ab", plain, 1), api.Glyph{Text: "x"})}}
	layout.Show(d)[0] = "x"
	if got := layout.Show(d); got[0] != "ab" || d.Lines[0][:3][2].Text != "x" {
		t.Error(got, d)
	}
}

// sample is a layout with something of all that there is.
func sample() api.Laid {
	return api.Laid{
		Lines: [][]api.Glyph{glyphs("ab", plain, 1), glyphs("c", plain, 2)},
		Rects: []api.Rect{{Row: 1, Col: 2, Wide: 3, Link: 4}, {Row: 2}},
		Links: []api.Target{{Kind: 1, N: 2}, {}},
		More:  true,
	}
}

func TestSame(t *testing.T) {
	if !layout.Same(sample(), sample()) || !layout.Same(api.Laid{}, api.Laid{}) {
		t.Error("not alike")
	}
	for n, change := range []func(d *api.Laid){
		func(d *api.Laid) { d.Lines[1][0].Text = "d" },
		func(d *api.Laid) { d.Lines[1][0].Wide = 2 },
		func(d *api.Laid) { d.Lines[1][0].Look.Attr = 1 },
		func(d *api.Laid) { d.Lines[1][0].Look.Color = 6 },
		func(d *api.Laid) { d.Lines[1][0].Link = 1 },
		func(d *api.Laid) { d.Lines[0] = d.Lines[0][:1] },
		func(d *api.Laid) { d.Lines[0] = nil },
		func(d *api.Laid) { d.Lines = d.Lines[:1] },
		func(d *api.Laid) { d.Lines = append(d.Lines, nil) },
		func(d *api.Laid) { slices.Reverse(d.Lines) },
		func(d *api.Laid) { d.Rects[0].Row = 0 },
		func(d *api.Laid) { d.Rects[0].Col = 0 },
		func(d *api.Laid) { d.Rects[0].Wide = 0 },
		func(d *api.Laid) { d.Rects[1].Link = 1 },
		func(d *api.Laid) { d.Rects = d.Rects[:1] },
		func(d *api.Laid) { d.Rects = nil },
		func(d *api.Laid) { d.Links[0].Kind = 0 },
		func(d *api.Laid) { d.Links[1].N = 2 },
		func(d *api.Laid) { d.Links = d.Links[:1] },
		func(d *api.Laid) { d.Links = nil },
		func(d *api.Laid) { d.More = false },
	} {
		d := sample()
		change(&d)
		if layout.Same(d, sample()) || layout.Same(sample(), d) {
			t.Errorf("change %d makes no difference", n)
		}
		if !layout.Same(d, d) {
			t.Errorf("change %d is not like itself", n)
		}
	}
}

// P3

func TestNoneAndEmptyAreTheSame(t *testing.T) {
	none := api.Laid{Lines: [][]api.Glyph{nil}}
	empty := api.Laid{Lines: [][]api.Glyph{{}}, Rects: []api.Rect{}, Links: []api.Target{}}
	if !layout.Same(none, empty) || !layout.Same(empty, none) || !layout.Same(api.Laid{}, api.Laid{Lines: [][]api.Glyph{}}) {
		t.Error("not alike")
	}
	if layout.Same(api.Laid{}, none) {
		t.Error("an empty line is one")
	}
}
