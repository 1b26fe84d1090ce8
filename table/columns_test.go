package table_test

import (
	"slices"
	"testing"

	"folio/api"
	"folio/table"
)

// P12.2

func TestColumnsOfWidthsThatMayNotBe(t *testing.T) {
	for _, wide := range append(far(), -1, 0, api.MinWidth-1, api.MaxWidth+1) {
		wantColumnsError(t, []int{0}, wide)
		wantColumnsError(t, []int{3, 0, 4}, wide)
		wantColumnsError(t, nil, wide)       // two reasons
		wantColumnsError(t, []int{-1}, wide) // two reasons
	}
	for _, wide := range []int{api.MinWidth, 50, api.MaxWidth} {
		wantColumnsError(t, nil, wide)
		wantColumnsError(t, []int{}, wide)
		wantColumnsError(t, make([]int, api.MaxColumns+1), wide)
		wantColumnsError(t, slices.Repeat([]int{1}, api.MaxColumns+1), wide)
		wantColumnsError(t, make([]int, 1000), wide)
		for _, w := range append(far(), -1, api.MaxWidth+1) {
			wantColumnsError(t, []int{w}, wide)
			wantColumnsError(t, []int{w, 1, 0}, wide)
			wantColumnsError(t, []int{1, 0, w}, wide)
			wantColumnsError(t, []int{1, w, w, 0}, wide)
			wantColumnsError(t, append(make([]int, api.MaxColumns), w), wide)
		}
	}
}

func TestColumnsOfOne(t *testing.T) {
	for _, wide := range []int{api.MinWidth, api.MinWidth + 1, 80, api.MaxWidth} {
		wantShares(t, []int{0}, wide, 1, wide)
		wantShares(t, []int{1}, wide, 1, 1)
		wantShares(t, []int{wide - 1}, wide, 1, wide-1)
		wantShares(t, []int{wide}, wide, 1, wide)
		wantShares(t, []int{min(wide+1, api.MaxWidth)}, wide, 1, wide)
		wantShares(t, []int{api.MaxWidth}, wide, 1, wide)
	}
}

func TestColumnsOfFreeOnes(t *testing.T) {
	wantShares(t, make([]int, 2), 11, 1, 5, 5)
	wantShares(t, make([]int, 3), 10, 1, 3, 3, 2)
	wantShares(t, make([]int, 3), 11, 1, 3, 3, 3)
	wantShares(t, make([]int, 3), 12, 1, 4, 3, 3)
	wantShares(t, make([]int, 4), 10, 1, 2, 2, 2, 1)
	wantShares(t, make([]int, 8), 200, 1, 25, 24, 24, 24, 24, 24, 24, 24)
	// what can't be shared evenly goes to the first free ones, wherever they stand
	wantShares(t, []int{2, 0, 1, 0, 0}, 20, 1, 2, 5, 1, 4, 4)
	wantShares(t, []int{0, 2, 0, 1, 0}, 21, 1, 5, 2, 5, 1, 4)
	wantShares(t, []int{0, 2, 0, 1, 0}, 22, 1, 5, 2, 5, 1, 5)
}

func TestColumnsOfFixedOnes(t *testing.T) {
	wantShares(t, []int{1, 1}, 10, 1, 1, 1) // the rest stays empty
	wantShares(t, []int{4, 5}, 10, 1, 4, 5)
	wantShares(t, []int{5, 5}, 10, 1, 5, 4)
	wantShares(t, []int{3, 2, 2, 1}, 200, 1, 3, 2, 2, 1)
	wantShares(t, []int{6, 0, 1}, 10, 1, 6, 1, 1) // one cell for each free one is just there
	wantShares(t, []int{7, 0, 1}, 10, 1, 6, 1, 1) // it is not
	wantShares(t, []int{100, 99}, 200, 1, 100, 99)
	wantShares(t, []int{100, 100}, 200, 1, 100, 99)
}

func TestColumnsOfFixedOnesThatAreTooWide(t *testing.T) {
	wantShares(t, []int{200, 200}, 10, 1, 5, 4)
	wantShares(t, []int{200, 3}, 10, 1, 6, 3)
	wantShares(t, []int{3, 200}, 10, 1, 3, 6)
	wantShares(t, []int{0, 200}, 10, 1, 1, 8)
	wantShares(t, []int{200, 0}, 10, 1, 8, 1)
	wantShares(t, []int{6, 5, 6}, 15, 1, 5, 4, 4) // 17 to 13: the last 6, the first one, then of three 5 the last, the second
	wantShares(t, []int{4, 4, 4}, 13, 1, 4, 4, 3) // the last of several
	wantShares(t, []int{4, 4, 4}, 12, 1, 4, 3, 3) // one ahead of it
	wantShares(t, []int{4, 4, 4}, 11, 1, 3, 3, 3) // the first one
	wantShares(t, []int{4, 4, 4}, 10, 1, 3, 3, 2) // the last one again
	wantShares(t, []int{9, 1, 0, 9}, 12, 1, 4, 1, 1, 3)
	wantShares(t, slices.Repeat([]int{200}, 8), 200, 1, 25, 24, 24, 24, 24, 24, 24, 24)
	wantShares(t, slices.Repeat([]int{200}, 8), 10, 0, 2, 2, 1, 1, 1, 1, 1, 1)
	wantShares(t, slices.Repeat([]int{1}, 8), 10, 0, 1, 1, 1, 1, 1, 1, 1, 1)
}

// TestColumnsGaps: there are none just if there would be fewer cells left than columns.
func TestColumnsGaps(t *testing.T) {
	wantShares(t, make([]int, 5), 10, 1, 2, 1, 1, 1, 1)
	wantShares(t, make([]int, 6), 10, 0, 2, 2, 2, 2, 1, 1)
	wantShares(t, make([]int, 6), 11, 1, 1, 1, 1, 1, 1, 1)
	wantShares(t, make([]int, 7), 12, 0, 2, 2, 2, 2, 2, 1, 1)
	wantShares(t, make([]int, 7), 13, 1, 1, 1, 1, 1, 1, 1, 1)
	wantShares(t, make([]int, 8), 14, 0, 2, 2, 2, 2, 2, 2, 1, 1)
	wantShares(t, make([]int, 8), 15, 1, 1, 1, 1, 1, 1, 1, 1, 1)
	wantShares(t, make([]int, 8), 16, 1, 2, 1, 1, 1, 1, 1, 1, 1)
	wantShares(t, []int{9, 0, 0, 0, 0, 0}, 10, 0, 5, 1, 1, 1, 1, 1)
}

// P2

func TestColumnsTellMemoryOfTheirOwn(t *testing.T) {
	for _, widths := range [][]int{{0}, {0, 0, 0}, {200, 200, 200}, {3, 0, 4}} {
		room := append(slices.Clone(widths), 77, 78)
		l := room[:len(widths)]
		first, e := table.Columns(l, 20)
		second, _ := table.Columns(l, 20)
		want := slices.Clone(second)
		for i := range first[:cap(first)] {
			first[:cap(first)][i] = api.Column{At: -1, Wide: -1}
		}
		if e != api.OK || !slices.Equal(room, append(slices.Clone(widths), 77, 78)) || !slices.Equal(second, want) {
			t.Errorf("Columns of %v: %v, %v", widths, room, second)
		}
	}
}
