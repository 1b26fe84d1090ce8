package layout

import (
	"testing"

	"folio/api"
)

// TestLongMarkersAreCut has a number that is longer than the margin. No list of operations is so long, but P13.1 says what would
// become of it.
func TestLongMarkersAreCut(t *testing.T) {
	y := begin(nil, 10)
	y.take(api.Op{Kind: api.OpList, N: 1})
	y.lists[0].items = 12344567
	y.take(api.Op{Kind: api.OpItem})
	y.take(api.Op{Kind: api.OpEnd})
	if got := Show(api.Laid{Lines: y.lines}); len(got) != 1 || got[0] != "44568." {
		t.Error(got)
	}
}
