package table

import "folio/api"

func isNoWidth(w int) bool { return !within(w, 0, api.MaxWidth) }

// share shares room out: what is fixed gets its width, what is free the rest.
func share(widths []int, room int) []int {
	shares := make([]int, len(widths))
	free := 0
	for i, w := range widths {
		shares[i] = max(w, 1)
		if w == 0 {
			free++
		}
		room -= shares[i]
	}
	if room < 0 {
		narrow(shares, -room)
		return shares
	}
	for i, w := range widths {
		if w == 0 {
			more := (room + free - 1) / free // rounded up: what can't be shared evenly goes to the first ones
			shares[i] += more
			room -= more
			free--
		}
	}
	return shares
}

// narrow takes away so many cells, one by one.
func narrow(shares []int, cells int) {
	for range cells {
		widest := 0
		for i, w := range shares {
			if w >= shares[widest] {
				widest = i
			}
		}
		shares[widest]--
	}
}
