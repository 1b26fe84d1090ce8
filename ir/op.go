package ir

import (
	"slices"

	"folio/api"
	"folio/text"
)

// The numbers that may stand in operations beside those of styles and topics.
const (
	listKinds = 2   // with bullets, with numbers
	mostWidth = 100 // of a column
)

func isLink(kind api.OpKind) bool { return kind == api.OpLink || kind == api.OpNote }

// fits answers whether an operation's fields may be, wherever it stands.
func fits(o api.Op, styles, topics int) bool {
	well, rest := true, o // rest: what its Kind does not use
	switch o.Kind {
	case api.OpText:
		well, rest.Text = isText(o.Text), ""
	case api.OpStyle:
		well, rest.N = within(o.N, 0, styles), 0
	case api.OpLink, api.OpNote:
		well, rest.N = within(o.N, 0, topics), 0
	case api.OpPara:
		well, rest.N = within(o.N, noStyle, styles), 0
	case api.OpList:
		well, rest.N = within(o.N, 0, listKinds), 0
	case api.OpTable:
		well, rest.Widths = areWidths(o.Widths), nil
	}
	return well && rest.N == 0 && rest.Text == "" && len(rest.Widths) == 0
}

// within answers whether a number is from one to below another. It takes the one beyond, not the last, for one less than the
// least of all ints would be the greatest.
func within(n, least, beyond int) bool { return n >= least && n < beyond }

func isText(s string) bool {
	_, plain := text.Plain(s)
	return plain && s != ""
}

func areWidths(l []int) bool {
	tooWide := func(n int) bool { return !within(n, 0, mostWidth+1) }
	return within(len(l), 1, api.MaxColumns+1) && !slices.ContainsFunc(l, tooWide)
}

// textBytes answers how many bytes the Texts of operations have, of whatever Kind they are.
func textBytes(l []api.Op) int {
	n := 0
	for _, o := range l {
		n += len(o.Text)
	}
	return n
}

func countTexts(l []api.Op) int {
	n := 0
	for _, o := range l {
		if o.Kind == api.OpText {
			n++
		}
	}
	return n
}

func anyBelow(least int, l []int) bool {
	return slices.ContainsFunc(l, func(n int) bool { return n < least })
}

// cloned answers operations that share nothing with these.
func cloned(l []api.Op) []api.Op {
	own := slices.Clone(l)
	for n := range own {
		own[n].Widths = slices.Clone(own[n].Widths)
	}
	return own
}
