package src

import (
	"slices"

	"folio/api"
)

// Each of these takes what it compares as a copy, so it may take the places out of it.

func sameStyle(a, b api.StyleDef) bool {
	a.Line, b.Line = 0, 0
	return a == b
}

func sameKey(a, b api.KeyRef) bool {
	a.Line, b.Line = 0, 0
	return a == b
}

func sameSee(a, b api.SeeRef) bool {
	a.Line, b.Line = 0, 0
	return a == b
}

func samePiece(a, b api.Inline) bool {
	a.Line, b.Line = 0, 0
	a.Col, b.Col = 0, 0
	return a == b
}

func sameBlock(a, b api.Block) bool {
	return a.Kind == b.Kind && a.N == b.N && a.Style == b.Style &&
		slices.Equal(a.Widths, b.Widths) && slices.EqualFunc(a.Text, b.Text, samePiece)
}

func sameTopic(a, b api.Topic) bool {
	return a.Kind == b.Kind && a.Name == b.Name && a.Title == b.Title && a.Level == b.Level &&
		slices.EqualFunc(a.Keys, b.Keys, sameKey) && slices.EqualFunc(a.Sees, b.Sees, sameSee) &&
		slices.EqualFunc(a.Blocks, b.Blocks, sameBlock)
}
