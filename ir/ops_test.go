package ir_test

import (
	"slices"
	"strings"
	"testing"

	"folio/api"
)

// Operations and lists of them, made short.

func op(kind api.OpKind) api.Op { return api.Op{Kind: kind} }

func opN(kind api.OpKind, n int) api.Op { return api.Op{Kind: kind, N: n} }

func opText(s string) api.Op { return api.Op{Kind: api.OpText, Text: s} }

func opTable(widths ...int) api.Op { return api.Op{Kind: api.OpTable, Widths: widths} }

// allKinds are those that are one.
func allKinds() []api.OpKind {
	var l []api.OpKind
	for kind := api.OpText; kind <= api.OpEnd; kind++ {
		l = append(l, kind)
	}
	return l
}

// plainOp answers an operation of a Kind with fields that may be, where there are one style and one topic.
func plainOp(kind api.OpKind) api.Op {
	switch kind {
	case api.OpText:
		return opText("x")
	case api.OpPara:
		return opN(kind, -1)
	case api.OpTable:
		return opTable(1)
	}
	return op(kind)
}

// plainOps answers operations of these Kinds, but what is in others stands as it is.
func plainOps(l ...any) []api.Op {
	var ops []api.Op
	for _, x := range l {
		switch x := x.(type) {
		case api.OpKind:
			ops = append(ops, plainOp(x))
		case api.Op:
			ops = append(ops, x)
		case []api.Op:
			ops = append(ops, x...)
		case string:
			ops = append(ops, opText(x))
		}
	}
	return ops
}

// paragraph answers a paragraph without a style that has these.
func paragraph(l ...any) []api.Op {
	return plainOps(api.OpPara, plainOps(l...), api.OpDone)
}

func times(n int, l []api.Op) []api.Op { return slices.Repeat(l, n) }

func sameOp(a, b api.Op) bool {
	return a.Kind == b.Kind && a.N == b.N && a.Text == b.Text && slices.Equal(a.Widths, b.Widths)
}

func sameOps(a, b []api.Op) bool { return slices.EqualFunc(a, b, sameOp) }

// deepOps answers operations that share nothing with these.
func deepOps(l []api.Op) []api.Op {
	own := append([]api.Op{}, l...)
	for i := range own {
		own[i].Widths = append([]int{}, own[i].Widths...)
	}
	return own
}

// Blocks and pieces, made short.

func inText(s string) api.Inline { return api.Inline{Kind: api.InText, Text: s} }

func in(kind api.InlineKind) api.Inline { return api.Inline{Kind: kind} }

// named answers a style's, a link's, a note's piece, with its place.
func named(kind api.InlineKind, name string, line, col int) api.Inline {
	return api.Inline{Kind: kind, Name: name, Line: line, Col: col}
}

func block(kind api.BlockKind) api.Block { return api.Block{Kind: kind} }

func paraOf(l ...api.Inline) api.Block { return api.Block{Kind: api.BlockPara, Text: l} }

func topicOf(l ...api.Block) api.Topic { return api.Topic{Name: "topic", Line: 7, Blocks: l} }

// topicWith answers a topic with one paragraph of these pieces.
func topicWith(l ...api.Inline) api.Topic { return topicOf(paraOf(l...)) }

func samePiece(a, b api.Inline) bool { return a == b }

func sameBlock(a, b api.Block) bool {
	return a.Kind == b.Kind && a.N == b.N && a.Style == b.Style && a.Line == b.Line && slices.Equal(a.Widths, b.Widths) && slices.EqualFunc(a.Text, b.Text, samePiece)
}

func sameBlocks(a, b []api.Block) bool { return slices.EqualFunc(a, b, sameBlock) }

func deepBlocks(l []api.Block) []api.Block {
	own := append([]api.Block{}, l...)
	for i := range own {
		own[i].Widths = append([]int{}, own[i].Widths...)
		own[i].Text = append([]api.Inline{}, own[i].Text...)
	}
	return own
}

// sheetOf answers styles of these names.
func sheetOf(names ...string) []api.Style {
	var l []api.Style
	for _, name := range names {
		l = append(l, api.Style{Name: name, Own: api.Change{Color: -1}})
	}
	return l
}

// dirOf answers a directory of names; one that begins with * is a note's.
func dirOf(l ...string) []api.Named {
	var dir []api.Named
	for at, name := range l {
		d := api.Named{Name: name, Norm: strings.ToLower(name), At: at, Line: 10 * at}
		if rest, ok := strings.CutPrefix(name, "*"); ok {
			d.Name, d.Norm, d.Kind = rest, strings.ToLower(rest), api.KindNote
		}
		dir = append(dir, d)
	}
	return dir
}

func namesOf(dir []api.Named) []string {
	var l []string
	for _, d := range dir {
		l = append(l, d.Name)
	}
	return l
}

// short answers the first ones of a list, for what a test says.
func short[T any](l []T) []T { return l[:min(len(l), 20)] }

// dice throws numbers that are the same each time.
type dice uint64

func (d *dice) throw(n int) int {
	*d = *d*6364136223846793005 + 1442695040888963407
	return int(*d>>33) % n
}

func (d *dice) text(l ...string) string { return l[d.throw(len(l))] }

func (d *dice) number(l ...int) int { return l[d.throw(len(l))] }

func mustSame(t *testing.T, what string, got, want []api.Op) {
	t.Helper()
	if !sameOps(got, want) {
		t.Errorf("%s: %v, want %v", what, short(got), short(want))
	}
}
