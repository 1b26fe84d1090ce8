package ir

import (
	"slices"

	"folio/api"
)

// raising is a list of operations, which may be one, of which some have become blocks.
type raising struct {
	sheet  []api.Style
	names  []string
	blocks []api.Block
}

func (r *raising) take(o api.Op) {
	switch o.Kind {
	case api.OpText:
		r.piece(api.Inline{Kind: api.InText, Text: o.Text})
	case api.OpStyle:
		r.piece(api.Inline{Kind: api.InStyle, Name: r.sheet[o.N].Name})
	case api.OpLink:
		r.piece(api.Inline{Kind: api.InLink, Name: r.names[o.N]})
	case api.OpNote:
		r.piece(api.Inline{Kind: api.InNote, Name: r.names[o.N]})
	case api.OpClose:
		r.piece(api.Inline{Kind: api.InClose})
	case api.OpTab:
		r.piece(api.Inline{Kind: api.InTab})
	case api.OpBreak:
		r.piece(api.Inline{Kind: api.InBreak})
	case api.OpPara:
		r.block(api.Block{Kind: api.BlockPara, Style: r.styleOf(o)})
	case api.OpList:
		r.block(api.Block{Kind: api.BlockList, N: o.N})
	case api.OpItem:
		r.block(api.Block{Kind: api.BlockItem})
	case api.OpTable:
		r.block(api.Block{Kind: api.BlockTable, Widths: slices.Clone(o.Widths)})
	case api.OpRow:
		r.block(api.Block{Kind: api.BlockRow})
	case api.OpEnd:
		r.block(api.Block{Kind: api.BlockEnd})
	}
}

// styleOf answers the name of a paragraph's style, or none.
func (r *raising) styleOf(o api.Op) string {
	if o.N == noStyle {
		return ""
	}
	return r.sheet[o.N].Name
}

func (r *raising) block(b api.Block) { r.blocks = append(r.blocks, b) }

// piece puts a piece down in the paragraph that has begun last.
func (r *raising) piece(p api.Inline) {
	b := &r.blocks[len(r.blocks)-1]
	b.Text = append(b.Text, p)
}
