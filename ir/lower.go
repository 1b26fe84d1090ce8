package ir

import (
	"slices"
	"strings"

	"folio/api"
	"folio/fault"
	"folio/names"
	"folio/style"
)

// noStyle is the number of a paragraph's style, if it has none.
const noStyle = -1

// lower is Lower, but its faults have no source yet.
func lower(sheet []api.Style, dir []api.Named, t api.Topic) ([]api.Op, error) {
	x := lowering{sheet: sheet, dir: dir, known: firstOfNorm(dir)}
	for _, b := range t.Blocks {
		if err := x.block(b); err != nil {
			return nil, err
		}
	}
	if _, e := Check(x.ops, len(sheet), len(dir)); e != api.OK {
		return nil, fault.New(api.ErrOp, 0, t.Line, 0, "")
	}
	return x.ops, nil
}

// lowering is a topic of which some blocks have become operations.
type lowering struct {
	sheet []api.Style
	dir   []api.Named
	known map[string]int // under each Norm the number of the first one of dir that has it
	ops   []api.Op
	text  strings.Builder // of the OpText that goes on as long as texts follow one another
}

// block puts down a block's operations, or answers the first fault in it.
func (x *lowering) block(b api.Block) error {
	switch b.Kind {
	case api.BlockPara:
		return x.paragraph(b)
	case api.BlockList:
		x.put(api.Op{Kind: api.OpList, N: b.N})
	case api.BlockItem:
		x.put(api.Op{Kind: api.OpItem})
	case api.BlockTable:
		x.put(api.Op{Kind: api.OpTable, Widths: slices.Clone(b.Widths)})
	case api.BlockRow:
		x.put(api.Op{Kind: api.OpRow})
	case api.BlockEnd:
		x.put(api.Op{Kind: api.OpEnd})
	default:
		return fault.New(api.ErrOp, 0, b.Line, 0, "")
	}
	return nil
}

func (x *lowering) paragraph(b api.Block) error {
	n := noStyle
	if b.Style != "" {
		var ok bool
		if n, ok = style.Find(x.sheet, b.Style); !ok {
			return fault.New(api.ErrNoStyle, 0, b.Line, 0, b.Style)
		}
	}
	x.put(api.Op{Kind: api.OpPara, N: n})
	for _, p := range b.Text {
		if err := x.piece(p); err != nil {
			return err
		}
	}
	x.put(api.Op{Kind: api.OpDone})
	return nil
}

// piece puts down a piece's operation, or answers its fault.
func (x *lowering) piece(p api.Inline) error {
	switch p.Kind {
	case api.InText:
		x.text.WriteString(p.Text)
	case api.InStyle:
		n, ok := style.Find(x.sheet, p.Name)
		if !ok {
			return fault.New(api.ErrNoStyle, 0, p.Line, p.Col, p.Name)
		}
		x.put(api.Op{Kind: api.OpStyle, N: n})
	case api.InLink:
		return x.link(api.OpLink, api.KindTopic, p)
	case api.InNote:
		return x.link(api.OpNote, api.KindNote, p)
	case api.InClose:
		x.put(api.Op{Kind: api.OpClose})
	case api.InTab:
		x.put(api.Op{Kind: api.OpTab})
	case api.InBreak:
		x.put(api.Op{Kind: api.OpBreak})
	default:
		return fault.New(api.ErrOp, 0, p.Line, p.Col, "")
	}
	return nil
}

// link is piece of a link or a note, which leads to one of a kind alone.
func (x *lowering) link(op api.OpKind, kind int, p api.Inline) error {
	norm, e := names.Norm(p.Name)
	n, ok := x.known[norm]
	if e != api.OK || !ok || x.dir[n].Kind != kind {
		return fault.New(api.ErrNoTarget, 0, p.Line, p.Col, p.Name)
	}
	x.put(api.Op{Kind: op, N: n})
	return nil
}

// put puts down an operation that is no text, behind the text that has come ahead of it.
func (x *lowering) put(o api.Op) {
	if x.text.Len() > 0 {
		x.ops = append(x.ops, api.Op{Kind: api.OpText, Text: x.text.String()})
		x.text.Reset()
	}
	x.ops = append(x.ops, o)
}

// firstOfNorm answers under each Norm the number of the first one that has it.
func firstOfNorm(dir []api.Named) map[string]int {
	known := map[string]int{}
	for n, d := range dir {
		if _, ok := known[d.Norm]; !ok {
			known[d.Norm] = n
		}
	}
	return known
}
