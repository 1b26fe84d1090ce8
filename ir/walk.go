package ir

import (
	"slices"

	"folio/api"
)

// walk is how far a list of operations has been gone through: what is open behind those that were taken. A table stands in no
// list and no list in a table, so that there is room for one where there is room for all lists.
type walk struct {
	blocks [api.MaxDepth]opened    // lists and tables, the innermost last
	depth  int                     // how many they are
	braces [api.MaxNest]api.OpKind // styles, links and notes, the innermost last
	nest   int                     // how many they are
	para   bool                    // in a paragraph
	ahead  api.OpKind              // the one that was taken last
}

// opened is a list or a table that has begun and not ended.
type opened struct {
	wide  int // how many paragraphs a row has; 0: it is a list
	parts int // how many items or rows have begun
	cells int // how many paragraphs the last of them has so far
}

func (o opened) table() bool { return o.wide > 0 }

// short answers whether the last row lacks paragraphs.
func (o opened) short() bool { return o.table() && o.parts > 0 && o.cells < o.wide }

// room answers whether a paragraph may stand in it.
func (o opened) room() bool { return o.parts > 0 && (o.short() || !o.table()) }

// innermost answers what has begun last of the lists and tables that are open; of none something that is neither.
func (w *walk) innermost() opened {
	if w.depth == 0 {
		return opened{}
	}
	return w.blocks[w.depth-1]
}

// mayStand answers whether an operation may come next.
func (w *walk) mayStand(kind api.OpKind) bool {
	in := w.innermost()
	switch kind {
	case api.OpLink, api.OpNote:
		if slices.ContainsFunc(w.braces[:w.nest], isLink) {
			return false
		}
		fallthrough
	case api.OpStyle:
		if w.nest == len(w.braces) {
			return false
		}
		fallthrough
	case api.OpTab, api.OpBreak:
		return w.para
	case api.OpText:
		return w.para && w.ahead != api.OpText
	case api.OpClose:
		return w.nest > 0
	case api.OpDone:
		return w.para && w.nest == 0
	case api.OpList:
		if w.depth == len(w.blocks) || in.table() {
			return false
		}
		fallthrough
	case api.OpPara:
		return !w.para && (w.depth == 0 || in.room())
	case api.OpTable:
		return !w.para && w.depth == 0
	case api.OpItem:
		return !w.para && w.depth > 0 && !in.table()
	case api.OpRow:
		if !in.table() {
			return false
		}
		fallthrough
	case api.OpEnd:
		return !w.para && w.depth > 0 && !in.short()
	}
	return false
}

// take takes an operation that may come next.
func (w *walk) take(o api.Op) {
	switch o.Kind {
	case api.OpStyle, api.OpLink, api.OpNote:
		w.braces[w.nest] = o.Kind
		w.nest++
	case api.OpClose:
		w.nest--
	case api.OpPara:
		w.para = true
		if w.depth > 0 {
			w.blocks[w.depth-1].cells++
		}
	case api.OpDone:
		w.para = false
	case api.OpList, api.OpTable:
		w.blocks[w.depth] = opened{wide: len(o.Widths)}
		w.depth++
	case api.OpItem, api.OpRow:
		in := &w.blocks[w.depth-1]
		in.parts++
		in.cells = 0
	case api.OpEnd:
		w.depth--
	}
	w.ahead = o.Kind
}

// ended answers whether nothing is open.
func (w *walk) ended() bool { return !w.para && w.depth == 0 }
