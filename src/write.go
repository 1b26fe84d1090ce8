package src

import (
	"strconv"
	"strings"

	"folio/api"
	"folio/text"
)

// lineRoom is how many bytes a line of a paragraph has at most, but for one more that keeps it from being a directive or a comment.
const lineRoom = 78

// writer gathers a source line by line.
type writer struct{ text strings.Builder }

// line writes a line of these parts.
func (w *writer) line(parts ...string) {
	for _, s := range parts {
		w.text.WriteString(s)
	}
	w.text.WriteByte('\n')
}

// head writes what stands ahead of a topic's blocks.
func (w *writer) head(t api.Topic) {
	w.line()
	begin := ".topic "
	if t.Kind == api.KindNote {
		begin = ".note "
	}
	w.pair(begin, t.Name, " | ", t.Title, t.Title != t.Name)
	if t.Level != 0 {
		w.line(".toc ", strconv.Itoa(t.Level))
	}
	for _, k := range t.Keys {
		w.pair(".key ", k.Term, " ; ", k.Sub, k.Sub != "")
	}
	for _, s := range t.Sees {
		w.pair(".see ", s.From, " -> ", s.To, true)
	}
}

// pair writes a directive with an argument of two parts, or of the first one alone.
func (w *writer) pair(begin, first, between, second string, both bool) {
	if both {
		w.line(begin, first, between, second)
		return
	}
	w.line(begin, first)
}

func (w *writer) block(b api.Block) {
	switch b.Kind {
	case api.BlockPara:
		if b.Style != "" {
			w.line(".para ", b.Style)
		}
		w.fill(text.Words(flat(b.Text)))
		w.line()
	case api.BlockList:
		if b.N == 0 {
			w.line(".list bullet")
		} else {
			w.line(".list number")
		}
	case api.BlockItem:
		w.line(".item")
	case api.BlockTable:
		w.line(".table", numbers(b.Widths))
	case api.BlockRow:
		w.line(".row")
	case api.BlockEnd:
		w.line(".end")
	}
}

// numbers answers numbers, a blank ahead of each.
func numbers(l []int) string {
	var b strings.Builder
	for _, n := range l {
		b.WriteByte(' ')
		b.WriteString(strconv.Itoa(n))
	}
	return b.String()
}

// fill writes the lines of a paragraph; of one without words an empty line.
func (w *writer) fill(words []api.Word) {
	line := ""
	for _, x := range words {
		switch {
		case line == "":
			line = x.Text
		case len(line)+1+len(x.Text) <= lineRoom:
			line += " " + x.Text
		default:
			w.textLine(line)
			line = x.Text
		}
	}
	w.textLine(line)
}

// textLine writes a line of a paragraph so that it is taken for one.
func (w *writer) textLine(s string) {
	if strings.HasPrefix(s, ".") || strings.HasPrefix(s, "#") {
		w.line(`\`, s)
		return
	}
	w.line(s)
}

// flat answers a paragraph's pieces as they are written, before they are cut into lines.
func flat(l []api.Inline) string {
	var b strings.Builder
	open := 0 // how many more were opened than closed: below 0, where pieces that nobody read close what is not open
	for i, p := range l {
		switch p.Kind {
		case api.InText:
			escape(&b, p.Text, open > 0)
		case api.InStyle:
			b.WriteString("{" + p.Name)
			if i+1 < len(l) && l[i+1].Kind != api.InClose {
				b.WriteByte(' ')
			}
			open++
		case api.InLink, api.InNote:
			b.WriteString(linkBegin(p.Kind))
			escape(&b, p.Name, true)
			b.WriteByte('|')
			open++
		case api.InClose:
			b.WriteByte('}')
			open--
		case api.InTab:
			b.WriteString("{tab}")
		case api.InBreak:
			b.WriteString("{br}")
		}
	}
	return b.String()
}

func linkBegin(kind api.InlineKind) string {
	if kind == api.InNote {
		return "{note "
	}
	return "{link "
}

// escape writes a text so that each of its bytes stands for itself; a bar does so where no brace is open.
func escape(b *strings.Builder, s string, open bool) {
	for i := range len(s) { // by bytes, for bad ones stay as they are
		switch s[i] {
		case '|':
			if !open {
				break
			}
			fallthrough
		case '\\', '{', '}':
			b.WriteByte('\\')
		}
		b.WriteByte(s[i])
	}
}
