package names

import (
	"iter"
	"slices"
	"strings"

	"folio/api"
	"folio/text"
)

// mostSteps is how many a name that is near may be away.
const mostSteps = 3

// Table is a table of names. Nothing of it changes once it is made.
type Table struct {
	names   []string // as they were given
	norms   []string // of each name
	numbers numbers
	sorted  []int // the names' numbers in their order
}

// New: P7.3.
func New(l []string) (*Table, int, api.Errno) {
	if len(l) > api.MaxTopics {
		return nil, 0, api.ErrLong
	}
	t := &Table{names: slices.Clone(l), numbers: numbers{}}
	for i, name := range t.names {
		norm, e := t.numbers.add(name)
		if e != api.OK {
			return nil, i, e
		}
		t.norms = append(t.norms, norm)
		t.sorted = append(t.sorted, i)
	}
	slices.SortFunc(t.sorted, func(i, j int) int { return text.Compare(t.names[i], t.names[j]) })
	return t, 0, api.OK
}

// Len: P7.4.
func (t *Table) Len() int {
	if t == nil {
		return 0
	}
	return len(t.names)
}

// Name: P7.4.
func (t *Table) Name(i int) (string, api.Errno) {
	if i < 0 || i >= t.Len() {
		return "", api.ErrRange
	}
	return t.names[i], api.OK
}

// Find: P7.4.
func (t *Table) Find(name string) (int, bool) {
	norm, e := Norm(name)
	if t == nil || e != api.OK {
		return 0, false
	}
	i, ok := t.numbers[norm]
	return i, ok
}

// Sorted: P7.5.
func (t *Table) Sorted() []int {
	if t == nil {
		return nil
	}
	return slices.Clone(t.sorted)
}

// Each: P7.5.
func (t *Table) Each() iter.Seq2[int, string] {
	return func(yield func(int, string) bool) {
		for _, i := range t.Sorted() {
			if !yield(i, t.names[i]) {
				return
			}
		}
	}
}

// Prefix: P7.6.
func (t *Table) Prefix(s string) []int {
	if _, plain := text.Plain(s); !plain {
		return nil
	}
	begin := text.Fold(s)
	var l []int
	for i := range t.Each() {
		if strings.HasPrefix(t.norms[i], begin) {
			l = append(l, i)
		}
	}
	return l
}

// Near: P7.6.
func (t *Table) Near(s string) []int {
	norm, e := Norm(s)
	if e != api.OK {
		return nil
	}
	var l []int
	least := mostSteps
	for i := range t.Each() {
		steps := Apart(t.norms[i], norm)
		if steps < least {
			least, l = steps, nil
		}
		if steps == least {
			l = append(l, i)
		}
	}
	return l
}
