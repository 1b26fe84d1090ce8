package ir

import (
	"folio/api"
	"folio/fault"
)

// definition is a style's text and the number of the source that has it.
type definition struct {
	api.StyleDef
	source int
}

func definitions(l []api.Source) []definition {
	var all []definition
	for source, s := range l {
		for _, d := range s.Styles {
			all = append(all, definition{StyleDef: d, source: source})
		}
	}
	return all
}

func (d definition) fault(e api.Errno, word string) error {
	return fault.New(e, d.source, d.Line, 0, word)
}
