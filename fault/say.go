package fault

import (
	"strconv"
	"strings"

	"folio/api"
)

func textOf(err error) string {
	var b strings.Builder
	say(&b, err)
	return b.String()
}

// say writes into one builder all the way down: errors may be nested deeply, and a text a level would be copied at each.
func say(b *strings.Builder, err error) {
	switch x := err.(type) {
	case *Error:
		sayFault(b, x.Fault())
	case *under:
		b.WriteString(x.step.Layer + " " + strconv.Itoa(x.step.What) + ": ")
		say(b, x.err)
	case *in:
		b.WriteString("in " + strconv.Itoa(x.source) + ": ")
		say(b, x.err)
	case *joined:
		for i, e := range x.l {
			if i > 0 {
				b.WriteString("; ")
			}
			say(b, e)
		}
	default:
		b.WriteString(saidBy(err))
	}
}

func sayFault(b *strings.Builder, f api.Fault) {
	b.WriteString("fault " + strconv.Itoa(int(f.Code)))
	if f.Source != 0 || f.Line != 0 || f.Col != 0 {
		b.WriteString(" at " + strconv.Itoa(f.Source) + ":" + strconv.Itoa(f.Line) + ":" + strconv.Itoa(f.Col))
	}
	if f.Word != "" {
		b.WriteString(" " + f.Word)
	}
}

// saidBy answers the text of an error of others. One that panics when it is asked has none.
func saidBy(err error) (s string) {
	defer func() {
		if recover() != nil {
			s = ""
		}
	}()
	return err.Error()
}
