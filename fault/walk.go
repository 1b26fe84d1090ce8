package fault

import (
	"iter"
	"slices"

	"folio/api"
)

// way is what an error came through to where a walk stands.
type way struct {
	sourced bool // an In is on it
	source  int  // of the outermost In
	trail   []api.Step
}

func (w way) through(s api.Step) way {
	w.trail = append(w.trail, s)
	return w
}

func (w way) within(source int) way {
	if !w.sourced {
		w.sourced, w.source = true, source
	}
	return w
}

// told answers the fault at the way's end. Its Trail is a copy, for ways that part later on share the memory of theirs.
func (w way) told(e *Error) api.Fault {
	f := e.Fault()
	if w.sourced {
		f.Source = w.source
	}
	f.Trail = slices.Clone(w.trail)
	return f
}

// faults goes over the faults of err, depth first, each with the way to it.
func faults(err error) iter.Seq2[*Error, way] {
	return func(yield func(*Error, way) bool) { walk(err, way{}, yield) }
}

// walk answers false as soon as yield wants no more.
func walk(err error, w way, yield func(*Error, way) bool) bool {
	switch x := err.(type) {
	case *Error:
		return !x.made() || yield(x, w)
	case *under:
		return walk(x.err, w.through(x.step), yield)
	case *in:
		return walk(x.err, w.within(x.source), yield)
	}
	for _, x := range unwrapped(err) {
		if !walk(x, w, yield) {
			return false
		}
	}
	return true
}

// unwrapped answers what is within an error. One that panics when it is asked (a nil pointer of somebody's type) has
// nothing within.
func unwrapped(err error) (l []error) {
	defer func() {
		if recover() != nil {
			l = nil
		}
	}()
	switch x := err.(type) {
	case interface{ Unwrap() error }:
		return []error{x.Unwrap()}
	case interface{ Unwrap() []error }:
		return x.Unwrap()
	}
	return nil
}

// faultless tells an error that has no faults.
func faultless(err error) api.Fault {
	f := api.Fault{Code: api.ErrFault}
	for {
		switch x := err.(type) {
		case *under:
			f.Trail = append(f.Trail, x.step)
			err = x.err
		case *in:
			err = x.err
		default:
			return f
		}
	}
}
