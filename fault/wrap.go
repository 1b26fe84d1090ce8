package fault

import (
	"slices"

	"folio/api"
)

// under is an error that came through a layer.
type under struct {
	err  error
	step api.Step
}

func (u *under) Error() string { return textOf(u) }

func (u *under) Unwrap() error { return u.err }

func (u *under) As(target any) bool { return firstInto(u, target) }

// in is an error of a source.
type in struct {
	err    error
	source int
}

func (i *in) Error() string { return textOf(i) }

func (i *in) Unwrap() error { return i.err }

func (i *in) As(target any) bool { return firstInto(i, target) }

// joined is several errors side by side, none of them nil.
type joined struct {
	l []error
}

func (j *joined) Error() string { return textOf(j) }

func (j *joined) Unwrap() []error { return slices.Clone(j.l) }

func (j *joined) As(target any) bool { return firstInto(j, target) }

// firstInto puts the first fault of err into target, if that takes one. errors.As by itself would stop at an Error that
// nobody made, which is no fault.
func firstInto(err error, target any) bool {
	place, ok := target.(**Error)
	if !ok {
		return false
	}
	for e := range faults(err) {
		*place = e
		return true
	}
	return false
}
