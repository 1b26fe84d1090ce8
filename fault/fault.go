// Package fault is layer 1: see shared/doc/01-fault.md.
package fault

import (
	"errors"

	"folio/api"
)

// Error is an error of ours.
type Error struct {
	code   api.Errno // OK: nobody made it, for New makes nothing of OK
	source int
	line   int
	col    int
	word   string
}

// Error: P1.6.
func (e *Error) Error() string { return textOf(e) }

// Fault: P1.2.
func (e *Error) Fault() api.Fault {
	if !e.made() {
		return api.Fault{Code: api.ErrFault}
	}
	return api.Fault{Code: e.code, Source: e.source, Line: e.line, Col: e.col, Word: e.word}
}

// Is says to errors.Is that a code is that code, wherever the two faults stand.
func (e *Error) Is(target error) bool {
	t := itself(target)
	return e.made() && t.made() && e.code == t.code
}

func (e *Error) made() bool { return e != nil && e.code != api.OK }

// itself answers the Error that target is, but none that is only within it: errors.Is goes into the errors on its own.
func itself(target error) *Error {
	var e *Error
	if errors.As(target, &e) && target == error(e) {
		return e
	}
	return nil
}

// New: P1.1.
func New(code api.Errno, source, line, col int, word string) error {
	if code == api.OK {
		return nil
	}
	return &Error{code: code, source: source, line: line, col: col, word: word}
}

// Code: P1.1.
func Code(code api.Errno) error { return New(code, 0, 0, 0, "") }

// Under: P1.3.
func Under(err error, layer string, what int) error {
	if err == nil {
		return nil
	}
	return &under{err: err, step: api.Step{Layer: layer, What: what}}
}

// In: P1.3.
func In(err error, source int) error {
	if err == nil {
		return nil
	}
	return &in{err: err, source: source}
}

// Join: P1.3.
func Join(l ...error) error {
	var own []error // a list that the caller has no hand on
	for _, err := range l {
		if err != nil {
			own = append(own, err)
		}
	}
	if len(own) == 0 {
		return nil
	}
	return &joined{l: own}
}

// Told: P1.4.
func Told(err error) api.Fault {
	if err == nil {
		return api.Fault{}
	}
	for e, w := range faults(err) {
		return w.told(e)
	}
	return faultless(err)
}

// All: P1.4.
func All(err error) []api.Fault {
	if err == nil {
		return nil
	}
	var l []api.Fault
	for e, w := range faults(err) {
		l = append(l, w.told(e))
	}
	if len(l) == 0 {
		l = append(l, faultless(err))
	}
	return l
}

// Is: P1.5.
func Is(err error, code api.Errno) bool {
	wanted := Code(code)
	if wanted == nil {
		return err == nil
	}
	for e := range faults(err) {
		if errors.Is(e, wanted) {
			return true
		}
	}
	return false
}

// Text: P1.6.
func Text(err error) string {
	if err == nil {
		return ""
	}
	return textOf(err)
}
