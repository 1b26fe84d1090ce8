package fault_test

import (
	"errors"
	"fmt"
	"io"
	"io/fs"
	"math"
	"reflect"
	"strings"
	"testing"

	"folio/api"
	"folio/fault"
)

// one is an error of others with one error within.
type one struct{ err error }

func (o one) Error() string { return "one" }
func (o one) Unwrap() error { return o.err }

// many is an error of others with several errors within. (It can't be compared.)
type many struct{ l []error }

func (m many) Error() string   { return "many" }
func (m many) Unwrap() []error { return m.l }

// sly is an error of others that claims to be every error, and to hold a fault that isn't within.
type sly struct{}

func (sly) Error() string  { return "sly" }
func (sly) Is(error) bool  { return true }
func (sly) As(to any) bool { return putInto(to, fault.Code(99)) }

func putInto(target any, err error) bool {
	place, ok := target.(**fault.Error)
	if ok {
		*place = err.(*fault.Error)
	}
	return ok
}

func nobodyMade() []error { return []error{(*fault.Error)(nil), new(fault.Error)} }

func told(code api.Errno, source int, trail ...api.Step) api.Fault {
	return api.Fault{Code: code, Source: source, Trail: trail}
}

func step(layer string, what int) api.Step { return api.Step{Layer: layer, What: what} }

func alike(a, b api.Fault) bool {
	same := len(a.Trail) == len(b.Trail)
	for i := 0; same && i < len(a.Trail); i++ {
		same = a.Trail[i] == b.Trail[i]
	}
	a.Trail, b.Trail = nil, nil
	return same && reflect.DeepEqual(a, b)
}

// wantAll holds what All and Told answer against what they should.
func wantAll(t *testing.T, err error, want ...api.Fault) {
	t.Helper()
	got := fault.All(err)
	if len(got) != len(want) {
		t.Fatalf("%s: All: %v, want %v", fault.Text(err), got, want)
	}
	for i := range want {
		if !alike(got[i], want[i]) {
			t.Errorf("%s: All: fault %d: %v, want %v", fault.Text(err), i, got[i], want[i])
		}
	}
	var first api.Fault
	if len(want) > 0 {
		first = want[0]
	}
	if x := fault.Told(err); !alike(x, first) {
		t.Errorf("%s: Told: %v, want %v", fault.Text(err), x, first)
	}
}

func wantText(t *testing.T, err error, want string) {
	t.Helper()
	if s := fault.Text(err); s != want {
		t.Errorf("Text: %q, want %q", s, want)
	}
	if err != nil && err.Error() != want {
		t.Errorf("Error: %q, want %q", err.Error(), want)
	}
}

// P1.1

func TestNewOfOKIsNil(t *testing.T) {
	if err := fault.New(api.OK, 1, 2, 3, "word"); err != nil {
		t.Error(err)
	}
	if err := fault.Code(api.OK); err != nil {
		t.Error(err)
	}
}

func TestNewKeepsItsFields(t *testing.T) {
	for _, want := range []api.Fault{
		{Code: 50, Source: 4, Line: 3, Col: 1, Word: ".foo"},
		{Code: api.ErrFault, Word: "a b\n\xff"},
		{Code: -7, Source: -1, Line: -2, Col: -3},
		{Code: math.MinInt, Source: math.MaxInt, Line: math.MinInt, Col: math.MaxInt},
	} {
		err := fault.New(want.Code, want.Source, want.Line, want.Col, want.Word)
		wantAll(t, err, want)
		e, ok := err.(*fault.Error)
		if !ok || !alike(e.Fault(), want) {
			t.Errorf("New: %#v, want a *Error of %v", err, want)
		}
	}
}

func TestCodeIsNewOfACodeAlone(t *testing.T) {
	err := fault.Code(20)
	wantAll(t, err, api.Fault{Code: 20})
	if e, ok := err.(*fault.Error); !ok || !alike(e.Fault(), api.Fault{Code: 20}) {
		t.Errorf("Code: %#v", err)
	}
}

// P1.2

func TestFaultHasNoTrailAndItsOwnSource(t *testing.T) {
	err := fault.Under(fault.In(fault.New(50, 1, 3, 2, "w"), 9), "src", 7)
	var e *fault.Error
	if !errors.As(err, &e) || !alike(e.Fault(), api.Fault{Code: 50, Source: 1, Line: 3, Col: 2, Word: "w"}) {
		t.Error(e.Fault())
	}
}

func TestFaultOfWhatNobodyMade(t *testing.T) {
	for _, err := range nobodyMade() {
		if f := err.(*fault.Error).Fault(); !alike(f, api.Fault{Code: api.ErrFault}) {
			t.Error(f)
		}
	}
}

// P1.3

func TestWrappingNilIsNil(t *testing.T) {
	if fault.Under(nil, "src", 1) != nil || fault.In(nil, 1) != nil {
		t.Error("a wrapped nil is not nil")
	}
	if fault.Join() != nil || fault.Join(nil) != nil || fault.Join(nil, nil, nil) != nil || fault.Join([]error{}...) != nil {
		t.Error("a Join of nils is not nil")
	}
}

func TestUnwrapTellsWhatIsWithin(t *testing.T) {
	a, b := fault.Code(20), errors.New("b")
	if errors.Unwrap(fault.Under(a, "src", 1)) != a || errors.Unwrap(fault.In(b, 1)) != b {
		t.Error("Unwrap of Under or In")
	}
	for _, l := range [][]error{{a, b}, {nil, a, nil, b, nil}} {
		j, ok := fault.Join(l...).(interface{ Unwrap() []error })
		if !ok {
			t.Fatal("a Join without Unwrap() []error")
		}
		if u := j.Unwrap(); len(u) != 2 || u[0] != a || u[1] != b {
			t.Error(u)
		}
	}
	if u := fault.Join(nil, b).(interface{ Unwrap() []error }).Unwrap(); len(u) != 1 || u[0] != b {
		t.Error(u)
	}
}

func TestWrappingKeepsWhatNobodyMade(t *testing.T) {
	for _, err := range nobodyMade() {
		if errors.Unwrap(fault.Under(err, "a", 1)) != err || errors.Unwrap(fault.In(err, 1)) != err {
			t.Error("it is gone")
		}
		if u := fault.Join(err).(interface{ Unwrap() []error }).Unwrap(); len(u) != 1 || u[0] != err {
			t.Error(u)
		}
	}
}

func TestNoErrorChangesBehindItsMaking(t *testing.T) {
	l := []error{fault.Code(20), fault.Code(30)}
	j := fault.Join(l...)
	l[0], l[1] = fault.Code(40), nil
	wantAll(t, j, api.Fault{Code: 20}, api.Fault{Code: 30})
	u := j.(interface{ Unwrap() []error }).Unwrap()
	u[0] = nil
	_ = append(u[:1], fault.Code(50))
	wantAll(t, j, api.Fault{Code: 20}, api.Fault{Code: 30})

	e := fault.New(50, 1, 2, 3, "w")
	fault.Under(fault.In(e, 9), "src", 7)
	wantAll(t, e, api.Fault{Code: 50, Source: 1, Line: 2, Col: 3, Word: "w"})
}

func TestListsWithinAreNotChanged(t *testing.T) {
	a, b := fault.Code(20), fault.Code(30)
	whole := []error{nil, a, nil, b, io.EOF}
	l := whole[:4]
	err := fault.Under(many{l}, "src", 1)
	fault.All(err)
	fault.Is(err, 30)
	fault.Text(err)
	fault.Join(l...)
	if l[0] != nil || l[1] != a || l[2] != nil || l[3] != b || whole[4] != io.EOF {
		t.Error(whole)
	}
}

// P1.4

func TestAllOfNil(t *testing.T) {
	wantAll(t, nil)
}

func TestTrailIsThatOfTheUnders(t *testing.T) {
	e := fault.New(50, 1, 0, 0, "")
	wantAll(t, fault.Under(fault.Under(e, "src", 7), "book", 2), told(50, 1, step("book", 2), step("src", 7)))
	wantAll(t, fault.Under(fault.In(fault.Under(e, "", 0), 4), "book", -2), told(50, 4, step("book", -2), step("", 0)))
}

func TestTrailsGoThroughJoinsAndOthers(t *testing.T) {
	a := fault.Under(fault.Code(20), "a", 1)
	b := fault.Under(one{fault.Under(fault.Code(30), "c", 3)}, "b", 2)
	err := fault.Under(many{[]error{nil, fault.Join(a, fault.Code(40)), io.EOF, b}}, "top", 9)
	wantAll(t, err,
		told(20, 0, step("top", 9), step("a", 1)),
		told(40, 0, step("top", 9)),
		told(30, 0, step("top", 9), step("b", 2), step("c", 3)))
}

func TestSourceIsThatOfTheOutermostIn(t *testing.T) {
	e := fault.New(50, 1, 0, 0, "")
	wantAll(t, e, told(50, 1))
	wantAll(t, fault.In(e, 2), told(50, 2))
	wantAll(t, fault.In(fault.In(e, 2), 3), told(50, 3))
	wantAll(t, fault.In(fault.In(e, 2), 0), told(50, 0))
	wantAll(t, fault.In(one{fault.In(e, 2)}, -3), told(50, -3))
	j := fault.Join(fault.In(e, 2), e, fault.In(e, 4))
	wantAll(t, j, told(50, 2), told(50, 1), told(50, 4))
	wantAll(t, fault.In(j, 5), told(50, 5), told(50, 5), told(50, 5))
}

func TestDepthFirstInOrder(t *testing.T) {
	c := fault.Code
	err := fault.Join(c(1), fault.Join(c(2), errors.Join(c(3), fmt.Errorf("%w and %w", c(4), c(5))), c(6)), c(7))
	wantAll(t, err, told(1, 0), told(2, 0), told(3, 0), told(4, 0), told(5, 0), told(6, 0), told(7, 0))
	twice := c(8)
	wantAll(t, fault.Join(twice, twice), told(8, 0), told(8, 0))
}

func TestErrorsWithoutFaults(t *testing.T) {
	x := errors.New("x")
	none := api.Fault{Code: api.ErrFault}
	for _, err := range append(nobodyMade(), x, one{x}, one{}, many{}, many{[]error{nil, x}}, fault.Join(x), fault.In(x, 3)) {
		wantAll(t, err, none)
		wantAll(t, fault.Under(err, "a", 1), told(api.ErrFault, 0, step("a", 1)))
		wantAll(t, fault.Join(err, x), none)
		wantAll(t, fault.Join(err, fault.Code(20)), api.Fault{Code: 20})
	}
	wantAll(t, fault.Join(nobodyMade()...), none)
}

func TestTrailWithoutFaults(t *testing.T) {
	deep := fault.Under(errors.New("x"), "deep", 5)
	down := fault.Under(fault.In(fault.In(fault.Under(deep, "b", 2), 7), 8), "a", 1)
	wantAll(t, down, told(api.ErrFault, 0, step("a", 1), step("b", 2), step("deep", 5)))
	for _, end := range []error{fault.Join(deep), fault.Join(deep, deep), one{deep}, many{[]error{deep}}} {
		wantAll(t, fault.Under(fault.In(end, 3), "a", 1), told(api.ErrFault, 0, step("a", 1)))
		wantAll(t, end, api.Fault{Code: api.ErrFault})
	}
}

func TestAnswersShareNoMemory(t *testing.T) {
	e := fault.Under(fault.Under(fault.Under(fault.Code(20), "c", 3), "b", 2), "a", 1)
	j := fault.Under(fault.Join(e, e, fault.Under(fault.Code(30), "d", 4)), "top", 0)
	first, second := fault.All(j), fault.All(j)
	for i := range first {
		_ = append(first[i].Trail[:1], step("spoilt", -1))
		for k := range first[i].Trail {
			first[i].Trail[k] = step("spoilt", -1)
		}
		if i+1 < len(first) && first[i+1].Trail[0] != step("top", 0) {
			t.Error("two Trails of one answer share memory")
		}
	}
	for i, f := range fault.All(j) {
		if !alike(f, second[i]) || f.Trail[0] != step("top", 0) {
			t.Error(f, second[i])
		}
	}
	x := fault.Under(errors.New("x"), "a", 1)
	fault.Told(x).Trail[0].What = 9
	wantAll(t, x, told(api.ErrFault, 0, step("a", 1)))
}

// P1.5

func wantIs(t *testing.T, err error, code api.Errno, want bool) {
	t.Helper()
	if fault.Is(err, code) != want {
		t.Errorf("%s: Is %d: %v", fault.Text(err), code, !want)
	}
	if code != api.OK && errors.Is(err, fault.Code(code)) != want {
		t.Errorf("%s: errors.Is %d: %v", fault.Text(err), code, !want)
	}
}

func TestIsAsksAllFaults(t *testing.T) {
	l := []error{fault.New(50, 1, 2, 3, "w"), nil, many{[]error{nil, fault.Under(fault.Code(20), "a", 1)}}, one{fault.Code(-3)}}
	err := fault.Under(fault.In(fault.Join(l...), 2), "top", 1)
	for _, code := range []api.Errno{50, 20, -3} {
		wantIs(t, err, code, true)
	}
	for _, code := range []api.Errno{api.OK, api.ErrFault, 51, 3, -50} {
		wantIs(t, err, code, false)
	}
}

func TestIsOfNilAndOK(t *testing.T) {
	wantIs(t, nil, api.OK, true)
	wantIs(t, nil, 50, false)
	wantIs(t, nil, api.ErrFault, false)
	for _, err := range append(nobodyMade(), io.EOF, fault.Code(50)) {
		wantIs(t, err, api.OK, false)
	}
}

func TestIsOfErrFault(t *testing.T) {
	for _, err := range append(nobodyMade(), io.EOF, one{io.EOF}) {
		wantIs(t, err, api.ErrFault, false)
		wantIs(t, fault.Under(fault.In(err, 1), "a", 1), api.ErrFault, false)
		wantIs(t, fault.Join(err, err), api.ErrFault, false)
		wantIs(t, fault.Join(err, fault.New(api.ErrFault, 0, 1, 1, "")), api.ErrFault, true)
	}
}

func TestErrorsIsOfOtherTargets(t *testing.T) {
	e := fault.Code(50)
	err := fault.Under(fault.Join(io.EOF, e), "a", 1)
	if !errors.Is(err, io.EOF) || !errors.Is(err, err) || !errors.Is(err, e) {
		t.Error("errors.Is misses what is within")
	}
	for _, target := range append(nobodyMade(), nil, io.ErrNoProgress, one{}, fault.In(e, 1)) {
		if errors.Is(err, target) {
			t.Errorf("errors.Is tells that it is %#v", target)
		}
	}
}

func TestIsGoesByWhatIsWithinAlone(t *testing.T) {
	for _, err := range []error{sly{}, fault.Under(sly{}, "a", 1), fault.Join(io.EOF, sly{})} {
		if fault.Is(err, 99) || fault.Is(err, api.ErrFault) {
			t.Errorf("%s has a fault", err)
		}
	}
	wantAll(t, fault.In(fault.Join(sly{}, fault.Code(20)), 4), told(20, 4))
}

// P1.6

func TestTexts(t *testing.T) {
	e := fault.New(50, 0, 3, 1, ".foo")
	wantText(t, nil, "")
	wantText(t, fault.Code(50), "fault 50")
	wantText(t, fault.Code(-5), "fault -5")
	wantText(t, fault.New(50, 1, 0, 0, ""), "fault 50 at 1:0:0")
	wantText(t, fault.New(50, 0, -1, 0, ""), "fault 50 at 0:-1:0")
	wantText(t, fault.New(50, 0, 0, 12, ""), "fault 50 at 0:0:12")
	wantText(t, fault.New(50, 0, 0, 0, "a b"), "fault 50 a b")
	wantText(t, fault.New(50, 0, 0, 0, " "), "fault 50  ")
	wantText(t, e, "fault 50 at 0:3:1 .foo")
	wantText(t, fault.Under(e, "src", -7), "src -7: fault 50 at 0:3:1 .foo")
	wantText(t, fault.Under(e, "", 0), " 0: fault 50 at 0:3:1 .foo")
	wantText(t, fault.In(e, -2), "in -2: fault 50 at 0:3:1 .foo")
	wantText(t, fault.Join(nil, e), "fault 50 at 0:3:1 .foo")
	wantText(t, fault.Join(fault.Code(1), nil, errors.New("x"), fault.Join(fault.Code(2), fault.Code(3))), "fault 1; x; fault 2; fault 3")
	wantText(t, fault.In(fault.Under(fmt.Errorf("say %w", fault.In(e, 1)), "src", 7), 2), "in 2: src 7: say in 1: fault 50 at 0:3:1 .foo")
}

func TestTextOfWhatNobodyMade(t *testing.T) {
	for _, err := range nobodyMade() {
		wantText(t, err, "fault 10")
		wantText(t, fault.Under(err, "a", 1), "a 1: fault 10")
	}
}

// P1.7

// dice throws numbers that are the same each time.
type dice uint32

func (d *dice) throw(n int) int {
	*d = *d*1664525 + 1013904223
	return int(*d>>8) % n
}

// grown answers an error and the faults that it should have. (Those of one without faults are none.)
func grown(d *dice, depth int) (error, []api.Fault) {
	if depth == 0 || d.throw(6) == 0 {
		return leaf(d)
	}
	if d.throw(3) > 0 {
		return wrapped(d, depth)
	}
	var l []error
	var all []api.Fault
	for range d.throw(4) {
		err, fs := grown(d, depth-1)
		l, all = append(l, err, nil), append(all, fs...)
	}
	switch err := fault.Join(l...); {
	case err == nil || d.throw(2) == 0:
		return many{l}, all
	default:
		return err, all
	}
}

func leaf(d *dice) (error, []api.Fault) {
	switch d.throw(5) {
	case 0:
		return io.EOF, nil
	case 1:
		return nobodyMade()[d.throw(2)], nil
	}
	f := api.Fault{Code: api.Errno(1 + d.throw(12)), Source: d.throw(3), Line: d.throw(9), Col: d.throw(9), Word: strings.Repeat("w", d.throw(3))}
	return fault.New(f.Code, f.Source, f.Line, f.Col, f.Word), []api.Fault{f}
}

func wrapped(d *dice, depth int) (error, []api.Fault) {
	err, l := grown(d, depth-1)
	n := d.throw(5)
	switch d.throw(3) {
	case 0:
		return one{err}, l
	case 1:
		for i := range l {
			l[i].Source = n
		}
		return fault.In(err, n), l
	}
	for i := range l {
		l[i].Trail = append([]api.Step{step("l", n)}, l[i].Trail...)
	}
	return fault.Under(err, "l", n), l
}

func TestWrappingKeepsFaults(t *testing.T) {
	d := dice(1)
	for range 3000 {
		err, want := grown(&d, 7)
		if len(want) > 0 {
			wantAll(t, err, want...)
		} else if l := fault.All(err); len(l) != 1 || l[0].Code != api.ErrFault {
			t.Error(l)
		}
		for code := api.Errno(1); code < 14; code++ {
			has := false
			for _, f := range want {
				has = has || f.Code == code
			}
			wantIs(t, err, code, has)
		}
		wantFirst(t, fault.Under(err, "top", 1), want)
		wantFirst(t, fault.In(err, 1), want)
		wantFirst(t, fault.Join(err), want)
	}
}

func TestJoinsFaultsAreThoseOfEach(t *testing.T) {
	d := dice(2)
	for range 1000 {
		a, l := grown(&d, 5)
		b, m := grown(&d, 5)
		if all := append(l, m...); len(all) > 0 {
			wantAll(t, fault.Join(a, nil, b), all...)
		}
	}
}

// P1.8

// wantFirst asks errors.As for the Error of the first fault.
func wantFirst(t *testing.T, err error, want []api.Fault) {
	t.Helper()
	var e *fault.Error
	if len(want) == 0 {
		return
	}
	if !errors.As(err, &e) {
		t.Fatalf("%s: errors.As finds none", err)
	}
	f, first := e.Fault(), fault.Told(err)
	if f.Code != first.Code || f.Line != first.Line || f.Col != first.Col || f.Word != first.Word {
		t.Errorf("%s: errors.As finds %v, Told tells %v", err, f, first)
	}
}

func TestAsPassesOverWhatIsNoFault(t *testing.T) {
	want := []api.Fault{{Code: 20}}
	l := append(nobodyMade(), io.EOF, sly{}, fault.Code(20), fault.Code(30))
	for _, err := range []error{fault.Join(l...), fault.Under(many{l}, "a", 1), fault.In(one{many{l}}, 2), fault.Join(fault.Join(l[:3]...), many{l})} {
		wantFirst(t, err, want)
	}
}

func TestAsTakesOtherTargets(t *testing.T) {
	err := fault.Under(fault.Join(fault.Code(20), one{io.EOF}), "a", 1)
	var o one
	if !errors.As(err, &o) || o.err != io.EOF {
		t.Error("errors.As misses an error of others")
	}
	var m many
	if errors.As(err, &m) {
		t.Error("errors.As finds what is not within")
	}
	var e *fault.Error
	if errors.As(fault.In(io.EOF, 1), &e) || e != nil {
		t.Error("errors.As finds a fault where there is none")
	}
}

// P1 and the bound

func TestOthersThatPanic(t *testing.T) {
	var broken *fs.PathError // its methods look behind the nil pointer
	for _, err := range []error{broken, one{broken}, fault.Under(fault.In(broken, 1), "a", 1)} {
		wantAll(t, fault.Join(err, fault.Code(20)), told(20, 0))
		if fault.Is(err, 20) || fault.Told(err).Code != api.ErrFault {
			t.Error("a fault out of nothing")
		}
	}
	if s := fault.Text(broken); s != "" {
		t.Error(s)
	}
	wantText(t, fault.Under(broken, "a", 1), "a 1: ")
}

func TestDeeplyNested(t *testing.T) {
	const levels = 1 << 16
	err := fault.New(50, 1, 0, 0, "")
	for i := range levels / 2 {
		err = fault.In(fault.Under(err, "l", i), i)
	}
	f := fault.Told(err)
	if f.Source != levels/2-1 || len(f.Trail) != levels/2 || f.Trail[0].What != levels/2-1 || !fault.Is(err, 50) {
		t.Error(f.Source, len(f.Trail))
	}
	if s := fault.Text(err); !strings.HasPrefix(s, "in 32767: l 32767: in 32766: ") || !strings.HasSuffix(s, "l 0: fault 50 at 1:0:0") {
		t.Error(len(s))
	}
	for range levels / 2 {
		err = fault.Join(nil, one{err})
	}
	if len(fault.All(err)[0].Trail) != levels/2 || fault.Is(err, 51) {
		t.Error("lost below Joins")
	}
}

// The chapter's examples.

func TestExample1(t *testing.T) {
	e := fault.New(50, 0, 3, 1, ".foo")
	f := fault.Under(fault.In(e, 2), "src", 7)
	if x := fault.Told(f); !alike(x, api.Fault{Code: 50, Source: 2, Line: 3, Col: 1, Word: ".foo", Trail: []api.Step{{Layer: "src", What: 7}}}) {
		t.Error(x)
	}
	wantText(t, f, "src 7: in 2: fault 50 at 0:3:1 .foo")
	wantIs(t, f, 50, true)
}

func TestExample2(t *testing.T) {
	f := fault.Under(fault.In(fault.New(50, 0, 3, 1, ".foo"), 2), "src", 7)
	if l := fault.All(fault.Join(nil, f, fault.Code(20))); len(l) != 2 || l[1].Code != 20 {
		t.Error(l)
	}
	wantAll(t, nil)
	wantAll(t, errors.New("x"), api.Fault{Code: 10})
	wantIs(t, errors.New("x"), 10, false)
}

func TestExample3(t *testing.T) {
	wantAll(t, fault.In(fault.In(fault.New(50, 1, 0, 0, ""), 2), 3), told(50, 3))
}
