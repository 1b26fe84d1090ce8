package octet_test

import (
	"bytes"
	"fmt"
	"math"
	"slices"
	"strings"
	"testing"

	"folio/api"
	"folio/octet"
)

// state is all that a cursor tells of itself.
type state struct {
	at, left int
	err, end api.Errno
}

func stateOf(c *octet.Cursor) state { return state{c.At(), c.Left(), c.Err(), c.End()} }

// taking is one of a cursor's calls, with its argument; what it took is told as a text.
type taking struct {
	name string
	n    int
}

func (x taking) of(c *octet.Cursor) string {
	switch x.name {
	case "Byte":
		return fmt.Sprint(c.Byte())
	case "Uint":
		return fmt.Sprint(c.Uint())
	case "Int":
		return fmt.Sprint(c.Int())
	case "Index":
		return fmt.Sprint(c.Index(x.n))
	case "Take16":
		return fmt.Sprint(c.Take16())
	case "Take32":
		return fmt.Sprint(c.Take32())
	case "Take":
		return fmt.Sprint(c.Take(x.n))
	case "Bytes":
		return fmt.Sprint(c.Bytes(x.n))
	case "Text":
		return fmt.Sprintf("%q", c.Text(x.n))
	}
	return "no taking"
}

// nothing is what a taking answers where it fails.
func (x taking) nothing() string {
	switch x.name {
	case "Take", "Bytes":
		return "[]"
	case "Text":
		return `""`
	}
	return "0"
}

// takings are all of them, those with an argument over some.
func takings() []taking {
	l := []taking{{"Byte", 0}, {"Uint", 0}, {"Int", 0}, {"Take16", 0}, {"Take32", 0}}
	for _, n := range []int{math.MinInt, -1, 0, 1, 2, 3, 4, 5, 9, 300, math.MaxInt} {
		l = append(l, taking{"Index", n}, taking{"Take", n}, taking{"Bytes", n}, taking{"Text", n})
	}
	return l
}

// P3.3

func TestNewKeepsACopy(t *testing.T) {
	b := []byte{172, 2, 7, 3, 'a', 'b', 'c'}
	c := octet.New(b[:6])
	for i := range b {
		b[i] = 1
	}
	if c.At() != 0 || c.Left() != 6 || c.Uint() != 300 || c.Byte() != 7 || c.Byte() != 3 || string(c.Take(2)) != "ab" {
		t.Error("it hangs on the bytes that it was given")
	}
	if c.Byte() != 0 || c.Err() != api.ErrTorn {
		t.Error("it reads what lies behind")
	}
}

func TestAnswersAreCopies(t *testing.T) {
	b := []byte{3, 'a', 'b', 'c', 3, 'd', 'e', 'f'}
	c, d := octet.New(b), octet.New(b)
	for _, one := range [][]byte{c.Bytes(9), d.Take(4)} {
		for i := range one[:cap(one)] {
			one[:cap(one)][i] = 0
		}
	}
	if s, n := c.Text(9), d.Bytes(9); s != "def" || string(n) != "def" || string(b) != "\x03abc\x03def" {
		t.Errorf("an answer shares memory: %q, %q, %q", s, n, b)
	}
	e := octet.New(b)
	all := e.Take(8)
	f := *e // a copy of a cursor goes its own way
	f.Byte()
	if e.Err() != api.OK || f.Err() != api.ErrTorn || string(all) != string(b) {
		t.Error("a copy of a cursor moves it")
	}
}

func TestCursorsOverNoBytes(t *testing.T) {
	for _, x := range takings() {
		for what, c := range map[string]*octet.Cursor{"nil": octet.New(nil), "none": octet.New([]byte{}), "not made": new(octet.Cursor)} {
			if s := stateOf(c); s != (state{}) {
				t.Errorf("%s: %v", what, s)
			}
			want := api.ErrTorn
			switch {
			case x.name == "Take" && x.n == 0:
				want = api.OK
			case x.name == "Take" && x.n < 0:
				want = api.ErrRange
			}
			if got := x.of(c); got != x.nothing() || stateOf(c) != (state{0, 0, want, want}) {
				t.Errorf("%s: %v: %s, %v", what, x, got, stateOf(c))
			}
		}
	}
}

func TestNilCursor(t *testing.T) {
	var c *octet.Cursor
	for _, x := range takings() {
		if got := x.of(c); got != x.nothing() || stateOf(c) != (state{}) {
			t.Errorf("%v: %s, %v", x, got, stateOf(c))
		}
	}
	c.Fail(api.ErrSum)
	if stateOf(c) != (state{}) {
		t.Errorf("Fail: %v", stateOf(c))
	}
}

// P3.4

// wantTaking takes something ahead of which two bytes were taken, and holds the answer and the place against what they should be.
func wantTaking(t *testing.T, x taking, b []byte, want string, long int, e api.Errno) {
	t.Helper()
	c := octet.New(append([]byte("??"), b...))
	c.Take16()
	if got := x.of(c); got != want || c.At() != 2+long || c.Left() != len(b)-long || c.Err() != e {
		t.Errorf("%v of %v: %s, At %d, Err %d; want %s, At %d, Err %d", x, b, got, c.At(), c.Err(), want, 2+long, e)
	}
}

// fails wants a taking to fail.
func fails(t *testing.T, x taking, b []byte, e api.Errno) {
	t.Helper()
	wantTaking(t, x, b, x.nothing(), 0, e)
}

func TestTakingsOfFixedLength(t *testing.T) {
	b := []byte{0x78, 0x56, 0x34, 0x92, 0xff}
	wantTaking(t, taking{"Byte", 0}, b, "120", 1, api.OK)
	wantTaking(t, taking{"Take16", 0}, b, fmt.Sprint(0x5678), 2, api.OK)
	wantTaking(t, taking{"Take32", 0}, b, fmt.Sprint(0x92345678), 4, api.OK)
	wantTaking(t, taking{"Byte", 0}, b[4:], "255", 1, api.OK)
	wantTaking(t, taking{"Take16", 0}, b[3:], fmt.Sprint(0xff92), 2, api.OK)
	for n := range 4 {
		fails(t, taking{"Take32", 0}, b[:n], api.ErrTorn)
	}
	fails(t, taking{"Take16", 0}, b[:1], api.ErrTorn)
	fails(t, taking{"Take16", 0}, nil, api.ErrTorn)
	fails(t, taking{"Byte", 0}, nil, api.ErrTorn)
}

func TestTake(t *testing.T) {
	b := []byte{1, 0, 255}
	wantTaking(t, taking{"Take", 0}, b, "[]", 0, api.OK)
	wantTaking(t, taking{"Take", 0}, nil, "[]", 0, api.OK)
	wantTaking(t, taking{"Take", 2}, b, "[1 0]", 2, api.OK)
	wantTaking(t, taking{"Take", 3}, b, "[1 0 255]", 3, api.OK)
	for _, n := range []int{4, 5, 300, math.MaxInt - 1, math.MaxInt} {
		fails(t, taking{"Take", n}, b, api.ErrTorn)
	}
	for _, n := range []int{-1, -2, -300, math.MinInt + 1, math.MinInt} {
		fails(t, taking{"Take", n}, b, api.ErrRange)
		fails(t, taking{"Take", n}, nil, api.ErrRange)
	}
}

// wrongNumbers are bytes that begin with none, by the error that they have.
func wrongNumbers() map[string]api.Errno {
	nine, full := strings.Repeat("\x80", 9), strings.Repeat("\xff", 9)
	l := map[string]api.Errno{
		"\x80\x00": api.ErrForm, "\x80\x00\x01": api.ErrForm, "\xff\x00": api.ErrForm, "\x81\x80\x00": api.ErrForm,
		nine[:8] + "\x00": api.ErrForm, nine + "\x00": api.ErrForm,
		nine + "\x02": api.ErrForm, nine + "\x02\x07": api.ErrForm, full + "\x03": api.ErrForm, full + "\x7f": api.ErrForm,
		nine + "\x80": api.ErrForm, nine + "\x81": api.ErrForm, nine + "\x80\x01": api.ErrForm, nine + "\x80\x00": api.ErrForm,
		full + "\xff": api.ErrForm, full + "\xff\x01": api.ErrForm,
	}
	for i := range 10 {
		l[nine[:i]], l[full[:i]] = api.ErrTorn, api.ErrTorn
	}
	return l
}

func TestUint(t *testing.T) {
	x := taking{"Uint", 0}
	nine, full := strings.Repeat("\x80", 9), strings.Repeat("\xff", 9)
	wantTaking(t, x, []byte{0}, "0", 1, api.OK)
	wantTaking(t, x, []byte{0, 0}, "0", 1, api.OK)
	wantTaking(t, x, []byte{127, 1}, "127", 1, api.OK)
	wantTaking(t, x, []byte{172, 2, 7}, "300", 2, api.OK)
	wantTaking(t, x, []byte{128, 128, 1, 128}, "16384", 3, api.OK)
	wantTaking(t, x, []byte(full[:8]+"\x7f"), fmt.Sprint(uint64(math.MaxInt64)), 9, api.OK)
	wantTaking(t, x, []byte(nine+"\x01"), fmt.Sprint(uint64(1<<63)), 10, api.OK)
	wantTaking(t, x, []byte(full+"\x01\xff"), fmt.Sprint(uint64(math.MaxUint64)), 10, api.OK)
	for b, e := range wrongNumbers() {
		fails(t, x, []byte(b), e)
	}
}

func TestWhatBeginsWithANumberFailsAsUint(t *testing.T) {
	for b, e := range wrongNumbers() {
		fails(t, taking{"Int", 0}, []byte(b), e)
		for _, n := range []int{math.MinInt, -1, 0, 1, 300, math.MaxInt} {
			fails(t, taking{"Index", n}, []byte(b), e)
			fails(t, taking{"Bytes", n}, []byte(b), e)
			fails(t, taking{"Text", n}, []byte(b), e)
		}
	}
}

func TestInt(t *testing.T) {
	x := taking{"Int", 0}
	full := strings.Repeat("\xff", 9)
	for i, want := range []string{"0", "-1", "1", "-2", "2", "-3"} {
		wantTaking(t, x, []byte{byte(i), 9}, want, 1, api.OK)
	}
	wantTaking(t, x, []byte{128, 1}, "64", 2, api.OK)
	wantTaking(t, x, []byte(full+"\x01"), fmt.Sprint(math.MinInt), 10, api.OK)
	wantTaking(t, x, []byte("\xfe"+full[1:]+"\x01"), fmt.Sprint(math.MaxInt), 10, api.OK)
}

func TestIndex(t *testing.T) {
	wantTaking(t, taking{"Index", 5}, []byte{4, 9}, "4", 1, api.OK)
	wantTaking(t, taking{"Index", 1}, []byte{0}, "0", 1, api.OK)
	wantTaking(t, taking{"Index", 301}, []byte{172, 2}, "300", 2, api.OK)
	wantTaking(t, taking{"Index", math.MaxInt}, octet.PutUint(nil, math.MaxInt-1), fmt.Sprint(math.MaxInt-1), 9, api.OK)
	for _, n := range []int{5, 4, 1, 0, -1, math.MinInt} {
		fails(t, taking{"Index", n}, []byte{5, 1}, api.ErrRange)
	}
	fails(t, taking{"Index", 300}, []byte{172, 2}, api.ErrRange)
	for _, n := range []int{0, -1, -2, math.MinInt} {
		fails(t, taking{"Index", n}, []byte{0}, api.ErrRange)
	}
	for _, n := range []uint64{math.MaxInt, math.MaxInt + 1, math.MaxUint64} {
		fails(t, taking{"Index", math.MaxInt}, octet.PutUint(nil, n), api.ErrRange)
		fails(t, taking{"Index", -1}, octet.PutUint(nil, n), api.ErrRange)
	}
}

func TestBytesAndText(t *testing.T) {
	b := []byte("\x02abc")
	for _, n := range []int{2, 3, 9, math.MaxInt} {
		wantTaking(t, taking{"Bytes", n}, b, "[97 98]", 3, api.OK)
		wantTaking(t, taking{"Text", n}, b, `"ab"`, 3, api.OK)
	}
	for _, name := range []string{"Bytes", "Text"} {
		x := func(n int) taking { return taking{name, n} }
		wantTaking(t, x(0), []byte{0, 1}, x(0).nothing(), 1, api.OK)
		for _, n := range []int{1, 0, -1, math.MinInt} {
			fails(t, x(n), b, api.ErrLong)
			fails(t, x(n), []byte{9}, api.ErrLong) // ahead of ErrTorn
		}
		fails(t, x(-1), []byte{0}, api.ErrLong)
		fails(t, x(math.MinInt), []byte{0}, api.ErrLong)
		fails(t, x(1), []byte{2, 10, 10}, api.ErrLong) // ahead of ErrBytes
		fails(t, x(9), []byte{2, 97}, api.ErrTorn)
		fails(t, x(9), []byte{2}, api.ErrTorn)
		fails(t, x(9), []byte{2, 10}, api.ErrTorn) // ahead of ErrBytes
		fails(t, x(math.MaxInt), octet.PutUint(nil, math.MaxInt), api.ErrTorn)
		for _, n := range []uint64{math.MaxInt + 1, math.MaxUint64 - 1, math.MaxUint64} {
			fails(t, x(math.MaxInt), octet.PutUint(nil, n), api.ErrLong)
			fails(t, x(-1), octet.PutUint(nil, n), api.ErrLong)
		}
	}
}

func TestTextIsText(t *testing.T) {
	for _, s := range []string{"", "a", "é\u4e2d\u0301", "\ufffd", strings.Repeat("ab ", 100)} {
		b := octet.PutText(nil, s)
		wantTaking(t, taking{"Text", len(s)}, append(b, 0xff), fmt.Sprintf("%q", s), len(b), api.OK)
	}
	for _, s := range []string{"\n", "a\x00", "\x7f", "a\u0085", "\xff", "a\xe4\xb8", "\xed\xa0\x80"} {
		b := octet.PutText(nil, s)
		fails(t, taking{"Text", 9}, append(b, "\xad more"...), api.ErrBytes)
		wantTaking(t, taking{"Bytes", 9}, b, fmt.Sprint([]byte(s)), len(b), api.OK)
	}
}

func TestNothingChangesBehindAnError(t *testing.T) {
	for _, x := range takings() {
		for _, e := range []api.Errno{api.ErrTorn, api.ErrSum, -1} {
			c := octet.New([]byte{9, 2, 97, 98, 2, 97, 98})
			c.Byte()
			c.Fail(e)
			if got := x.of(c); got != x.nothing() || stateOf(c) != (state{1, 6, e, e}) {
				t.Errorf("%v behind %d: %s, %v", x, e, got, stateOf(c))
			}
		}
	}
}

// P3.5

func TestFail(t *testing.T) {
	c := octet.New([]byte{1, 2, 3})
	c.Byte()
	c.Fail(api.OK)
	if stateOf(c) != (state{1, 2, api.OK, api.ErrForm}) || c.Byte() != 2 {
		t.Errorf("Fail of OK: %v", stateOf(c))
	}
	c.Fail(api.ErrLong)
	for _, e := range []api.Errno{api.OK, api.ErrRange, api.ErrTorn, -1} {
		c.Fail(e)
		if stateOf(c) != (state{2, 1, api.ErrLong, api.ErrLong}) {
			t.Errorf("Fail of %d: %v", e, stateOf(c))
		}
	}
	var d octet.Cursor // one that New did not make remembers, too
	d.Fail(-7)
	d.Fail(api.ErrLong)
	if stateOf(&d) != (state{0, 0, -7, -7}) {
		t.Errorf("Fail of one that New did not make: %v", stateOf(&d))
	}
}

func TestEnd(t *testing.T) {
	c := octet.New([]byte{1, 2})
	for _, want := range []api.Errno{api.ErrForm, api.ErrForm, api.OK} {
		for range 3 { // it changes nothing
			if c.End() != want || c.Err() != api.OK {
				t.Errorf("End at %d: %d, Err %d", c.At(), c.End(), c.Err())
			}
		}
		if want != api.OK && c.Byte() != byte(c.At()) {
			t.Errorf("Byte behind End: At %d", c.At())
		}
	}
	c.Byte()
	if stateOf(c) != (state{2, 0, api.ErrTorn, api.ErrTorn}) {
		t.Errorf("behind the last byte: %v", stateOf(c))
	}
}

// The chapter's examples.

func TestExamples(t *testing.T) {
	c := octet.New([]byte{172, 2, 7})
	if c.Uint() != 300 || c.At() != 2 || c.Byte() != 7 || c.End() != api.OK {
		t.Errorf("{172, 2, 7}: %v", stateOf(c))
	}
	for _, x := range []struct {
		taking
		b []byte
		e api.Errno
	}{
		{taking{"Uint", 0}, []byte{128, 0}, api.ErrForm},
		{taking{"Uint", 0}, []byte{128}, api.ErrTorn},
		{taking{"Text", 9}, []byte{2, 97}, api.ErrTorn},
		{taking{"Text", 9}, []byte{1, 10}, api.ErrBytes},
		{taking{"Index", 5}, []byte{5}, api.ErrRange},
	} {
		c := octet.New(x.b)
		if got := x.of(c); got != x.nothing() || c.At() != 0 || c.Err() != x.e {
			t.Errorf("%v of %v: %s, %v", x.taking, x.b, got, stateOf(c))
		}
	}
}

// P3.9

// plainly reckons a second time what a taking should answer at a place: what it takes, how many bytes, or the error.
func (x taking) plainly(b []byte) (string, int, api.Errno) {
	switch x.name {
	case "Byte", "Take16", "Take32":
		return fixed(b, map[string]int{"Byte": 1, "Take16": 2, "Take32": 4}[x.name])
	case "Take":
		switch {
		case x.n < 0:
			return "", 0, api.ErrRange
		case x.n > len(b):
			return "", 0, api.ErrTorn
		}
		return fmt.Sprint(b[:x.n]), x.n, api.OK
	}
	n, long, e := uintOf(b)
	if e != api.OK {
		return "", 0, e
	}
	switch x.name {
	case "Uint":
		return fmt.Sprint(n), long, api.OK
	case "Int":
		if n%2 == 1 {
			return fmt.Sprint(-int(n/2) - 1), long, api.OK
		}
		return fmt.Sprint(n / 2), long, api.OK
	case "Index":
		if x.n < 0 || n >= uint64(x.n) {
			return "", 0, api.ErrRange
		}
		return fmt.Sprint(n), long, api.OK
	}
	b = b[long:]
	switch {
	case x.n < 0 || n > uint64(x.n):
		return "", 0, api.ErrLong
	case n > uint64(len(b)):
		return "", 0, api.ErrTorn
	case x.name == "Bytes":
		return fmt.Sprint(b[:n]), long + int(n), api.OK
	case !octet.May(string(b[:n])):
		return "", 0, api.ErrBytes
	}
	return fmt.Sprintf("%q", b[:n]), long + int(n), api.OK
}

func fixed(b []byte, long int) (string, int, api.Errno) {
	if len(b) < long {
		return "", 0, api.ErrTorn
	}
	n := 0
	for i := long - 1; i >= 0; i-- {
		n = n*256 + int(b[i])
	}
	return fmt.Sprint(n), long, api.OK
}

// uintOf reckons the number from its last byte on, and asks PutUint for the one form that it may have.
func uintOf(b []byte) (uint64, int, api.Errno) {
	end := slices.IndexFunc(b[:min(len(b), 9)], func(x byte) bool { return x < 128 })
	switch {
	case end < 0 && len(b) < 10:
		return 0, 0, api.ErrTorn
	case end < 0:
		end = 9
	}
	var n uint64
	for i := end; i >= 0; i-- {
		n = n<<7 + uint64(b[i]&127)
	}
	if end == 9 && b[9] > 1 || !bytes.Equal(octet.PutUint(nil, n), b[:end+1]) {
		return 0, 0, api.ErrForm
	}
	return n, end + 1, api.OK
}

func TestAnyBytes(t *testing.T) {
	d := dice(10)
	all := takings()
	for range 20000 {
		b := d.some(24)
		c := octet.New(b)
		at, e := 0, api.OK
		for range 12 {
			x := all[d.throw(len(all))]
			want, long, wrong := x.plainly(b[at:])
			if e == api.OK {
				at, e = at+long, wrong
			}
			if e != api.OK {
				want = x.nothing()
			}
			if got := x.of(c); got != want || c.At() != at || c.Left() != len(b)-at || c.Err() != e {
				t.Fatalf("%v of %v: %s, %v; want %s, At %d, Err %d", x, b, got, stateOf(c), want, at, e)
			}
		}
	}
}
