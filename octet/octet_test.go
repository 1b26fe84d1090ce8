package octet_test

import (
	"bytes"
	"fmt"
	"hash/crc32"
	"math"
	"math/bits"
	"slices"
	"testing"

	"folio/api"
	"folio/octet"
	"folio/text"
)

// dice throws numbers that are the same each time.
type dice uint32

func (d *dice) throw(n int) int {
	*d = *d*1664525 + 1013904223
	return int(*d>>8) % n
}

// long throws a number of up to 64 bits, each length as often as another.
func (d *dice) long() uint64 {
	n := uint64(d.throw(1<<22))<<44 | uint64(d.throw(1<<22))<<22 | uint64(d.throw(1<<22))
	return n >> d.throw(64)
}

// some throws bytes: beginnings of numbers, their ends, noughts and others.
func (d *dice) some(most int) []byte {
	l := make([]byte, d.throw(most+1))
	for i := range l {
		switch d.throw(4) {
		case 0:
			l[i] = byte(d.throw(4))
		case 1:
			l[i] = 128 | byte(d.throw(3))
		case 2:
			l[i] = 'a' + byte(d.throw(26))
		default:
			l[i] = byte(d.throw(256))
		}
	}
	return l
}

// numbers are those beside which the count of bytes changes, and those at the ends of all that there is.
func numbers() []uint64 {
	l := []uint64{300, math.MaxUint64}
	for i := range 64 {
		l = append(l, 1<<i-1, 1<<i, 1<<i+1)
	}
	return l
}

func integers() []int {
	l := []int{math.MinInt, math.MinInt + 1, math.MaxInt, math.MaxInt - 1}
	for _, n := range numbers() {
		l = append(l, int(n), -int(n))
	}
	return l
}

// P3.1

func TestSum(t *testing.T) {
	for s, want := range map[string]uint32{"": 0, "123456789": 0xcbf43926, "a": 0xe8b7be43, "\x00": 0xd202ef8d, "\xff": 0xff000000} {
		if n := octet.Sum([]byte(s)); n != want {
			t.Errorf("Sum of %q: %08x, want %08x", s, n, want)
		}
	}
	if octet.Sum(nil) != 0 {
		t.Error("Sum of nil")
	}
	d := dice(1)
	for range 500 {
		b := d.some(300)
		if n := octet.Sum(b); n != crc32.ChecksumIEEE(b) {
			t.Fatalf("Sum of %v: %08x", b, n)
		}
	}
}

func TestSumOfABitTurnedOver(t *testing.T) {
	b := []byte("Hi {link Help|there}.")
	sum := octet.Sum(b)
	for i := range 8 * len(b) {
		c := bytes.Clone(b)
		c[i/8] ^= 1 << (i % 8)
		if octet.Sum(c) == sum {
			t.Errorf("bit %d is not in the sum", i)
		}
	}
}

// P3.2

// wantPut holds what was put behind "head" against what should have been.
func wantPut(t *testing.T, what string, got []byte, want ...byte) {
	t.Helper()
	if !bytes.Equal(got, append([]byte("head"), want...)) {
		t.Errorf("%s: %v, want %v", what, got, want)
	}
}

func TestPuts(t *testing.T) {
	head := []byte("head")
	top := bytes.Repeat([]byte{255}, 9)
	wantPut(t, "PutUint of 0", octet.PutUint(head, 0), 0)
	wantPut(t, "PutUint of 127", octet.PutUint(head, 127), 127)
	wantPut(t, "PutUint of 128", octet.PutUint(head, 128), 128, 1)
	wantPut(t, "PutUint of 300", octet.PutUint(head, 300), 172, 2)
	wantPut(t, "PutUint of 16383", octet.PutUint(head, 16383), 255, 127)
	wantPut(t, "PutUint of 16384", octet.PutUint(head, 16384), 128, 128, 1)
	wantPut(t, "PutUint of 2^63 - 1", octet.PutUint(head, 1<<63-1), append(top[:8:8], 127)...)
	wantPut(t, "PutUint of the greatest", octet.PutUint(head, math.MaxUint64), append(top, 1)...)
	wantPut(t, "PutInt of 0", octet.PutInt(head, 0), 0)
	wantPut(t, "PutInt of 1", octet.PutInt(head, 1), 2)
	wantPut(t, "PutInt of -1", octet.PutInt(head, -1), 1)
	wantPut(t, "PutInt of 64", octet.PutInt(head, 64), 128, 1)
	wantPut(t, "PutInt of -64", octet.PutInt(head, -64), 127)
	wantPut(t, "Put16", octet.Put16(head, 0x1234), 0x34, 0x12)
	wantPut(t, "Put16 of 0", octet.Put16(head, 0), 0, 0)
	wantPut(t, "Put16 of the greatest", octet.Put16(head, math.MaxUint16), 255, 255)
	wantPut(t, "Put32", octet.Put32(head, 0x12345678), 0x78, 0x56, 0x34, 0x12)
	wantPut(t, "Put32 of 0", octet.Put32(head, 0), 0, 0, 0, 0)
	wantPut(t, "Put32 of the greatest", octet.Put32(head, math.MaxUint32), 255, 255, 255, 255)
	wantPut(t, "PutBytes", octet.PutBytes(head, []byte{0, 255}), 2, 0, 255)
	wantPut(t, "PutBytes of nil", octet.PutBytes(head, nil), 0)
	wantPut(t, "PutBytes of none", octet.PutBytes(head, []byte{}), 0)
	wantPut(t, "PutBytes of itself", octet.PutBytes(head, head), 4, 'h', 'e', 'a', 'd')
	wantPut(t, "PutBytes of 200", octet.PutBytes(head, make([]byte, 200)), append([]byte{200, 1}, make([]byte, 200)...)...)
	wantPut(t, "PutText", octet.PutText(head, "ab"), 2, 97, 98)
	wantPut(t, "PutText of none", octet.PutText(head, ""), 0)
	wantPut(t, "PutText of any bytes", octet.PutText(head, "\n\xff\xe4\xb8"), 4, 10, 255, 0xe4, 0xb8)
}

func TestPutIntIsPutUint(t *testing.T) {
	for _, n := range integers() {
		double := 2 * uint64(n)
		if n < 0 {
			double = 2*uint64(-(n+1)) + 1
		}
		if got, want := octet.PutInt(nil, n), octet.PutUint(nil, double); !bytes.Equal(got, want) {
			t.Errorf("PutInt of %d: %v, want %v", n, got, want)
		}
	}
	if !bytes.Equal(octet.PutInt(nil, math.MinInt), octet.PutUint(nil, math.MaxUint64)) {
		t.Error("PutInt of the least")
	}
}

func TestPutUintTakesAsFewBytesAsGo(t *testing.T) {
	for _, n := range numbers() {
		l := octet.PutUint(nil, n)
		if len(l) != max(1, (bits.Len64(n)+6)/7) {
			t.Errorf("PutUint of %d: %v", n, l)
		}
		var sum uint64
		for i, x := range l {
			if (x >= 128) != (i < len(l)-1) {
				t.Errorf("PutUint of %d: %v: the top bit of %d", n, l, i)
			}
			sum |= uint64(x&127) << (7 * i)
		}
		if sum != n {
			t.Errorf("PutUint of %d: %v", n, l)
		}
	}
}

// puts are all calls that put something behind bytes.
func puts() map[string]func(b []byte) []byte {
	p, none := []byte("xyz"), []byte{}
	return map[string]func(b []byte) []byte{
		"PutUint":          func(b []byte) []byte { return octet.PutUint(b, 300) },
		"PutInt":           func(b []byte) []byte { return octet.PutInt(b, -300) },
		"Put16":            func(b []byte) []byte { return octet.Put16(b, 300) },
		"Put32":            func(b []byte) []byte { return octet.Put32(b, 300) },
		"PutBytes":         func(b []byte) []byte { return octet.PutBytes(b, p) },
		"PutBytes of none": func(b []byte) []byte { return octet.PutBytes(b, none) },
		"PutText":          func(b []byte) []byte { return octet.PutText(b, "xyz") },
		"PutText of none":  func(b []byte) []byte { return octet.PutText(b, "") },
	}
}

func TestPutsAnswerNewMemory(t *testing.T) {
	for what, put := range puts() {
		whole := []byte("head, and more than is put behind it")
		kept := bytes.Clone(whole)
		one := put(whole[:4])
		if !bytes.Equal(whole, kept) {
			t.Errorf("%s wrote into what it was given: %q", what, whole)
		}
		want := bytes.Clone(one)
		two := put(whole[:4])
		for i := range whole {
			whole[i] = '?'
		}
		for i := range two[:cap(two)] {
			two[:cap(two)][i] = '!'
		}
		if !bytes.Equal(one, want) {
			t.Errorf("%s: %q has become %q", what, want, one)
		}
		if bytes.Contains(one[:cap(one)][len(one):], []byte("and")) {
			t.Errorf("%s hands out what lay behind", what)
		}
		if !bytes.Equal(put(nil), put([]byte{})) || !bytes.Equal(put(nil), want[4:]) {
			t.Errorf("%s behind nothing: %q", what, put(nil))
		}
	}
	p := []byte("xyz")
	b := octet.PutBytes(nil, p)
	p[0] = '?'
	if string(b) != "\x03xyz" {
		t.Errorf("PutBytes shares memory with what is put: %q", b)
	}
}

// P3.6

func TestMay(t *testing.T) {
	for s, want := range map[string]bool{
		"": true, "ab~ ": true, "\u00a0é\u4e2d\u0301": true, "\ufffd": true, "\U0010ffff": true,
		"\x00": false, "a\n": false, "\t": false, "\x1f": false, "\x7f": false, "\u0080": false, "\u009f": false,
		"\xff": false, "a\xe4\xb8": false, "\xed\xa0\x80": false, "\xc0\x80": false,
	} {
		if octet.May(s) != want {
			t.Errorf("May(%q): %v", s, !want)
		}
	}
	d := dice(6)
	for range 3000 {
		s := string(d.some(4))
		if _, plain := text.Plain(s); octet.May(s) != plain {
			t.Errorf("May(%q): %v", s, !plain)
		}
	}
}

// P3.7

func TestWhatIsPutIsTaken(t *testing.T) {
	for _, n := range numbers() {
		b := octet.PutUint(nil, n)
		wantTaking(t, taking{"Uint", 0}, append(b, 200), fmt.Sprint(n), len(b), api.OK)
		if n < math.MaxInt {
			wantTaking(t, taking{"Index", int(n) + 1}, append(b, 200), fmt.Sprint(n), len(b), api.OK)
		}
		wantTaking(t, taking{"Take32", 0}, append(octet.Put32(nil, uint32(n)), 200), fmt.Sprint(uint32(n)), 4, api.OK)
	}
	for _, n := range integers() {
		b := octet.PutInt(nil, n)
		wantTaking(t, taking{"Int", 0}, append(b, 200), fmt.Sprint(n), len(b), api.OK)
	}
	for n := range 1 << 16 {
		wantTaking(t, taking{"Take16", 0}, append(octet.Put16(nil, uint16(n)), 200), fmt.Sprint(n), 2, api.OK)
	}
}

func TestWhatIsPutOneBehindTheOtherIsTaken(t *testing.T) {
	d := dice(7)
	for range 500 {
		n, m, p := d.long(), int(d.long()), d.some(300)
		short, long, s := uint16(d.throw(1<<16)), uint32(d.long()), string(bytes.Repeat([]byte("aé\u4e2d "), d.throw(40)))
		b := octet.PutText(octet.PutBytes(octet.PutInt(octet.PutUint(nil, n), m), p), s)
		b = append(octet.Put32(octet.Put16(b, short), long), 5)
		c := octet.New(b)
		if c.Uint() != n || c.Int() != m || !bytes.Equal(c.Bytes(len(p)), p) || c.Text(len(s)) != s {
			t.Fatalf("%d, %d, %v, %q: At %d, Err %d", n, m, p, s, c.At(), c.Err())
		}
		if c.Take16() != short || c.Take32() != long || c.Left() != 1 || c.Byte() != 5 || c.End() != api.OK {
			t.Fatalf("%d, %d: At %d, Err %d", short, long, c.At(), c.Err())
		}
	}
}

func TestWhatIsTakenPutAgain(t *testing.T) {
	d := dice(8)
	good := make([]int, 6)
	for range 20000 {
		b := d.some(12)
		for i, again := range []func(c *octet.Cursor) []byte{
			func(c *octet.Cursor) []byte { return octet.PutUint(nil, c.Uint()) },
			func(c *octet.Cursor) []byte { return octet.PutInt(nil, c.Int()) },
			func(c *octet.Cursor) []byte { return octet.PutUint(nil, uint64(c.Index(math.MaxInt))) },
			func(c *octet.Cursor) []byte { return octet.PutBytes(nil, c.Bytes(math.MaxInt)) },
			func(c *octet.Cursor) []byte { return octet.PutText(nil, c.Text(math.MaxInt)) },
			func(c *octet.Cursor) []byte { return octet.Put32(octet.Put16(nil, c.Take16()), c.Take32()) },
		} {
			c := octet.New(b)
			l := again(c)
			if c.Err() != api.OK {
				continue
			}
			good[i]++
			if !bytes.Equal(l, b[:c.At()]) {
				t.Fatalf("taking %d of %v: %v again", i, b, l)
			}
		}
	}
	if slices.Min(good) < 1000 {
		t.Error("too few takings went well: ", good)
	}
}

// P3.8

func TestOneFormOfANumber(t *testing.T) {
	forms := map[uint64]string{}
	for n := range 1 << 24 { // all lists of up to three bytes, each as those of three that begin with it
		b := []byte{byte(n), byte(n >> 8), byte(n >> 16)}
		c := octet.New(b)
		number := c.Uint()
		if c.Err() != api.OK || c.At() < 3 && n>>(8*c.At()) != 0 {
			continue
		}
		if form, ok := forms[number]; ok {
			t.Fatalf("%d is %v and %v", number, []byte(form), b[:c.At()])
		}
		forms[number] = string(b[:c.At()])
	}
	if len(forms) != 1<<21 {
		t.Errorf("%d numbers", len(forms))
	}
}

func TestNoNumberBeginsWithAnother(t *testing.T) {
	d := dice(9)
	l := numbers()
	for range 300 {
		l = append(l, d.long())
	}
	for _, n := range l {
		for _, m := range l {
			if n != m && bytes.HasPrefix(octet.PutUint(nil, n), octet.PutUint(nil, m)) {
				t.Errorf("%d begins with %d", n, m)
			}
		}
	}
}
