package octet

import "folio/api"

// longest is how many bytes a number has at most: nine groups of 7 bits, and one of 1 bit.
const longest = 10

// Cursor reads bytes one behind the other.
type Cursor struct {
	all []byte // nobody else's, and never written: copies of a cursor may share them
	at  int
	err api.Errno
}

// New: P3.3.
func New(b []byte) *Cursor { return &Cursor{all: joined(b, nil)} }

// Byte: P3.4.
func (c *Cursor) Byte() byte { return byte(lowestAhead(c.piece(1))) }

// Uint: P3.4.
func (c *Cursor) Uint() uint64 {
	var n uint64
	long, e := 0, api.ErrTorn
number:
	for i, x := range c.ahead() {
		n |= uint64(x&^more) << (7 * i)
		switch {
		case i == longest-1 && x > 1, i > 0 && x == 0: // too great a number, or one that takes fewer bytes
			e = api.ErrForm
			break number
		case x < more:
			long, e = i+1, api.OK
			break number
		}
	}
	if e != api.OK {
		c.Fail(e)
		return 0
	}
	c.at += long
	return n
}

// Int: P3.4.
func (c *Cursor) Int() int {
	double := c.Uint()
	if double&1 == 1 {
		return int(^(double >> 1))
	}
	return int(double >> 1)
}

// Index: P3.4.
func (c *Cursor) Index(limit int) int {
	at := c.At()
	n := c.Uint()
	if limit <= 0 || n >= uint64(limit) {
		c.failAt(at, api.ErrRange)
		return 0
	}
	return int(n)
}

// Take16: P3.4.
func (c *Cursor) Take16() uint16 { return uint16(lowestAhead(c.piece(2))) }

// Take32: P3.4.
func (c *Cursor) Take32() uint32 { return lowestAhead(c.piece(4)) }

// Take: P3.4.
func (c *Cursor) Take(n int) []byte { return joined(c.piece(n), nil) }

// Bytes: P3.4.
func (c *Cursor) Bytes(limit int) []byte { return joined(c.counted(limit), nil) }

// Text: P3.4.
func (c *Cursor) Text(limit int) string {
	at := c.At()
	s := string(c.counted(limit))
	if !May(s) {
		c.failAt(at, api.ErrBytes)
		return ""
	}
	return s
}

// Fail: P3.5.
func (c *Cursor) Fail(e api.Errno) { c.failAt(c.At(), e) }

// Err: P3.5.
func (c *Cursor) Err() api.Errno {
	if c == nil {
		return api.OK
	}
	return c.err
}

// At: P3.5.
func (c *Cursor) At() int {
	if c == nil {
		return 0
	}
	return c.at
}

// Left: P3.5.
func (c *Cursor) Left() int {
	if c == nil {
		return 0
	}
	return len(c.all) - c.at
}

// End: P3.5.
func (c *Cursor) End() api.Errno {
	if c.Err() == api.OK && c.Left() > 0 {
		return api.ErrForm
	}
	return c.Err()
}

// good answers whether the cursor may go on; a nil one may not, for it has nowhere to keep its place.
func (c *Cursor) good() bool { return c != nil && c.err == api.OK }

// failAt is Fail for what began at another place than the cursor has come to by now: it goes back there.
func (c *Cursor) failAt(at int, e api.Errno) {
	if c.good() && e != api.OK {
		c.at, c.err = at, e
	}
}

// ahead answers the bytes that may be taken: the cursor's own, so they are to be copied ahead of handing them out.
func (c *Cursor) ahead() []byte {
	if !c.good() {
		return nil
	}
	return c.all[c.at:]
}

// piece takes n bytes: the cursor's own, as those of ahead.
func (c *Cursor) piece(n int) []byte {
	l := c.ahead()
	switch {
	case n < 0:
		c.Fail(api.ErrRange)
	case n > len(l):
		c.Fail(api.ErrTorn)
	}
	if !c.good() {
		return nil
	}
	c.at += n
	return l[:n]
}

// counted takes a number and as many bytes behind it: the cursor's own, as those of ahead.
func (c *Cursor) counted(limit int) []byte {
	at := c.At()
	n := c.Uint()
	switch {
	case limit < 0 || n > uint64(limit):
		c.failAt(at, api.ErrLong)
	case n > uint64(c.Left()):
		c.failAt(at, api.ErrTorn)
	}
	return c.piece(int(n)) // of a failed cursor nothing, whatever n is
}

// lowestAhead answers the number whose bytes these are, the lowest ahead; of no bytes 0.
func lowestAhead(l []byte) uint32 {
	var n uint32
	for i, x := range l {
		n |= uint32(x) << (8 * i)
	}
	return n
}
