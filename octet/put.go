package octet

// more is the bit of a group that says that another one follows.
const more = 0x80

// PutUint: P3.2.
func PutUint(b []byte, n uint64) []byte { return joined(b, groups(n)) }

// PutInt: P3.2.
func PutInt(b []byte, n int) []byte {
	double := uint64(n) << 1
	if n < 0 {
		double = ^double // -2n - 1, of the least int as well, of which 2n is no int
	}
	return PutUint(b, double)
}

// Put16: P3.2.
func Put16(b []byte, n uint16) []byte { return joined(b, []byte{byte(n), byte(n >> 8)}) }

// Put32: P3.2.
func Put32(b []byte, n uint32) []byte {
	return joined(b, []byte{byte(n), byte(n >> 8), byte(n >> 16), byte(n >> 24)})
}

// PutBytes: P3.2.
func PutBytes(b []byte, p []byte) []byte { return joined(b, joined(groups(uint64(len(p))), p)) }

// PutText: P3.2.
func PutText(b []byte, s string) []byte { return PutBytes(b, []byte(s)) }

// groups answers the bytes of a number.
func groups(n uint64) []byte {
	var l []byte
	for n >= more {
		l = append(l, byte(n)|more)
		n >>= 7
	}
	return append(l, byte(n))
}

// joined answers a, and b behind it, in memory of its own: what append laid behind a might be somebody's who has more of a.
func joined(a, b []byte) []byte {
	l := make([]byte, len(a)+len(b))
	copy(l[copy(l, a):], b)
	return l
}
