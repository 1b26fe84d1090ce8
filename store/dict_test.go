package store_test

import (
	"bytes"
	"math"
	"slices"
	"strings"
	"testing"

	"folio/api"
	"folio/octet"
	"folio/store"
)

// wantPackDict asks for a dictionary's bytes, and that they are read back (P15.6).
func wantPackDict(t *testing.T, dict []string, want []byte) {
	t.Helper()
	if b, e := store.PackDict(dict); !bytes.Equal(b, want) || e != api.OK {
		t.Errorf("PackDict of %s: %s, %d, want %s", few(dict), short(b), e, short(want))
	}
	if l, e := store.UnpackDict(want); !slices.Equal(l, dict) || e != api.OK {
		t.Errorf("UnpackDict of %s: %s, %d, want %s", short(want), few(l), e, few(dict))
	}
}

func wantDictError(t *testing.T, b []byte, want api.Errno) {
	t.Helper()
	if l, e := store.UnpackDict(b); len(l) != 0 || e != want {
		t.Errorf("UnpackDict of %s: %s, %d, want %d", short(b), few(l), e, want)
	}
}

// laid are a count and phrases as P15.4 lays them, whether or not they may be.
func laid(count uint64, phrases ...string) []byte {
	b := octet.PutUint(nil, count)
	for _, p := range phrases {
		b = octet.PutBytes(b, []byte(p))
	}
	return b
}

// dictionaries may be.
func dictionaries() [][]string {
	long := strings.Repeat("x", 60)
	return [][]string{
		nil, {}, {"abc"}, {"abc", "abc ", " abc", "a b c", "   "}, {"zzz", "aaa"}, {"\x00\x00\x00", "\n\n\n", "\xff\xfe\xfd", "\u4e2d"},
		{long + "abcd", long + "abc", "  " + long + "  "}, numbered("p", 24, 3), numbered("p", 127, 4), numbered("p", 128, 4), numbered("p", 300, 64),
		numbered("p", 1023, 5), numbered("p", 1024, 64),
	}
}

// P15.4: PackDict

func TestPackDict(t *testing.T) {
	wantPackDict(t, nil, []byte{0})
	wantPackDict(t, []string{}, []byte{0})
	wantPackDict(t, []string{"the ", "a b c "}, []byte("\x02\x04the \x06a b c "))
	wantPackDict(t, []string{"zzz", "aaa", "\x00\x01\xff"}, []byte("\x03\x03zzz\x03aaa\x03\x00\x01\xff"))
	wantPackDict(t, []string{strings.Repeat("x", 64)}, []byte("\x01\x40"+strings.Repeat("x", 64)))
	for _, dict := range dictionaries() {
		wantPackDict(t, dict, laid(uint64(len(dict)), dict...))
	}
	for n, count := range map[int]string{1: "\x01", 127: "\x7f", 128: "\x80\x01", 129: "\x81\x01", 255: "\xff\x01", 1023: "\xff\x07", 1024: "\x80\x08"} {
		dict := numbered("p", n, 5)
		wantPackDict(t, dict, []byte(count+"\x05"+strings.Join(dict, "\x05")))
	}
}

// P15.4: UnpackDict

func TestCounts(t *testing.T) {
	wantDictError(t, nil, api.ErrTorn)
	wantDictError(t, []byte{}, api.ErrTorn)
	for _, n := range []uint64{1025, 1026, 2048, 1 << 16, 1 << 31, 1 << 32, 1<<32 + 1, 1 << 63, math.MaxUint64} {
		wantDictError(t, laid(n), api.ErrRange)
		wantDictError(t, laid(n, numbered("p", 1025, 5)...), api.ErrRange)
		wantDictError(t, laid(n, "ab", "ab"), api.ErrRange)
	}
	for _, n := range []uint64{1, 2, 127, 128, 1023, 1024} {
		wantDictError(t, laid(n), api.ErrTorn)
		wantDictError(t, laid(n, numbered("p", int(n)-1, 5)...), api.ErrTorn)
		wantDictError(t, laid(n, numbered("p", int(n)+1, 5)...), api.ErrForm)
		wantDictError(t, laid(n-1, numbered("p", int(n), 5)...), api.ErrForm)
	}
}

func TestNumbersInAnotherForm(t *testing.T) {
	for _, count := range []string{"\x80\x00", "\x81\x00", "\x81\x80\x00", "\x80\x88\x00", "\xff\xff\xff\xff\xff\xff\xff\xff\xff\x02", "\x80\x80\x80\x80\x80\x80\x80\x80\x80\x80"} {
		wantDictError(t, []byte(count), api.ErrForm)
		wantDictError(t, []byte(count+"\x03abc"), api.ErrForm)
	}
	for _, long := range []string{"\x83\x00", "\x83\x80\x00", "\x80\x00", "\xc1\x00", "\xff\xff\xff\xff\xff\xff\xff\xff\xff\x02"} {
		wantDictError(t, []byte("\x01"+long+"abc"), api.ErrForm)
		wantDictError(t, []byte("\x02\x03abc"+long+"def"), api.ErrForm)
		wantDictError(t, []byte("\x01"+long), api.ErrForm)
	}
}

func TestPhrasesOfMostBytes(t *testing.T) {
	for n, want := range map[int]api.Errno{
		0: api.ErrPhrase, 1: api.ErrPhrase, 2: api.ErrPhrase, 3: api.OK, 63: api.OK, 64: api.OK, 65: api.ErrLong, 127: api.ErrLong, 128: api.ErrLong, 5000: api.ErrLong,
	} {
		p := strings.Repeat("x", n)
		if l, e := store.UnpackDict(laid(2, "abc", p)); e != want || e == api.OK && !slices.Equal(l, []string{"abc", p}) {
			t.Errorf("a phrase of %d bytes: %s, %d, want %d", n, few(l), e, want)
		}
	}
	for _, n := range []uint64{65, 128, 1 << 31, 1 << 32, 1 << 63, math.MaxUint64} {
		wantDictError(t, octet.PutUint([]byte{1}, n), api.ErrLong) // ahead of ErrTorn
		wantDictError(t, octet.PutUint([]byte("\x02\x02ab"), n), api.ErrLong)
	}
}

func TestBytesThatEndTooEarly(t *testing.T) {
	for _, dict := range dictionaries() {
		b := laid(uint64(len(dict)), dict...)
		for n := 0; n < len(b); n += 1 + len(b)/2000 {
			wantDictError(t, b[:n], api.ErrTorn)
		}
		wantDictError(t, b[:len(b)-1], api.ErrTorn)
	}
}

func TestBytesThatAreLeftOver(t *testing.T) {
	for _, dict := range dictionaries() {
		b := laid(uint64(len(dict)), dict...)
		for _, behind := range []string{"\x00", "\x03", "\x03def", "\x80", "\xff", " ", string(b)} {
			wantDictError(t, append(slices.Clone(b), behind...), api.ErrForm)
		}
	}
}

func TestBytesOfNoDictionary(t *testing.T) {
	for _, r := range refused {
		want := r.e
		switch {
		case len(r.dict) > 1024:
			want = api.ErrRange
		case slices.ContainsFunc(r.dict, func(p string) bool { return len(p) > 64 }):
			want = api.ErrLong
		}
		wantDictError(t, laid(uint64(len(r.dict)), r.dict...), want)
	}
}

// P4, P15.4: what is wrong in two ways. The bytes are looked at ahead of the phrases, and from the left.
func TestTheFirstReasonOfADictionaryIsTold(t *testing.T) {
	long := strings.Repeat("x", 65)
	wantDictError(t, laid(3, "abc", "abc"), api.ErrTorn)
	wantDictError(t, laid(3, "ab", "a b c d"), api.ErrTorn)
	wantDictError(t, laid(2, "abc", "abc", "def"), api.ErrForm)
	wantDictError(t, laid(1, "", "def"), api.ErrForm)
	wantDictError(t, laid(2, "abc", long), api.ErrLong)
	wantDictError(t, laid(2, "ab", long), api.ErrLong)
	wantDictError(t, laid(3, "abc", "abc", long), api.ErrLong)
	wantDictError(t, laid(3, "abc", long), api.ErrLong) // and torn
	wantDictError(t, laid(1, long, "abc"), api.ErrLong) // and more behind it
	wantDictError(t, append(laid(3, long), "\x83\x00abc"...), api.ErrLong)
	wantDictError(t, append(laid(3, "abc"), "\x83\x00abc\x7f"...), api.ErrForm)
	wantDictError(t, laid(3, "abc", "ab", "abc"), api.ErrPhrase)
	wantDictError(t, laid(3, "abc", "abc", "ab"), api.ErrTwicePhrase)
	wantDictError(t, laid(2000, long), api.ErrRange)
}
