package store_test

import (
	"math"
	"strings"
	"testing"

	"folio/api"
	"folio/store"
)

// P15.2: the flag

func TestNoBytes(t *testing.T) {
	for _, dict := range [][]string{nil, {"abc"}, numbered("p", 1024, 5)} {
		for _, most := range []int{math.MinInt, -1, 0, 1, math.MaxInt} {
			wantUnpackError(t, dict, nil, most, api.ErrFlag)
			wantUnpackError(t, dict, []byte{}, most, api.ErrFlag)
		}
	}
}

func TestAFlagAlone(t *testing.T) {
	for _, dict := range [][]string{nil, {"abc"}} {
		for _, most := range []int{0, 1, math.MaxInt} {
			wantUnpack(t, dict, raw(""), most, "")
			wantUnpackError(t, dict, coded(""), most, api.ErrFlag) // it saves nothing
		}
		for _, most := range []int{-1, math.MinInt} {
			wantUnpackError(t, dict, raw(""), most, api.ErrLong)
			wantUnpackError(t, dict, coded(""), most, api.ErrLong)
		}
	}
}

func TestEveryFirstByte(t *testing.T) {
	dict := []string{"abc"}
	for n := range 256 {
		for rest, texts := range map[string][2]string{"": {"", "-"}, "a": {"a", "-"}, "\x01": {"-", "abc"}, "\x01x": {"-", "-"}, "x \x01": {"-", "x abc"}} {
			b := append([]byte{byte(n)}, rest...)
			if n < 2 && texts[n] != "-" {
				wantUnpack(t, dict, b, 9, texts[n])
				continue
			}
			s, e := store.Unpack(dict, b, 9)
			if s != "" || e == api.OK || n > 1 && e != api.ErrFlag {
				t.Errorf("Unpack of %q: %q, %d", b, s, e)
			}
		}
		if n > 1 {
			for _, most := range []int{-1, 0, 1} { // ahead of ErrLong, and of all that could be wrong with what stands behind
				wantUnpackError(t, dict, []byte{byte(n), 'a', 'b', 0}, most, api.ErrFlag)
				wantUnpackError(t, dict, []byte{byte(n), '\n', 0xff}, most, api.ErrFlag)
			}
		}
	}
}

// P15.2: texts that are too long, and bytes that are no code

func TestRawTextsOfMostBytes(t *testing.T) {
	for _, n := range []int{1, 2, 3, 127, 128, 129, 16384, 16385} {
		s := strings.Repeat("x", n)
		wantUnpack(t, nil, raw(s), n, s)
		wantUnpack(t, nil, raw(s), n+1, s)
		for _, most := range []int{n - 1, 0, -1, -n, math.MinInt} {
			wantUnpackError(t, nil, raw(s), most, api.ErrLong)
		}
	}
}

func TestCodedTextsOfMostBytes(t *testing.T) {
	dict := []string{"the ", "abc"}
	for c, s := range map[string]string{"\x01": "the ", "\x02": "abc", "\x01\x02": "the abc", "x \x01y": "x the y", "\x01\x01\x01": "the the the "} {
		wantUnpack(t, dict, coded(c), len(s), s)
		wantUnpack(t, dict, coded(c), len(s)+1, s)
		for _, most := range []int{len(s) - 1, len(c), 0, -1, math.MinInt} { // the bytes of the text count, not those of its code
			wantUnpackError(t, dict, coded(c), most, api.ErrLong)
		}
	}
}

func TestBytesThatAreNoCode(t *testing.T) {
	all := numbered("p", 1024, 5)
	for _, n := range []int{0, 1, 23, 24, 25, 280, 1024} {
		for _, c := range []string{"\x00", "a\x00", "\x00a", "\x00\xff", "\x00 ", "\x19", "\x1f", "\x1c\xe8", "\x1d\x00", "\x1f\xff", "ab\x1f"} {
			for _, most := range []int{4, 99} {
				wantUnpackError(t, all[:n], coded(c), most, api.ErrCode)
			}
		}
	}
	wantUnpackError(t, nil, coded("\x01"), 9, api.ErrCode)
	wantUnpackError(t, all[:1], coded("\x01\x02"), 9, api.ErrCode)
	wantUnpackError(t, all[:23], coded("\x18"), 9, api.ErrCode)
	wantUnpackError(t, all[:24], coded("\x19\x00"), 9, api.ErrCode)
	wantUnpackError(t, all[:1023], coded("\x1c\xe7"), 9, api.ErrCode)
	wantUnpack(t, all, coded("\x1c\xe7"), 9, "p1023")
}

// P15.2: bytes that are no text

func TestBytesThatAreNoText(t *testing.T) {
	for _, s := range []string{
		"\x00", "\n", "\t", "\x1f", "\x7f", "a\nb", "\u0080", "\u009f", "\xff", "\x80", "\xc3", "ab\xc3", "\xe4\xb8", "\xc0\x80", "\xed\xa0\x80", "\xf4\x90\x80\x80", "\ufffd\xff",
	} {
		for _, b := range [][]byte{raw(s), raw(" " + s), raw("abc def" + s), raw(s + " abc")} {
			wantUnpackError(t, nil, b, 99, api.ErrBytes)
			wantUnpackError(t, nil, b, len(b)-1, api.ErrBytes)
		}
		wantUnpackError(t, []string{"abc "}, raw("ab "+s), 99, api.ErrBytes)
		wantUnpackError(t, []string{"abc" + s}, coded("\x01"), 99, api.ErrBytes)
		wantUnpackError(t, []string{"abc" + s, "abcdef "}, coded("\x02\x02\x01"), 99, api.ErrBytes)
	}
	for _, s := range []string{" ", "~", "\u00a0", "\u00ff", "\ufffd", "\u4e2d", "\U0001f600", "\U0010ffff"} {
		wantUnpack(t, nil, raw(s), 9, s)
		wantUnpack(t, []string{"abc" + s}, coded("\x01"), 9, "abc"+s)
	}
	wantUnpack(t, []string{"abc\xe4", "\xb8\xad "}, raw("abc\u4e2d "), 9, "abc\u4e2d ")           // no phrase begins within a piece
	wantUnpackError(t, []string{"abc\xe4", "\xb8\xad "}, coded("\x01\x02"), 9, api.ErrFlag)       // this is not its form
	wantUnpack(t, []string{"\u4e2d \u6587"[:5], "xyz"}, raw("\u4e2d \u6587"), 9, "\u4e2d \u6587") // nor does one end there
	wantUnpackError(t, []string{"\u4e2d \u6587"[:5], "xyz"}, coded("\x01\x96\x87"), 9, api.ErrFlag)
}

// P15.2: forms that are not the one that there is

func TestRawTextsThatAreShorterCoded(t *testing.T) {
	dict := append(numbered("p", 24, 3), "ef ", "the cat ")
	for s, c := range map[string]string{"p00": "\x01", "ef ": "\x19\x00", "ef x": "\x19\x00x", "of the cat p07": "of \x19\x01\x08"} {
		wantUnpackError(t, dict, raw(s), 99, api.ErrFlag)
		wantUnpackError(t, dict, raw(s), len(s), api.ErrFlag)
		wantUnpack(t, dict, coded(c), 99, s)
		wantUnpack(t, nil, raw(s), 99, s)
	}
}

func TestCodedTextsThatAreNotShorter(t *testing.T) {
	for _, dict := range [][]string{nil, {"xyz"}, {"abcd"}} {
		for _, s := range []string{"", "a", "abc", "a b c", "\u4e2d\u6587", strings.Repeat("x ", 999)} {
			wantUnpackError(t, dict, coded(s), len(s), api.ErrFlag)
			wantUnpackError(t, dict, coded(s), math.MaxInt, api.ErrFlag)
			wantUnpack(t, dict, raw(s), len(s), s)
		}
	}
}

func TestCodesThatPackDoesNotMake(t *testing.T) {
	dict := []string{"the ", "the cat ", "cat ", "cat", "dogs"}
	for c, s := range map[string]string{"\x01dog": "the dog", "\x02dog": "the cat dog", "\x01\x04": "the cat", "\x03\x03": "cat cat ", "x \x05": "x dogs"} {
		wantUnpack(t, dict, coded(c), 99, s)
	}
	for _, c := range []string{
		"the \x01", "\x01the ", "\x01\x03", "\x01cat \x02", "the cat \x02", // a phrase told byte by byte, a longer one passed over
		"\x04 ", "\x04 \x02", "\x01x\x04", "\x05\x05", "x\x05", "\x05y", // phrases that are no whole runs there
		"\x01\x02\x03\x04\x05", "\x02\x01\x05x",
	} {
		wantUnpackError(t, dict, coded(c), 99, api.ErrFlag)
	}
	wantUnpack(t, dict, coded("\x01\x02\x03\x05"), 99, "the the cat cat dogs")
}

// P4, P15.2: what is wrong in two ways

func TestTheFirstReasonIsTold(t *testing.T) {
	dict := []string{"abc ", "x\n ", "\xff\xff\xff"}
	for _, r := range []struct {
		form string
		most int
		e    api.Errno
	}{
		{"", -1, api.ErrFlag},
		{"\x02\x00", -1, api.ErrFlag},
		{"\x02\n", 0, api.ErrFlag},
		{"\x00", -1, api.ErrLong},
		{"\x00\n\n", 1, api.ErrLong}, // and no text
		{"\x00\xff\xff", 1, api.ErrLong},
		{"\x00abc ", 3, api.ErrLong},    // and shorter coded
		{"\x00abc \n", 4, api.ErrLong},  // all three
		{"\x00abc \n", 5, api.ErrBytes}, // no text, and shorter coded
		{"\x00x\n ", 9, api.ErrBytes},
		{"\x01\x00", -1, api.ErrLong}, // at once
		{"\x01\x09", -1, api.ErrLong},
		{"\x01\x00", 0, api.ErrCode},
		{"\x01\x01\x00", 3, api.ErrLong}, // what comes first
		{"\x01\x01\x00", 4, api.ErrCode},
		{"\x01\x01\x01\x09", 4, api.ErrLong},
		{"\x01\x00\n\x00", 9, api.ErrCode},    // and no text
		{"\x01\x03\x00", 9, api.ErrCode},      // likewise
		{"\x01ab\x00", 9, api.ErrCode},        // and not shorter
		{"\x01\x01abc \x09", 9, api.ErrCode},  // and not as it is coded
		{"\x01\x02\x02", 5, api.ErrLong},      // and no text
		{"\x01abc ", 3, api.ErrLong},          // and not as it is coded
		{"\x01ab", 1, api.ErrLong},            // and not shorter
		{"\x01\x00\n\x00\n", 1, api.ErrLong},  // all three
		{"\x01\x00\n\x00\n", 2, api.ErrBytes}, // no text, and not shorter
		{"\x01x\x00\n \x02", 9, api.ErrBytes}, // no text, and not as it is coded
		{"\x01\xff", 9, api.ErrBytes},         // no text, and not shorter
		{"\x01\x03abc ", 9, api.ErrBytes},     // no text, and not as it is coded
		{"\x01\x01abc ", 9, api.ErrFlag},      // not as it is coded
		{"\x01\x01abc ", 7, api.ErrLong},      // and too long
		{"\x01\x01abc \x01\x00\x7f", 9, api.ErrLong},
	} {
		wantUnpackError(t, dict, []byte(r.form), r.most, r.e)
	}
}
