package store

import (
	"bytes"
	"cmp"

	"folio/api"
	"folio/octet"
	"folio/phrase"
)

// flagLong is how many bytes a flag has.
const flagLong = 1

// measured is what has a length.
type measured interface{ ~string | ~[]byte }

// shorter answers what is stored of a text as it is and coded: the coded one only where it saves something.
func shorter[T measured](raw, coded T) T {
	if len(coded) < len(raw) {
		return coded
	}
	return raw
}

// form answers a flag, and s behind it.
func form(flag byte, s string) []byte {
	b := make([]byte, flagLong+len(s))
	b[0] = flag
	copy(b[flagLong:], s)
	return b
}

// read answers the text that a stored form tells, whether or not it is the form that this text has, or why it tells none.
func read(dict []string, b []byte, most int) (string, api.Errno) {
	switch {
	case len(b) == 0:
		return "", api.ErrFlag
	case b[0] == api.FlagCoded:
		return phrase.Decode(dict, string(b[flagLong:]), most)
	case b[0] != api.FlagRaw:
		return "", api.ErrFlag
	case len(b)-flagLong > most:
		return "", api.ErrLong
	}
	return string(b[flagLong:]), api.OK
}

// reasons are what may speak against a stored form, OK where nothing does, in the order in which they are told.
type reasons [4]api.Errno

func (r reasons) first() api.Errno { return cmp.Or(r[:]...) }

func textReason(s string) api.Errno {
	if octet.May(s) {
		return api.OK
	}
	return api.ErrBytes
}

// formReason answers ErrFlag, if b is another form than the one in which s is stored.
func formReason(dict []string, s string, b []byte) api.Errno {
	if one, _ := Pack(dict, s); bytes.Equal(one, b) {
		return api.OK
	}
	return api.ErrFlag
}
