package keys

import (
	"bytes"

	"ramble/api"
	"ramble/codec"
)

// Sign is what stands in a key for a value, so that keys stay short: the first bytes of the value's form, and ahead of them how many these are.
func Sign(v api.Value) []byte {
	b := stem(v)
	return append([]byte{byte(len(b))}, b...)
}

// stem is the first MaxSign bytes of a value's form; of a value that may not be there are none.
func stem(v api.Value) []byte {
	var form []byte
	if isNested(v.Kind) {
		form = codec.Put(nil, v)
	} else {
		form, _ = codec.Key(v)
	}
	return form[:min(len(form), api.MaxSign)]
}

func isNested(kind int) bool { return kind == api.VList || kind == api.VMap }

// isStem tells whether there is a value whose stem b is.
func isStem(b []byte) bool { return bytes.Equal(stem(guess(b)), b) }

// guess is a value whose stem b is, if there is one.
func guess(b []byte) api.Value {
	if len(b) > 0 && isNested(int(b[0])) {
		f := &filler{rest: b}
		return f.value(1, 0)
	}
	// A stem ends at the end of the value's form, or within a string: ahead of its last two bytes, between them, or further ahead.
	for _, end := range []string{"", "\x01", "\x00\x01"} {
		if v, _, e := codec.Take(append(bytes.Clone(b), end...)); e == api.OK {
			return v
		}
	}
	return api.Value{}
}
