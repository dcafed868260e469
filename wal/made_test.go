package wal

import (
	"testing"

	"ramble/api"
	"ramble/disk"
)

// R5: a log that no call made answers ErrMade, zero and false, and does not panic.
func TestNotMade(t *testing.T) {
	for _, l := range []*Log{nil, {}, new(Log)} {
		want(t, "Append", l.Append(), api.ErrMade)
		want(t, "Append", l.Append(nil, []byte("a"), rec(9000, 1)), api.ErrMade)
		want(t, "Reset", l.Reset(), api.ErrMade)
		wantLog(t, "not made", l, 0, 0, 0, false)
	}
}

// R5: what Format and Open answer of a disk that no call made is refused as well.
func TestLogOfNoDisk(t *testing.T) {
	for _, d := range []*disk.Disk{nil, {}} {
		l, e := Format(d, 8, nil)
		want(t, "Format", e, api.ErrMade)
		want(t, "Append", l.Append(), api.ErrMade)
		m, _, _, e := Open(d)
		want(t, "Open", e, api.ErrMade)
		want(t, "Reset", m.Reset(), api.ErrMade)
	}
}
