package txn

import (
	"reflect"
	"testing"

	"ramble/api"
)

// R5, P14.3: of a manager that no call made: ErrMade, ahead of all else; nothing; 0; false.
func TestNotMade(t *testing.T) {
	refused, _ := New(api.Graph{Last: -1})
	for _, m := range []*Manager{nil, {}, new(Manager), refused} {
		f := face{t, m}
		for range 2 {
			_, err := f.begin()
			wantErr(t, "Begin", err, api.ErrMade)
			for _, id := range append(wildNumbers(), 0, 1, 2) {
				f.wantAll(id, api.ErrMade)
				f.wantNoPast(id)
			}
			if g := m.Latest(); !reflect.ValueOf(g).IsZero() {
				t.Error("Latest", g)
			}
			if version, live := m.Version(), m.Live(); version != 0 || live != nil {
				t.Error("Version, Live", version, live)
			}
		}
	}
}
