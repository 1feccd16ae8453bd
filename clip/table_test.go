package clip

import (
	"maps"
	"testing"

	"crossband/api"
)

// TestPutAgain: a ribbon that is put on a table after another one is told of as on a table of its own (R10).
func TestPutAgain(t *testing.T) {
	kinds := []api.ClipKind{{Width: 2, Price: 5}, {Width: 3, Price: 7, Most: 1}}
	used, e := lay(api.ClipRibbon{Length: 24}, kinds)
	if e != api.OK {
		t.Fatal(e)
	}
	for _, r := range []api.ClipRibbon{{Length: 10, Faults: []int{3, 8}}, {Length: 10}, {Length: 1}, {Length: 12}} {
		fresh, e := lay(r, kinds)
		if e != api.OK {
			t.Fatal(e)
		}
		used.put(r)
		if used.upTo != fresh.upTo || used.ways != fresh.ways || !maps.Equal(used.best, fresh.best) {
			t.Error(r, used, fresh)
		}
	}
}
