package patch

import (
	"slices"

	"crossband/api"
)

// fullTurn is how many turns make a sheet what it was.
const fullTurn = 4

// turned returns a valid sheet turned once: each column, read from the bottom to the top, is a row.
func turned(s api.PatchSheet) api.PatchSheet {
	out := api.PatchSheet{Most: s.Most}
	for column := range len(s.Rows[0]) {
		var row []byte
		for _, r := range slices.Backward(s.Rows) {
			row = grown(row, r[column])
		}
		out.Rows = grown(out.Rows, string(row))
	}
	return out
}

// areSame reports whether two sheets are the same.
func areSame(s, t api.PatchSheet) bool {
	return s.Most == t.Most && slices.Equal(s.Rows, t.Rows)
}
