package boil

import (
	"iter"

	"crossband/api"
)

// values is how many numbers a mix, an opening or an hour can have.
const values = api.MaxBoilValue + 1

// causesOf returns the causes of a panel.
func causesOf(p api.BoilPanel) []int {
	return []int{p.Mix, values + p.Opening, 2*values + p.Hour}
}

// panels yields the panels that can be boiled, by Mix, then Opening, then Hour.
func panels() iter.Seq[api.BoilPanel] {
	return func(yield func(api.BoilPanel) bool) {
		for mix := range values {
			for opening := range values {
				for hour := range values {
					if !yield(api.BoilPanel{Mix: mix, Opening: opening, Hour: hour}) {
						return
					}
				}
			}
		}
	}
}
