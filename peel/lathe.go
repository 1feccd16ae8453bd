package peel

import (
	"iter"
	"maps"
	"slices"

	"crossband/api"
)

// lathe is a log between the centres.
type lathe struct {
	api.PeelLog
	bounds map[api.PeelProof]api.Ratio // what proofs of the log prove: no core is greater
}

func newLathe() *lathe {
	return &lathe{bounds: map[api.PeelProof]api.Ratio{}}
}

// put lays a valid log between the centres. What was proved for the log before it says nothing of this one.
func (l *lathe) put(log api.PeelLog) {
	l.At, l.Edges = taken(log.At), taken(log.Edges)
	clear(l.bounds)
}

// lay returns a lathe with a log, or the error of the log.
func lay(log api.PeelLog) (*lathe, api.Errno) {
	if e := CheckLog(log); e != api.OK {
		return nil, e
	}
	l := newLathe()
	l.put(log)
	return l, api.OK
}

// lower returns where a line that keeps a core is at least at a place; for the core 0 it is the lower edge.
func (l *lathe) lower(place int, core api.Ratio) point {
	return point{l.At[place], plus(whole(l.Edges[place].Lo), core)}
}

// upper returns where a line that keeps a core is at most at a place; for the core 0 it is the upper edge.
func (l *lathe) upper(place int, core api.Ratio) point {
	return point{l.At[place], minus(whole(l.Edges[place].Hi), core)}
}

// core returns the core of the line with such heights.
func (l *lathe) core(height heights) api.Ratio {
	var kept []api.Ratio
	for i, x := range l.At {
		h := height(x)
		kept = grown(kept, minus(h, whole(l.Edges[i].Lo)))
		kept = grown(kept, minus(whole(l.Edges[i].Hi), h))
	}
	return pick(slices.Values(kept), less)
}

// best returns the best core, and leaves just the proofs of it among the bounds. It does not matter in which order the map is read: fractions in least terms that are equal are the same.
func (l *lathe) best() api.Ratio {
	for p := range l.proofs() {
		l.bounds[p] = l.proves(p)
	}
	least := pick(maps.Values(l.bounds), less)
	for p, bound := range l.bounds {
		if bound != least {
			delete(l.bounds, p)
		}
	}
	return least
}

// corners yields the lines that are as high or as low as a core allows at two places. The lines that keep the core are a polygon of starts and steps: it is bounded, as there are two places, and each of its corners is one of these.
func (l *lathe) corners(core api.Ratio) iter.Seq[heights] {
	return func(yield func(heights) bool) {
		for j := range l.At {
			for i := range j {
				for _, a := range []point{l.lower(i, core), l.upper(i, core)} {
					for _, b := range []point{l.lower(j, core), l.upper(j, core)} {
						if !yield(between(a, b)) {
							return
						}
					}
				}
			}
		}
	}
}

// keeping returns the corners that keep a core. They are none just if no line keeps it.
func (l *lathe) keeping(core api.Ratio) []heights {
	var kept []heights
search:
	for height := range l.corners(core) {
		for i, x := range l.At {
			h := height(x)
			if less(h, l.lower(i, core).y) || less(l.upper(i, core).y, h) {
				continue search
			}
		}
		kept = grown(kept, height)
	}
	return kept
}
