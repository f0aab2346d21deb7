package rigging

import (
	"slices"
	"sort"

	"bigtop/api"
)

// The ends of a range.
const (
	least = -1
	most  = 1
)

// end chooses an end of a range: the high one for what is above 0.
func end[T any](n int, low, high T) T {
	if n > 0 {
		return high
	}
	return low
}

// pulls are those with which a part bears that end of its range.
func (w *work) pulls(f row, which int) []int {
	l := make([]int, len(w.Loads))
	for i, x := range w.Loads {
		l[i] = end(which*f[i], x.Lo, w.top(x))
	}
	return l
}

func (w *work) bounds(f row) Range {
	return Range{Lo: f.with(w.pulls(f, least)), Hi: f.with(w.pulls(f, most))}
}

// parts counts the hangers of a beam, or all points.
func (w *work) parts(beam int) int {
	if beam == -1 {
		return len(w.Points)
	}
	return 2
}

func (w *work) given(p Part) row {
	if p.Beam == -1 {
		return w.points[p.At]
	}
	return w.hangers[p.Beam][p.At]
}

func (w *work) limit(p Part) int {
	if p.Beam == -1 {
		return w.Points[p.At]
	}
	return w.Beams[p.Beam].Strength
}

func (w *work) over(p Part) bool { return w.bounds(w.given(p)).Hi > w.limit(p)*grain }

func (w *work) slack(p Part) bool { return p.Beam != -1 && w.bounds(w.given(p)).Lo < 0 }

// first searches the points, and then the hangers of each beam.
func (w *work) first(so func(Part) bool) (part Part, found bool) {
search:
	for beam := -1; beam < len(w.Beams); beam++ {
		for at := range w.parts(beam) {
			part = Part{beam, at}
			if found = so(part); found {
				break search
			}
		}
	}
	return part, found
}

func (w *work) witnessed(so func(Part) bool, which int) (part Part, pulls []int, e api.Errno) {
	part, found := w.first(so)
	if !found {
		return Part{}, nil, api.ErrNone
	}
	return part, w.pulls(w.given(part), which), api.OK
}

func (w *work) safe() bool {
	_, over := w.first(w.over)
	_, slack := w.first(w.slack)
	return !over && !slack
}

// with leaves the loads of the rig as they are.
func (r Rig) with(l Load) Rig {
	r.Loads = slices.Concat(r.Loads, []Load{l})
	return r
}

// room is that of the last load. One that may pull more may still pull less,
// so what is too heavy stays so.
func (w *work) room() int {
	last := &w.Loads[len(w.Loads)-1]
	tooHeavy := func(n int) bool {
		last.Hi = n + 1
		return !w.safe()
	}
	return sort.Search(api.MaxBear, tooHeavy)
}
