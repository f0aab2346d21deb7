package rigging

import (
	"slices"

	"bigtop/api"
)

const (
	grain   = 60 * 60 * 60 // of a newton
	weights = api.MaxLoads // where a row has what all weights give
)

// row is what is given by one newton of each load, and by all weights, in grains.
type row [api.MaxLoads + 1]int

func single(i, grains int) row {
	var f row
	f[i] = grains
	return f
}

func sum(forces ...row) row {
	var s row
	for _, f := range forces {
		for i, n := range f {
			s[i] += n
		}
	}
	return s
}

// share divides first, so that nothing overflows: there is no rest, as each
// beam that a force has still to pass leaves it a factor of 60.
func (f row) share(n, of int) row {
	for i := range f {
		f[i] = f[i] / of * n
	}
	return f
}

func (f row) with(pulls []int) int {
	n := f[weights]
	for i, p := range pulls {
		n += f[i] * p
	}
	return n
}

// work is a rig with what all its parts are given.
type work struct {
	Rig
	points  [api.MaxPoints]row
	hangers [api.MaxBeams][2]row
}

// hang goes from the last beam to the first one: what hangs on a beam has a greater number.
func hang(r Rig) *work {
	w := &work{Rig: r}
	for i, l := range w.Loads {
		w.bear(l.At, single(i, grain))
	}
	for i, b := range slices.Backward(w.Beams) {
		w.bear(Place{i, middle}, single(weights, b.Weight*grain))
		w.bear(b.OnA, w.hangers[i][0])
		w.bear(b.OnB, w.hangers[i][1])
	}
	return w
}

func (w *work) bear(at Place, force row) {
	if at.Beam == -1 {
		w.points[at.At] = sum(w.points[at.At], force)
		return
	}
	b, h := w.Beams[at.Beam], &w.hangers[at.Beam]
	h[0] = sum(h[0], force.share(b.B-at.At, b.B-b.A))
	h[1] = sum(h[1], force.share(at.At-b.A, b.B-b.A))
}

func ofParts[T any](w *work, value func(row) T) (points []T, hangers [][2]T) {
	for i := range w.Points {
		points = append(points, value(w.points[i]))
	}
	for i := range w.Beams {
		a, b := w.hangers[i][0], w.hangers[i][1]
		hangers = append(hangers, [2]T{value(a), value(b)})
	}
	return points, hangers
}
