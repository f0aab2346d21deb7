package canvas

import (
	"slices"
	"sort"

	"bigtop/api"
)

// measured is a head whose guys' forces are known.
type measured struct {
	Head
	forces []Vector
}

func measure(l []Test, h Head) measured {
	m := measured{Head: h}
	for i, part := range partsOf(l, h) {
		m.forces = append(m.forces, h.Guys[i].pull().times(part))
	}
	return m
}

func (g Guy) pull() Vector { return Vector{g.X, g.Y} }

// length is at most 2 MaxPull, as a pull is not longer than its two numbers together.
func (g Guy) length() int {
	square := g.pull().dot(g.pull())
	return sort.Search(2*api.MaxPull, func(n int) bool { return n*n >= square })
}

func (g Guy) part(l []Test) int {
	return min(100, 100*holds(l, g.Soil, g.Depth).Lo/g.length())
}

func partsOf(l []Test, h Head) []int {
	var parts []int
	for _, g := range h.Guys {
		parts = append(parts, g.part(l))
	}
	return parts
}

func (g Guy) presses() int { return g.Down }

func (h Head) down() int { return total(h.Guys, Guy.presses) }

// without copies the guys, as those of h are an argument's.
func (h Head) without(guy int) Head {
	h.Guys = slices.Delete(slices.Clone(h.Guys), guy, guy+1)
	return h
}

// pushed is what a push does at the head, in the unit of the forces.
func (m measured) pushed(push Vector) Vector { return push.times(m.Area) }

// strength is the most that all guys together have against the direction.
func (m measured) strength(way Vector) int { return total(m.forces, way.help) }

func total[T any](l []T, count func(T) int) int {
	all := 0
	for _, x := range l {
		all += count(x)
	}
	return all
}

func (m measured) weakIn(push, way Vector) bool {
	return way.dot(m.pushed(push)) > m.strength(way)
}

// ways are the directions that decide. What the guys can do together is a
// polygon whose sides run along forces, so what is outside of it is outside
// of a side, at right angles to some force. If all forces are on one line, what
// is on this line but beyond its ends is outside along an axis.
// The array has zeros for guys that are not there: no direction, and never weak.
func (m measured) ways() [4 + 2*api.MaxGuys]Vector {
	all := [4 + 2*api.MaxGuys]Vector{{1, 0}, {0, 1}, {-1, 0}, {0, -1}}
	for i, f := range m.forces {
		all[4+2*i] = f.turned()
		all[5+2*i] = f.turned().times(-1)
	}
	return all
}

// weakness returns the direction (0, 0) if there is none.
func (m measured) weakness(push Vector) Vector {
	for _, way := range m.ways() {
		if m.weakIn(push, way) {
			return way
		}
	}
	return Vector{}
}

// weakCorner returns the first corner that the head does not balance, with a weakness; -1 if there is none.
func (m measured) weakCorner(wind []Vector) (int, Vector) {
	for i, push := range wind {
		if way := m.weakness(push); way != (Vector{}) {
			return i, way
		}
	}
	return -1, Vector{}
}

func (m measured) reach(way Vector) int {
	most := api.MaxPush
	for _, d := range m.ways() {
		if once := d.dot(m.pushed(way)); once > 0 {
			most = min(most, m.strength(d)/once)
		}
	}
	return most
}
