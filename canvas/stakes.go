package canvas

import (
	"sort"

	"bigtop/api"
)

func clash(held, broke Test) bool {
	return held.Held && !broke.Held && held.Soil == broke.Soil &&
		held.Force*broke.Depth >= broke.Force*held.Depth
}

func firstClash(l []Test) (held, broke int, found bool) {
	for i, a := range l {
		for k, b := range l {
			if clash(a, b) {
				return i, k, true
			}
		}
	}
	return 0, 0, false
}

// holds leaves Lo above MaxHold where the tests say so: a guy's part counts on all of it.
func holds(l []Test, soil, depth int) Range {
	r := Range{Hi: api.MaxHold}
	for _, t := range l {
		switch {
		case t.Soil != soil:
		case t.Held:
			r.Lo = max(r.Lo, t.Force*depth/t.Depth)
		default:
			r.Hi = min(r.Hi, quotientUp(t.Force*depth, t.Depth)-1)
		}
	}
	return r
}

// quotientUp is a/b, rounded up, for an a of at least 0 and a b above 0.
func quotientUp(a, b int) int { return (a + b - 1) / b }

// leastDepth may search by halves because a deeper stake never holds less.
// It returns more than MaxDepth if no depth will do.
func leastDepth(l []Test, soil, force int) int {
	return 1 + sort.Search(api.MaxDepth, func(above int) bool {
		return holds(l, soil, above+1).Lo >= force
	})
}
