package rigging

import "bigtop/api"

const (
	lastNotch = 60
	middle    = 30 // the notch at which the weight of a beam pulls
	deepest   = 3
)

func within(n, lo, hi int) bool { return lo <= n && n <= hi }

func every[T any](l []T, valid func(T) bool) bool {
	for _, x := range l {
		if !valid(x) {
			return false
		}
	}
	return true
}

func isForce(n int) bool { return within(n, 0, api.MaxBear) }

func isFactor(n int) bool { return within(n, 1000, api.MaxFactor) }

func isNotch(n int) bool { return within(n, 0, lastNotch) }

func isKind(kind uint8) bool { return kind <= People }

func (r Rig) valid() bool {
	return within(len(r.Points), 1, api.MaxPoints) && every(r.Points, isForce) &&
		len(r.Beams) <= api.MaxBeams && r.hangs() && every(r.Factors[:], isFactor) &&
		len(r.Loads) <= api.MaxLoads && every(r.Loads, r.carries)
}

// has expects that only so many beams are there yet.
func (r Rig) has(p Place, beams int) bool {
	if p.Beam == -1 {
		return within(p.At, 0, len(r.Points)-1)
	}
	return within(p.Beam, 0, beams-1) && isNotch(p.At)
}

func (r Rig) hangs() bool {
	var depths [api.MaxBeams]int
	depth := func(p Place) int {
		if p.Beam == -1 {
			return 0
		}
		return depths[p.Beam]
	}
	for i, b := range r.Beams {
		if !b.valid() || !r.has(b.OnA, i) || !r.has(b.OnB, i) {
			return false
		}
		depths[i] = 1 + max(depth(b.OnA), depth(b.OnB))
		if depths[i] > deepest {
			return false
		}
	}
	return true
}

func (b Beam) valid() bool {
	return isNotch(b.A) && isNotch(b.B) && isSpan(b.B-b.A) && isForce(b.Weight) && isForce(b.Strength)
}

// isSpan lets pass divisors of 60 alone: forces are whole grains behind three beams for that.
func isSpan(n int) bool {
	switch n {
	case 10, 12, 15, 20, 30, 60:
		return true
	}
	return false
}

func (r Rig) carries(l Load) bool {
	return r.has(l.At, len(r.Beams)) && isKind(l.Kind) && isForce(l.Lo) && isForce(l.Hi) && l.Lo <= l.Hi
}

// top is the greatest force of a load.
func (r Rig) top(l Load) int { return (l.Hi*r.Factors[l.Kind] + 999) / 1000 }

func (r Rig) allows(pulls []int) bool {
	if len(pulls) != len(r.Loads) {
		return false
	}
	for i, l := range r.Loads {
		if !within(pulls[i], l.Lo, r.top(l)) {
			return false
		}
	}
	return true
}
