package canvas

import (
	"cmp"

	"bigtop/api"
)

func within(n, lo, hi int) bool { return lo <= n && n <= hi }

func isSoil(n int) bool { return within(n, 0, api.MaxSoils-1) }

func isDepth(n int) bool { return within(n, 1, api.MaxDepth) }

func every[T any](l []T, valid func(T) bool) bool {
	for _, x := range l {
		if !valid(x) {
			return false
		}
	}
	return true
}

func (t Test) valid() bool {
	return isSoil(t.Soil) && isDepth(t.Depth) && within(t.Force, 1, api.MaxPull)
}

func (g Guy) valid() bool {
	return g.pull() != Vector{} && g.pull().inside(api.MaxPull) &&
		within(g.Down, 0, api.MaxPull) && isSoil(g.Soil) && isDepth(g.Depth)
}

func (h Head) valid() bool {
	return within(h.Area, 0, api.MaxArea) && within(h.Bears, 0, api.MaxHold) &&
		len(h.Guys) <= api.MaxGuys && every(h.Guys, Guy.valid)
}

func checkWind(wind []Vector) api.Errno {
	corner := func(v Vector) bool { return v.inside(api.MaxPush) }
	if len(wind) < 1 || len(wind) > api.MaxCorners || !every(wind, corner) {
		return api.ErrArg
	}
	return api.OK
}

// checkAgree expects tests that are valid: their products do not overflow then.
func checkAgree(l []Test) api.Errno {
	if _, _, found := firstClash(l); found {
		return api.ErrFail
	}
	return api.OK
}

// firstError keeps the order of the table of errors: the error of a kind of
// argument, numbers that are not in their range, and then tests that clash.
func firstError(kinds api.Errno, inRange bool, l []Test) api.Errno {
	switch {
	case kinds != api.OK:
		return kinds
	case !inRange:
		return api.ErrRange
	}
	return checkAgree(l)
}

func checkStake(l []Test, inRange bool) api.Errno {
	return firstError(CheckTests(l), inRange, l)
}

func checkTented(l []Test, t Tent) api.Errno {
	return firstError(cmp.Or(CheckTests(l), CheckTent(t)), true, l)
}

func checkHead(l []Test, t Tent, head int, inRange bool) api.Errno {
	return firstError(cmp.Or(CheckTests(l), CheckTent(t)), inRange && within(head, 0, len(t)-1), l)
}

func checkWindy(l []Test, t Tent, wind []Vector) api.Errno {
	return firstError(cmp.Or(CheckTests(l), CheckTent(t), checkWind(wind)), true, l)
}
