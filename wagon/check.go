package wagon

import "bigtop/api"

const longestRest = 24

func within(n, lo, hi int) bool { return lo <= n && n <= hi }

func every[T any](l []T, valid func(T) bool) bool {
	for _, x := range l {
		if !valid(x) {
			return false
		}
	}
	return true
}

func isRoom(n int) bool { return within(n, 1, api.MaxRoom) }

func isHigh(n int) bool { return within(n, 1, api.MaxHigh) }

func isMass(n int) bool { return within(n, 0, api.MaxHeavy) }

func (l Lorry) valid() bool {
	return within(len(l.Lanes), 1, api.MaxLanes) && every(l.Lanes, isRoom) && isHigh(l.Height) &&
		isMass(l.Carries) && isMass(l.Empty) && within(l.Rear, 1, api.MaxRear) &&
		isMass(l.Axle) && within(l.Deck, 0, api.MaxDeck)
}

func (t Thing) valid() bool {
	return isRoom(t.Long) && isHigh(t.High) && isMass(t.Mass) && within(t.Need, 0, api.MaxOrder)
}

func (b Bridge) valid() bool {
	return within(b.Limit, 0, api.MaxTon) && within(b.Clear, 0, api.MaxClear)
}

func (r Rules) valid() bool {
	return within(r.Drive, 1, api.MaxDrive) && within(r.Stint, 1, r.Drive) &&
		within(r.Break, 0, api.MaxPause) && within(r.Rest, 0, longestRest)
}

func checkThings(things []Thing, most int) api.Errno {
	switch {
	case len(things) > most:
		return api.ErrLimit
	case !every(things, Thing.valid):
		return api.ErrArg
	}
	return api.OK
}

func checkLoad(l Lorry, things []Thing) api.Errno {
	if e := CheckLorry(l); e != api.OK {
		return e
	}
	return checkThings(things, api.MaxThings)
}

func checkPacking(l Lorry, things []Thing, packing [][]int) api.Errno {
	switch e := checkLoad(l, things); {
	case e != api.OK:
		return e
	case !l.right(things, packing):
		return api.ErrFail
	}
	return api.OK
}
