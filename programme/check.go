package programme

import "bigtop/api"

func within(n, lo, hi int) bool { return lo <= n && n <= hi }

func every[T any](l []T, valid func(T) bool) bool {
	for _, x := range l {
		if !valid(x) {
			return false
		}
	}
	return true
}

func isRest(n int) bool { return within(n, 0, api.MaxApart) }

func isSetup(n int) bool { return within(n, 0, api.MaxSetup) }

func isNumber(n int) bool { return within(n, 0, api.MaxTable) }

func (s Show) valid() bool {
	return len(s.Rest) <= api.MaxPersons && every(s.Rest, isRest) &&
		len(s.In) <= api.MaxRigs && every(s.In, isSetup) &&
		len(s.Out) == len(s.In) && every(s.Out, isSetup) &&
		within(s.Cover, 0, api.MaxCover) && within(s.Dull, 0, api.MaxDull) &&
		within(len(s.Acts), 1, api.MaxTurns) && every(s.Acts, s.mayHave) &&
		len(s.Before) <= api.MaxPairs && every(s.Before, s.isPair)
}

// mayHave reports whether the act is valid in this show.
func (s Show) mayHave(a Act) bool {
	return within(a.Minutes, 1, api.MaxPlay) && within(a.Tension, 0, api.MaxTension) &&
		set(a.Rigs).isIn(below(len(s.In))) &&
		within(len(a.Casts), 1, api.MaxCasts) && every(a.Casts, s.isCast)
}

func (s Show) isCast(cast uint16) bool { return set(cast).isIn(below(len(s.Rest))) }

func (s Show) isAct(act int) bool { return within(act, 0, len(s.Acts)-1) }

func (s Show) isPair(p [2]int) bool { return every(p[:], s.isAct) && p[0] != p[1] }

func (s Show) allActs() set { return below(len(s.Acts)) }

// isOrder counts on that so many numbers are all acts only if none of them stands twice.
func (s Show) isOrder(order []int) bool {
	if len(order) != len(s.Acts) || !every(order, s.isAct) {
		return false
	}
	var found set
	for _, act := range order {
		found = found.with(act)
	}
	return found == s.allActs()
}

func (s Show) isTable(table [][]int) bool {
	return len(table) == 1<<len(s.Acts) && every(table, s.isRow)
}

func (s Show) isRow(row []int) bool {
	return len(row) == len(s.Acts)*len(s.Acts) && every(row, isNumber)
}

func checkOrder(s Show, order []int) api.Errno {
	switch {
	case !s.valid():
		return api.ErrArg
	case !s.isOrder(order):
		return api.ErrRange
	}
	return api.OK
}

func checkProgramme(s Show, order []int) api.Errno {
	if e := checkOrder(s, order); e != api.OK {
		return e
	}
	if _, why := s.fault(order); why != 0 {
		return api.ErrFail
	}
	return api.OK
}
