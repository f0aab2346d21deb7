package route

import "bigtop/api"

// whole is a thousand thousandths.
const whole = 1000

func within(n, lo, hi int) bool { return lo <= n && n <= hi }

func every[T any](l []T, valid func(T) bool) bool {
	for _, x := range l {
		if !valid(x) {
			return false
		}
	}
	return true
}

func isCoins(n int) bool { return within(n, 0, api.MaxCoins) }

func isLot(n int) bool { return within(n, 0, api.MaxLot) }

func isFee(n int) bool { return within(n, 0, api.MaxFee) }

func isGold(n int) bool { return within(n, -api.MaxGold, api.MaxGold) }

func (r Range) isIn(lo, hi int) bool { return lo <= r.Lo && r.Lo <= r.Hi && r.Hi <= hi }

func (r Range) isRival() bool { return r.isIn(-api.MaxDays, api.MaxDays) }

func (l Leg) valid() bool { return within(l.Hours, 0, api.MaxHours) && isCoins(l.Cost) }

func (t Tour) valid() bool {
	return within(t.Days, 1, api.MaxDays) && within(t.Shift, 1, api.MaxShift) && isLot(t.Size) &&
		within(len(t.Towns), 2, api.MaxTowns) && t.Towns[0].isQuarters() &&
		every(t.Towns[1:], t.mayPlay) && t.hasLegs()
}

func (t Town) isQuarters() bool {
	numbers := [...]int{t.Stay.Lo, t.Stay.Hi, t.Pay, t.Lot, t.Rent, t.Cold, t.Cut}
	return numbers == [len(numbers)]int{} && len(t.Open) == 0 && len(t.Rivals) == 0
}

// mayPlay reports whether the town is valid as one that is played on this tour.
func (t Tour) mayPlay(town Town) bool {
	return t.areLicences(town.Open) && town.Stay.isIn(1, api.MaxStay) &&
		isCoins(town.Pay) && isLot(town.Lot) && isCoins(town.Rent) &&
		len(town.Rivals) <= api.MaxRivals && every(town.Rivals, Range.isRival) &&
		within(town.Cold, 0, api.MaxDays) && within(town.Cut, 0, whole)
}

func (t Tour) areLicences(open []Range) bool {
	next := 0
	for _, r := range open {
		if !r.isIn(next, t.Days-1) {
			return false
		}
		next = r.Hi + 1
	}
	return within(len(open), 1, api.MaxOpen)
}

func (t Tour) hasLegs() bool {
	for i, row := range t.Legs {
		if len(row) != len(t.Towns) || !every(row, Leg.valid) || i < len(row) && row[i] != (Leg{}) {
			return false
		}
	}
	return len(t.Legs) == len(t.Towns)
}

func (t Tour) areFees(fees []int) bool {
	return len(fees) == len(t.Towns) && fees[0] == 0 && every(fees, isFee)
}

func (t Tour) isTable(table [][]int) bool {
	return len(table) == len(t.Towns) && every(table, t.isRow)
}

func (t Tour) isRow(row []int) bool { return len(row) == t.Days+1 && every(row, isGold) }

func (t Tour) isTown(town int) bool { return within(town, 0, len(t.Towns)-1) }

func (t Tour) isPlayed(town int) bool { return town > 0 && t.isTown(town) }

func checkSeason(t Tour, season []Stop) api.Errno {
	switch {
	case !t.valid():
		return api.ErrArg
	case len(season) > api.MaxStops:
		return api.ErrLimit
	}
	return api.OK
}

func checkRight(t Tour, season []Stop) api.Errno {
	switch e := checkSeason(t, season); {
	case e != api.OK:
		return e
	case !t.isRight(season):
		return api.ErrFail
	}
	return api.OK
}
