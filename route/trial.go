package route

import "iter"

// trial is a tour whose towns are tried, for fees that are paid for each stop.
type trial struct {
	Tour
	fees []int
	// kept is, for each town and day, what all days before it bring there, less their rent.
	kept [][]int
}

// newTrial tries the towns of a tour; without fees there are none to pay.
func newTrial(t Tour, fees []int) trial {
	tried := trial{Tour: t, fees: make([]int, len(t.Towns)), kept: make([][]int, len(t.Towns))}
	copy(tried.fees, fees)
	for i, town := range t.Towns {
		tried.kept[i] = make([]int, t.Days+1)
		for day := range t.Days {
			tried.kept[i][day+1] = tried.kept[i][day] + town.brings(day) - town.Rent
		}
	}
	return tried
}

func (t Tour) lost(from, to int) int {
	nights := (t.Legs[from][to].Hours + t.Shift - 1) / t.Shift
	return greatest(nights-1, 0)
}

func (t Town) brings(day int) int {
	away := func(rival Range) bool { return !within(day, rival.Lo, rival.Hi+t.Cold) }
	if every(t.Rivals, away) {
		return t.Pay
	}
	return t.Pay * (whole - t.Cut) / whole
}

func greatest(first int, others ...int) int {
	for _, n := range others {
		first = max(first, n)
	}
	return first
}

// gains is what a stop brings, less rent and fee; it has to be one that could be played.
func (t trial) gains(s Stop) int {
	kept := t.kept[s.Town]
	return kept[s.Last+1] - kept[s.First] - t.fees[s.Town]
}

// profit is that of a right season, less the fee for each of its stops.
func (t trial) profit(season []Stop) (n int) {
	at := 0
	for _, s := range season {
		n += t.gains(s) - t.Legs[at][s.Town].Cost
		at = s.Town
	}
	return n - t.Legs[at][0].Cost
}

// following are the stops that could follow when one has ended in a town with the day before this one, in the order of towns and days.
func (t trial) following(town, day int) iter.Seq[Stop] {
	return func(yield func(Stop) bool) {
		for next := 1; next < len(t.Towns); next++ {
			if next == town {
				continue
			}
			for first := day + t.lost(town, next); first < t.Days; first++ {
				for s := range t.beginning(next, first) {
					if !yield(s) {
						return
					}
				}
			}
		}
	}
}

// beginning are the stops in a town that begin on this day and have no fault of their own.
func (t trial) beginning(town, day int) iter.Seq[Stop] {
	return func(yield func(Stop) bool) {
		place := t.Towns[town]
		if place.Lot < t.Size {
			return
		}
		for days := place.Stay.Lo; days <= place.Stay.Hi && place.hasLicence(day, day+days-1); days++ {
			if !yield(Stop{town, day, day + days - 1}) {
				return
			}
		}
	}
}
