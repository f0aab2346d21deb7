package route

// visit is a stop of a season, on its tour.
type visit struct {
	Tour
	Stop
	season []Stop
	at     int
}

// test finds one kind of fault; it is made only after all tests before it have found none.
type test struct {
	kind  uint8
	fails func(visit) bool
}

// ownTests are about the stop alone, whatever season it is in.
func ownTests() []test {
	return []test{
		{Unknown, visit.isUnknown},
		{Small, visit.isSmall},
		{Length, visit.isNoStay},
		{Licence, visit.isUnlicensed},
	}
}

func allTests() []test {
	return append(ownTests(), test{Twice, visit.isTwice}, test{Early, visit.isEarly}, test{Home, visit.isLate})
}

// firstFault is the kind of the first test that fails, and 0 if none does.
func firstFault(v visit, tests []test) uint8 {
	for _, x := range tests {
		if x.fails(v) {
			return x.kind
		}
	}
	return 0
}

func (t Tour) faults(season []Stop) (out []Fault) {
	tests := allTests()
	for i, s := range season {
		if kind := firstFault(visit{t, s, season, i}, tests); kind != 0 {
			out = append(out, Fault{i, kind})
		}
	}
	return out
}

func (t Tour) isRight(season []Stop) bool { return len(t.faults(season)) == 0 }

func (v visit) isUnknown() bool { return !v.isPlayed(v.Town) }

func (v visit) isSmall() bool { return v.Towns[v.Town].Lot < v.Size }

func (v visit) isNoStay() bool { return !v.Towns[v.Town].mayStay(v.First, v.Last) }

func (v visit) isUnlicensed() bool { return !v.Towns[v.Town].hasLicence(v.First, v.Last) }

func (v visit) isTwice() bool {
	other := func(s Stop) bool { return s.Town != v.Town }
	return !every(v.season[:v.at], other)
}

// isEarly compares without adding to the last day of the stop before, which may be any number.
func (v visit) isEarly() bool {
	if v.at == 0 {
		return v.First < v.lost(0, v.Town)
	}
	before := v.season[v.at-1]
	return v.isPlayed(before.Town) && v.First-1-v.lost(before.Town, v.Town) < before.Last
}

func (v visit) isLate() bool {
	return v.at == len(v.season)-1 && v.Last+v.lost(v.Town, 0) > v.Days-1
}

// mayStay counts the nights between the days without a sign, as there may be more of them than an int holds.
func (t Town) mayStay(first, last int) bool {
	nights := uint(last) - uint(first)
	return first <= last && uint(t.Stay.Lo-1) <= nights && nights <= uint(t.Stay.Hi-1)
}

// hasLicence looks for the one range that may hold the days: the first that has not ended before them.
func (t Town) hasLicence(first, last int) (licensed bool) {
search:
	for _, r := range t.Open {
		switch {
		case first < r.Lo:
			break search
		case first <= r.Hi:
			licensed = last <= r.Hi
			break search
		}
	}
	return licensed
}
