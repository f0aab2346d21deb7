package route_test

import (
	"slices"
	"testing"

	"bigtop/api"
	"bigtop/route"
)

func checkFaults(t *testing.T, x route.Tour, l []route.Stop, want ...route.Fault) {
	t.Helper()
	if faults, e := route.Faults(x, l); !slices.Equal(faults, want) || e != api.OK {
		t.Error(l, faults, e)
	}
}

// P6.2: the chapter's examples.
func TestFaultExamples(t *testing.T) {
	checkFaults(t, tour(), season(stop(1, 0, 1), stop(2, 3, 4), stop(3, 5, 5), stop(1, 9, 9)),
		fault(0, route.Early), fault(2, route.Small), fault(3, route.Licence))
	if n, e := route.Profit(tour(), season(stop(1, 1, 3), stop(2, 5, 6))); n != 440 || e != api.OK {
		t.Error(n, e)
	}
}

// P6.2: the numbers of the faults.
func TestFaultNumbers(t *testing.T) {
	for i, kind := range []uint8{route.Unknown, route.Small, route.Length, route.Licence, route.Twice, route.Early, route.Home} {
		if int(kind) != i+1 {
			t.Error(i, kind)
		}
	}
}

// P6.2: each fault at its edges; the first one that applies is the fault.
func TestFaultEdges(t *testing.T) {
	x := tour()
	x.Towns[3] = route.Town{Open: ranges(to(1, 2), to(3, 5), to(7, 9)), Stay: to(2, 3), Lot: 50}
	for _, c := range []struct {
		name string
		stop route.Stop
		want uint8
	}{
		{"right", stop(3, 3, 5), 0},
		{"the winter quarters", stop(0, 3, 5), route.Unknown},
		{"no town", stop(4, 3, 5), route.Unknown},
		{"a town below 0", stop(-1, 3, 5), route.Unknown},
		{"a very great town", stop(highest, 3, 5), route.Unknown},
		{"a very low town", stop(lowest, lowest, highest), route.Unknown},
		{"a day too few", stop(3, 3, 3), route.Length},
		{"days enough", stop(3, 3, 4), 0},
		{"a day too many", stop(3, 2, 5), route.Length},
		{"no days", stop(3, 4, 3), route.Length},
		{"less than no days", stop(3, 5, 3), route.Length},
		{"turned round", stop(3, 5, 4), route.Length},
		{"two ranges that touch", stop(3, 2, 4), route.Licence},
		{"before a range", stop(3, 0, 1), route.Licence},
		{"behind a range", stop(3, 5, 6), route.Licence},
		{"between ranges", stop(3, 6, 7), route.Licence},
		{"around a range", stop(3, 1, 3), route.Licence},
		{"a day below 0", stop(3, -1, 0), route.Licence},
		{"days below 0", stop(3, -3, -2), route.Licence},
		{"from Days on", stop(3, 10, 11), route.Licence},
		{"to Days", stop(3, 9, 10), route.Licence},
		{"home just in time", stop(3, 7, 8), 0},
		{"home a day later", stop(3, 8, 9), route.Home},
		{"just when it can", stop(3, 1, 2), 0},
		{"all days of an int", stop(3, lowest, highest), route.Length},
		{"all days but one", stop(3, lowest+1, highest), route.Length},
		{"all days but two", stop(3, lowest+1, highest-1), route.Length},
		{"all days, turned round", stop(3, highest, lowest), route.Length},
		{"two days, turned round", stop(3, highest, lowest+1), route.Length},
		{"two days at the end", stop(3, highest-1, highest), route.Licence},
		{"two days at the beginning", stop(3, lowest, lowest+1), route.Licence},
		{"one day at the end", stop(3, highest, highest), route.Length},
		{"half of the days", stop(3, 0, highest), route.Length},
		{"the other half", stop(3, lowest, 0), route.Length},
	} {
		want := []route.Fault(nil)
		if c.want != 0 {
			want = append(want, fault(0, c.want))
		}
		if l, e := route.Faults(x, season(c.stop)); !slices.Equal(l, want) || e != api.OK {
			t.Error(c.name, l, e)
		}
	}
}

// P6.2: lots that are just of the size, and one less; the size comes before the days.
func TestSmall(t *testing.T) {
	for lot, want := range map[int]uint8{0: route.Small, 49: route.Small, 50: 0, 51: 0, api.MaxLot: 0} {
		x := tour()
		x.Towns[1].Lot = lot
		if l, _ := route.Faults(x, season(stop(1, 1, 2))); len(l) > 0 != (want != 0) || want != 0 && l[0].Kind != want {
			t.Error(lot, l)
		}
	}
	checkFaults(t, tour(), season(stop(3, 99, 5)), fault(0, route.Small))
	checkFaults(t, tour(), season(stop(3, lowest, highest)), fault(0, route.Small))
}

// P6.2: stops that begin just when they can, and a day earlier, behind good and bad stops.
func TestEarly(t *testing.T) {
	x := tour()
	x.Legs[0][1].Hours, x.Legs[0][2].Hours, x.Legs[1][2].Hours, x.Legs[2][0].Hours = 16, 24, 25, 0
	checkFaults(t, x, season(stop(1, 1, 1)))
	checkFaults(t, x, season(stop(1, 0, 0)), fault(0, route.Early))
	checkFaults(t, x, season(stop(2, 2, 3)))
	checkFaults(t, x, season(stop(1, 1, 1), stop(2, 5, 6)))
	checkFaults(t, x, season(stop(1, 1, 1), stop(2, 4, 5)), fault(1, route.Early))
	checkFaults(t, x, season(stop(2, 3, 4), stop(1, 1, 1)), fault(1, route.Early))
	// The stop before is early itself, or has a licence for none of its days; only its town has to be one.
	checkFaults(t, x, season(stop(1, 0, 0), stop(2, 3, 4)), fault(0, route.Early), fault(1, route.Early))
	checkFaults(t, x, season(stop(1, 7, -3), stop(2, 2, 3)), fault(0, route.Length))
	checkFaults(t, x, season(stop(1, 7, -2), stop(2, 2, 3)), fault(0, route.Length))
	checkFaults(t, x, season(stop(1, 7, -1), stop(2, 2, 3)), fault(0, route.Length), fault(1, route.Early))
	checkFaults(t, x, season(stop(3, 0, 5), stop(2, 7, 8)), fault(0, route.Small))
	checkFaults(t, x, season(stop(3, 0, 5), stop(2, 6, 7)), fault(0, route.Small), fault(1, route.Early))
	for _, town := range []int{lowest, -1, 0, 4, highest} {
		for _, last := range []int{lowest, -1, 9, highest} {
			checkFaults(t, x, season(stop(town, 0, last), stop(2, 2, 3)), fault(0, route.Unknown))
			checkFaults(t, x, season(stop(1, 1, 1), stop(town, 0, last), stop(2, 2, 3)), fault(1, route.Unknown))
		}
	}
	checkFaults(t, x, season(stop(1, 1, highest), stop(2, 2, 3)), fault(0, route.Length), fault(1, route.Early))
	checkFaults(t, x, season(stop(1, 1, lowest), stop(2, 2, 3)), fault(0, route.Length))
}

// P6.2: a town again has the fault Twice, whatever faults the earlier stop has, unless one comes before it.
func TestTwice(t *testing.T) {
	checkFaults(t, tour(), season(stop(1, 1, 1), stop(1, 3, 3), stop(1, 1, 1)), fault(1, route.Twice), fault(2, route.Twice))
	checkFaults(t, tour(), season(stop(1, 1, 1), stop(2, 3, 4), stop(1, 4, 4)), fault(2, route.Twice))
	checkFaults(t, tour(), season(stop(1, 1, 9), stop(1, 3, 3)), fault(0, route.Length), fault(1, route.Twice))
	checkFaults(t, tour(), season(stop(2, 2, 3), stop(2, 8, 9)), fault(1, route.Twice))
	checkFaults(t, tour(), season(stop(1, 1, 1), stop(1, 5, 5)), fault(1, route.Licence))
	checkFaults(t, tour(), season(stop(3, 1, 1), stop(3, 5, 5)), fault(0, route.Small), fault(1, route.Small))
	checkFaults(t, tour(), season(stop(9, 1, 1), stop(9, 5, 5)), fault(0, route.Unknown), fault(1, route.Unknown))
}

// P6.2: only the last stop has to be home in time, and being early comes first.
func TestHome(t *testing.T) {
	checkFaults(t, tour(), season(stop(2, 7, 8)))
	checkFaults(t, tour(), season(stop(2, 8, 9)), fault(0, route.Home))
	checkFaults(t, tour(), season(stop(2, 8, 9), stop(1, 4, 4)), fault(1, route.Early))
	checkFaults(t, tour(), season(stop(2, 8, 9), stop(0, 0, 0)), fault(1, route.Unknown))
	checkFaults(t, tour(), season(stop(1, 3, 4), stop(2, 8, 9)), fault(1, route.Home))
	x := tour()
	x.Legs[0][2].Hours = 200
	checkFaults(t, x, season(stop(2, 8, 9)), fault(0, route.Early))
}

// P6.2: no stops, as many as there may be, and one more.
func TestSeasonSizes(t *testing.T) {
	for _, l := range [][]route.Stop{nil, {}} {
		checkFaults(t, tour(), l)
		if n, e := route.Profit(tour(), l); n != 0 || e != api.OK {
			t.Error(n, e)
		}
	}
	var most []route.Fault
	for i := range api.MaxStops {
		most = append(most, fault(i, route.Unknown))
	}
	checkFaults(t, tour(), make([]route.Stop, api.MaxStops), most...)
	for n, want := range map[int]api.Errno{api.MaxStops: api.ErrFail, api.MaxStops + 1: api.ErrLimit, 500: api.ErrLimit} {
		l := slices.Repeat(season(stop(1, 1, 1)), n)
		_, e := route.Profit(tour(), l)
		_, _, replace := route.Replace(tour(), l, n)
		if e != want || replace != want {
			t.Error(n, e, replace)
		}
	}
	if l, e := route.Faults(tour(), make([]route.Stop, api.MaxStops+1)); len(l) > 0 || e != api.ErrLimit {
		t.Error(l, e)
	}
}

// P6.2: a season in which there is a stop for each town.
func TestLongSeason(t *testing.T) {
	x, l := largest(), season()
	for town := 1; town < api.MaxTowns; town++ {
		l = append(l, stop(town, 7*town, 7*town+3))
	}
	checkFaults(t, x, l)
	if n, e := route.Profit(x, l); n != profitBy(x, l) || e != api.OK {
		t.Error(n, e)
	}
}

// P6.2, by its definitions.
func TestFaultsAndProfit(t *testing.T) {
	d := newDice(63)
	right := 0
	for range 20000 {
		x := d.tour(d.from(1, 12), d.from(2, 5))
		var l []route.Stop
		for range d.from(0, 4) {
			l = append(l, d.stop(x))
		}
		if d.Intn(3) > 0 {
			slices.SortFunc(l, func(a, b route.Stop) int { return a.First - b.First })
		}
		want := faultsBy(x, l)
		if faults, e := route.Faults(x, l); !slices.Equal(faults, want) || e != api.OK {
			t.Error("Faults:", x, l, faults, want, e)
		}
		n, e := route.Profit(x, l)
		if len(want) > 0 {
			if n != 0 || e != api.ErrFail {
				t.Error("Profit of a wrong season:", x, l, n, e)
			}
			continue
		}
		right += len(l)
		if n != profitBy(x, l) || e != api.OK {
			t.Error("Profit:", x, l, n, profitBy(x, l), e)
		}
	}
	if right < 500 {
		t.Error("too few right seasons:", right)
	}
}

// P6.12: a season with one stop, and seasons without their last stop.
func TestParts(t *testing.T) {
	d := newDice(64)
	for range 3000 {
		x := d.tour(d.from(3, 12), d.from(2, 4))
		s := d.stop(x)
		if n, e := route.Profit(x, season(s)); e == api.OK {
			for day := s.First; day <= s.Last; day++ {
				brings, _ := route.Day(x, s.Town, day)
				n -= brings - x.Towns[s.Town].Rent
			}
			if n != -x.Legs[0][s.Town].Cost-x.Legs[s.Town][0].Cost {
				t.Error("one stop:", x, s, n)
			}
		}
		l := season(d.stop(x), d.stop(x), s)
		all, _ := route.Faults(x, l)
		fewer, _ := route.Faults(x, l[:2])
		for _, f := range fewer {
			if f.Kind != route.Home && !slices.Contains(all, f) {
				t.Error("without the last stop:", x, l, f, all)
			}
		}
	}
}
