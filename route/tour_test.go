package route_test

import (
	"slices"
	"testing"

	"bigtop/api"
	"bigtop/route"
)

// P6.1: the limits of each number of a tour.
func TestTourNumbers(t *testing.T) {
	checkNumbers(t, func() route.Tour { return plain(1, 3) }, route.CheckTour, []number[route.Tour]{
		{"Shift", func(x *route.Tour, n int) { x.Shift = n }, 1, api.MaxShift},
		{"Size", func(x *route.Tour, n int) { x.Size = n }, 0, api.MaxLot},
		{"Stay.Lo", func(x *route.Tour, n int) { x.Towns[1].Stay = to(n, api.MaxStay) }, 1, api.MaxStay},
		{"Stay.Hi", func(x *route.Tour, n int) { x.Towns[2].Stay = to(1, n) }, 1, api.MaxStay},
		{"Stay turned round", func(x *route.Tour, n int) { x.Towns[2].Stay = to(5, n) }, 5, api.MaxStay},
		{"Pay", func(x *route.Tour, n int) { x.Towns[1].Pay = n }, 0, api.MaxCoins},
		{"Lot", func(x *route.Tour, n int) { x.Towns[2].Lot = n }, 0, api.MaxLot},
		{"Rent", func(x *route.Tour, n int) { x.Towns[1].Rent = n }, 0, api.MaxCoins},
		{"Cold", func(x *route.Tour, n int) { x.Towns[2].Cold = n }, 0, api.MaxDays},
		{"Cut", func(x *route.Tour, n int) { x.Towns[1].Cut = n }, 0, 1000},
		{"a rival's Lo", func(x *route.Tour, n int) { x.Towns[1].Rivals = ranges(to(0, 0), to(n, api.MaxDays)) }, -api.MaxDays, api.MaxDays},
		{"a rival's Hi", func(x *route.Tour, n int) { x.Towns[1].Rivals = ranges(to(-api.MaxDays, n), to(0, 0)) }, -api.MaxDays, api.MaxDays},
		{"a rival turned round", func(x *route.Tour, n int) { x.Towns[2].Rivals = ranges(to(-3, n)) }, -3, api.MaxDays},
		{"Hours", func(x *route.Tour, n int) { x.Legs[0][2].Hours = n }, 0, api.MaxHours},
		{"Cost", func(x *route.Tour, n int) { x.Legs[2][1].Cost = n }, 0, api.MaxCoins},
		{"Hours to itself", func(x *route.Tour, n int) { x.Legs[2][2].Hours = n }, 0, 0},
		{"Cost to itself", func(x *route.Tour, n int) { x.Legs[0][0].Cost = n }, 0, 0},
		{"Stay.Lo of the winter quarters", func(x *route.Tour, n int) { x.Towns[0].Stay.Lo = n }, 0, 0},
		{"Stay.Hi of the winter quarters", func(x *route.Tour, n int) { x.Towns[0].Stay.Hi = n }, 0, 0},
		{"Pay of the winter quarters", func(x *route.Tour, n int) { x.Towns[0].Pay = n }, 0, 0},
		{"Lot of the winter quarters", func(x *route.Tour, n int) { x.Towns[0].Lot = n }, 0, 0},
		{"Rent of the winter quarters", func(x *route.Tour, n int) { x.Towns[0].Rent = n }, 0, 0},
		{"Cold of the winter quarters", func(x *route.Tour, n int) { x.Towns[0].Cold = n }, 0, 0},
		{"Cut of the winter quarters", func(x *route.Tour, n int) { x.Towns[0].Cut = n }, 0, 0},
	})
	checkNumbers(t, func() route.Tour { return plain(20, 2) }, route.CheckTour, []number[route.Tour]{
		{"Open's Lo", func(x *route.Tour, n int) { x.Towns[1].Open = ranges(to(n, 19)) }, 0, 19},
		{"Open's Hi", func(x *route.Tour, n int) { x.Towns[1].Open = ranges(to(0, n)) }, 0, 19},
		{"Open turned round", func(x *route.Tour, n int) { x.Towns[1].Open = ranges(to(7, n)) }, 7, 19},
		{"the Lo of a later Open", func(x *route.Tour, n int) { x.Towns[1].Open = ranges(to(0, 0), to(2, 5), to(n, 19)) }, 6, 19},
	})
}

// P6.1: how many days, towns, legs, licences and rivals there may be.
func TestTourSizes(t *testing.T) {
	for n, want := range map[int]api.Errno{lowest: api.ErrArg, -1: api.ErrArg, 0: api.ErrArg, 1: api.OK, api.MaxDays: api.OK, api.MaxDays + 1: api.ErrArg, highest: api.ErrArg} {
		x := plain(1, 2)
		x.Days = n
		if e := route.CheckTour(x); e != want {
			t.Error("days:", n, e)
		}
	}
	for n, want := range map[int]api.Errno{1: api.ErrArg, 2: api.OK, api.MaxTowns: api.OK, api.MaxTowns + 1: api.ErrArg, 500: api.ErrArg} {
		if e := route.CheckTour(plain(5, n)); e != want {
			t.Error("towns:", n, e)
		}
	}
	for _, towns := range [][]route.Town{nil, {}, slices.Repeat([]route.Town{{}}, 2)} {
		x := plain(5, 2)
		x.Towns, x.Legs = towns, sameLegs(len(towns), route.Leg{})
		if e := route.CheckTour(x); e != api.ErrArg {
			t.Error("towns:", towns, e)
		}
	}
	for n, want := range map[int]api.Errno{0: api.ErrArg, 1: api.OK, api.MaxOpen: api.OK, api.MaxOpen + 1: api.ErrArg} {
		x, open := plain(20, 3), []route.Range(nil)
		for i := range n {
			open = append(open, to(i, i))
		}
		x.Towns[2].Open = open
		if e := route.CheckTour(x); e != want {
			t.Error("licences:", n, e)
		}
	}
	for n, want := range map[int]api.Errno{0: api.OK, api.MaxRivals: api.OK, api.MaxRivals + 1: api.ErrArg} {
		x := plain(5, 3)
		x.Towns[1].Rivals = slices.Repeat(ranges(to(1, 2)), n)
		if e := route.CheckTour(x); e != want {
			t.Error("rivals:", n, e)
		}
	}
}

// P6.1: lists of the wrong length, in the wrong order, or where there should be none.
func TestTourLists(t *testing.T) {
	for _, x := range []struct {
		name string
		want api.Errno
		set  func(*route.Tour)
	}{
		{"the chapter's tour", api.OK, func(x *route.Tour) {}},
		{"empty lists of the winter quarters", api.OK, func(x *route.Tour) { x.Towns[0].Open, x.Towns[0].Rivals = ranges(), ranges() }},
		{"a licence of the winter quarters", api.ErrArg, func(x *route.Tour) { x.Towns[0].Open = ranges(to(0, 0)) }},
		{"a rival of the winter quarters", api.ErrArg, func(x *route.Tour) { x.Towns[0].Rivals = ranges(to(0, 0)) }},
		{"no legs", api.ErrArg, func(x *route.Tour) { x.Legs = nil }},
		{"a row of legs too few", api.ErrArg, func(x *route.Tour) { x.Legs = x.Legs[:3] }},
		{"a row of legs too many", api.ErrArg, func(x *route.Tour) { x.Legs = append(x.Legs, make([]route.Leg, 4)) }},
		{"an empty row of legs too many", api.ErrArg, func(x *route.Tour) { x.Legs = append(x.Legs, nil) }},
		{"a leg too few", api.ErrArg, func(x *route.Tour) { x.Legs[1] = x.Legs[1][:3] }},
		{"a leg too many", api.ErrArg, func(x *route.Tour) { x.Legs[3] = append(x.Legs[3], route.Leg{}) }},
		{"no legs from a town", api.ErrArg, func(x *route.Tour) { x.Legs[2] = nil }},
		{"a last leg that is not valid", api.ErrArg, func(x *route.Tour) { x.Legs[3][2].Hours = -1 }},
		{"licences that touch", api.OK, func(x *route.Tour) { x.Towns[1].Open = ranges(to(0, 2), to(3, 5)) }},
		{"licences that overlap", api.ErrArg, func(x *route.Tour) { x.Towns[1].Open = ranges(to(0, 3), to(3, 5)) }},
		{"licences that are not in order", api.ErrArg, func(x *route.Tour) { x.Towns[3].Open = ranges(to(4, 5), to(0, 2)) }},
		{"the same licence twice", api.ErrArg, func(x *route.Tour) { x.Towns[3].Open = ranges(to(1, 1), to(1, 1)) }},
		{"rivals that overlap, not in order", api.OK, func(x *route.Tour) { x.Towns[1].Rivals = ranges(to(4, 9), to(0, 5), to(0, 5)) }},
		{"a first town that is not valid", api.ErrArg, func(x *route.Tour) { x.Towns[1].Pay = -1 }},
		{"a last town that is not valid", api.ErrArg, func(x *route.Tour) { x.Towns[3].Open = nil }},
	} {
		a := tour()
		x.set(&a)
		if e := route.CheckTour(a); e != x.want {
			t.Error(x.name, e)
		}
	}
}

// P6.1: hours of just some nights, one more, and one less.
func TestLost(t *testing.T) {
	for hours, want := range map[int]int{0: 0, 1: 0, 7: 0, 8: 0, 9: 1, 16: 1, 17: 2, 24: 2, 25: 3, api.MaxHours: 24} {
		x := tour()
		x.Legs[2][3].Hours = hours
		if n, e := route.Lost(x, 2, 3); n != want || e != api.OK {
			t.Error(hours, n, e)
		}
	}
	for town := range 4 {
		if n, e := route.Lost(tour(), town, town); n != 0 || e != api.OK {
			t.Error("to itself:", town, n, e)
		}
	}
	x := tour()
	x.Shift, x.Legs[0][1].Hours, x.Legs[1][0].Hours = 1, api.MaxHours, 2
	there, _ := route.Lost(x, 0, 1)
	back, _ := route.Lost(x, 1, 0)
	if there != api.MaxHours-1 || back != 1 {
		t.Error("there and back:", there, back)
	}
}

// P6.1: which days a rival spoils, and what is left of the pay.
func TestDay(t *testing.T) {
	for _, x := range []struct {
		rivals         []route.Range
		pay, cold, cut int
		want           [10]int
	}{
		{nil, 150, 9, 400, [10]int{150, 150, 150, 150, 150, 150, 150, 150, 150, 150}},
		{ranges(to(3, 3)), 150, 1, 400, [10]int{150, 150, 150, 90, 90, 150, 150, 150, 150, 150}},
		{ranges(to(3, 4)), 150, 0, 400, [10]int{150, 150, 150, 90, 90, 150, 150, 150, 150, 150}},
		{ranges(to(-5, -3)), 100, 3, 500, [10]int{50, 100, 100, 100, 100, 100, 100, 100, 100, 100}},
		{ranges(to(-5, -3)), 100, 2, 500, [10]int{100, 100, 100, 100, 100, 100, 100, 100, 100, 100}},
		{ranges(to(7, 7)), 100, api.MaxDays, 500, [10]int{100, 100, 100, 100, 100, 100, 100, 50, 50, 50}},
		{ranges(to(8, 20), to(-3, 0)), 100, 1, 1000, [10]int{0, 0, 100, 100, 100, 100, 100, 100, 0, 0}},
		{ranges(to(2, 5), to(4, 6), to(4, 4)), 100, 0, 500, [10]int{100, 100, 50, 50, 50, 50, 50, 100, 100, 100}},
		{ranges(to(0, 9)), 1001, 0, 1, [10]int{999, 999, 999, 999, 999, 999, 999, 999, 999, 999}},
		{ranges(to(1, 9)), 7, 0, 0, [10]int{7, 7, 7, 7, 7, 7, 7, 7, 7, 7}},
		{ranges(to(9, 9)), 999, 0, 999, [10]int{999, 999, 999, 999, 999, 999, 999, 999, 999, 0}},
		{ranges(to(9, 9)), api.MaxCoins, 0, 333, [10]int{1000000, 1000000, 1000000, 1000000, 1000000, 1000000, 1000000, 1000000, 1000000, 667000}},
	} {
		a := tour()
		a.Towns[2].Rivals, a.Towns[2].Pay, a.Towns[2].Cold, a.Towns[2].Cut = x.rivals, x.pay, x.cold, x.cut
		for day, want := range x.want {
			if n, e := route.Day(a, 2, day); n != want || e != api.OK {
				t.Error(x, day, n, e)
			}
		}
	}
}

// P6.1, by its definitions.
func TestLostAndDay(t *testing.T) {
	d := newDice(61)
	for range 300 {
		x := d.tour(d.from(1, 12), d.from(2, 5))
		for town := range x.Towns {
			for other := range x.Towns {
				if n, e := route.Lost(x, town, other); n != lostBy(x, town, other) || e != api.OK {
					t.Error("Lost:", x, town, other, n, e)
				}
			}
			for day := range x.Days {
				if n, e := route.Day(x, town, day); town > 0 && (n != dayBy(x, town, day) || e != api.OK) {
					t.Error("Day:", x, town, day, n, e)
				}
			}
		}
	}
}

// P6.11: a rival does not make a day bring more, and none with Cut 0 makes a difference.
func TestRivals(t *testing.T) {
	d := newDice(62)
	for range 300 {
		x := d.tour(d.from(1, 12), 3)
		alone, uncut := copyTour(x), copyTour(x)
		alone.Towns[1].Rivals = alone.Towns[1].Rivals[:len(alone.Towns[1].Rivals)/2]
		uncut.Towns[1].Cut = 0
		for day := range x.Days {
			n, _ := route.Day(x, 1, day)
			fewer, _ := route.Day(alone, 1, day)
			full, _ := route.Day(uncut, 1, day)
			if n > fewer || full != x.Towns[1].Pay {
				t.Error(x, day, n, fewer, full)
			}
		}
		_, profit, _ := route.Best(x)
		_, fewer, _ := route.Best(alone)
		if profit > fewer {
			t.Error("Best:", x, profit, fewer)
		}
	}
}
