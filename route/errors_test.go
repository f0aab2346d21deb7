package route_test

import (
	"slices"
	"testing"

	"bigtop/api"
	"bigtop/route"
)

// args are what calls are made of; a defect spoils some of them.
type args struct {
	t        route.Tour
	from, to int
	town     int
	day      int
	season   []route.Stop
	fees     []int
	bound    int
	table    [][]int
	k        int
}

type defect struct {
	name  string
	want  api.Errno
	spoil func(*args)
}

func goodArgs() args {
	fees := []int{0, 1, 2, 3}
	bound, table, _ := route.Bound(tour(), fees)
	return args{
		t: tour(), from: 0, to: 1, town: 2, day: 3, season: season(stop(1, 1, 3), stop(2, 5, 6)),
		fees: fees, bound: bound, table: table, k: 1,
	}
}

func notValid(name string, spoil func(*args)) defect { return defect{name, api.ErrArg, spoil} }

func tourDefects() []defect {
	return []defect{
		notValid("no towns", func(a *args) { a.t.Towns = nil }),
		notValid("no days", func(a *args) { a.t.Days = 0 }),
		notValid("a leg too few", func(a *args) { a.t.Legs[2] = a.t.Legs[2][:1] }),
	}
}

func seasonDefects() []defect {
	return append(tourDefects(), defect{"too many stops", api.ErrLimit, func(a *args) {
		a.season = append(slices.Clone(a.season), make([]route.Stop, api.MaxStops+1-len(a.season))...)
	}})
}

func spoilStop(at int, s route.Stop) func(*args) {
	return func(a *args) {
		a.season = slices.Clone(a.season)
		a.season[at] = s
	}
}

func rightDefects() []defect {
	return append(seasonDefects(),
		defect{"a first stop that is wrong", api.ErrFail, spoilStop(0, stop(9, 1, 3))},
		defect{"a last stop that is late", api.ErrFail, spoilStop(1, stop(2, 8, 9))})
}

func feeDefects() []defect {
	return append(tourDefects(),
		notValid("no fees", func(a *args) { a.fees = nil }),
		notValid("a fee too few", func(a *args) { a.fees = a.fees[:3] }),
		notValid("a fee too many", func(a *args) { a.fees = []int{0, 1, 2, 3, 4} }),
		notValid("a fee for the winter quarters", func(a *args) { a.fees = []int{1, 1, 2, 3} }),
		notValid("a fee below 0", func(a *args) { a.fees = []int{0, -1, 2, 3} }),
		notValid("a fee too great", func(a *args) { a.fees = []int{0, 1, 2, api.MaxFee + 1} }),
		notValid("a very great fee", func(a *args) { a.fees = []int{0, 1, highest, 3} }),
		notValid("a very low fee", func(a *args) { a.fees = []int{0, 1, 2, lowest} }))
}

func setTo(name string, n int, set func(*args, int)) defect {
	return defect{name, api.ErrRange, func(a *args) { set(a, n) }}
}

// outside sets a number to some that are not from lo to hi.
func outside(name string, lo, hi int, set func(*args, int)) []defect {
	return []defect{setTo(name+" too low", lo-1, set), setTo(name+" too great", hi+1, set), setTo(name+" very low", lowest, set), setTo(name+" very great", highest, set)}
}

// call has run, and zero tells whether all results beside the error are zero values.
type call struct {
	name    string
	run     func(args) (zero bool, e api.Errno)
	defects []defect
}

func calls() []call {
	return []call{
		{"CheckTour", func(a args) (bool, api.Errno) { return true, route.CheckTour(a.t) }, tourDefects()},
		{"Lost", func(a args) (bool, api.Errno) {
			n, e := route.Lost(a.t, a.from, a.to)
			return n == 0, e
		}, slices.Concat(tourDefects(), outside("from", 0, 3, func(a *args, n int) { a.from = n }), outside("to", 0, 3, func(a *args, n int) { a.to = n }))},
		{"Day", func(a args) (bool, api.Errno) {
			n, e := route.Day(a.t, a.town, a.day)
			return n == 0, e
		}, slices.Concat(tourDefects(), outside("town", 1, 3, func(a *args, n int) { a.town = n }), outside("day", 0, 9, func(a *args, n int) { a.day = n }))},
		{"Faults", func(a args) (bool, api.Errno) {
			l, e := route.Faults(a.t, a.season)
			return len(l) == 0, e
		}, seasonDefects()},
		{"Profit", func(a args) (bool, api.Errno) {
			n, e := route.Profit(a.t, a.season)
			return n == 0, e
		}, rightDefects()},
		{"Best", func(a args) (bool, api.Errno) {
			l, n, e := route.Best(a.t)
			return len(l) == 0 && n == 0, e
		}, tourDefects()},
		{"Bound", func(a args) (bool, api.Errno) {
			n, table, e := route.Bound(a.t, a.fees)
			return n == 0 && len(table) == 0, e
		}, feeDefects()},
		{"Replace", func(a args) (bool, api.Errno) {
			l, n, e := route.Replace(a.t, a.season, a.k)
			return len(l) == 0 && n == 0, e
		}, append(slices.Concat(rightDefects(), outside("k", 0, 1, func(a *args, n int) { a.k = n })),
			defect{"no other way home", api.ErrNone, func(a *args) { a.t.Legs[1][0].Hours = api.MaxHours }})},
	}
}

// Rules R1 and R2, P6.1 to P6.6: each call gets each of its defects alone, and with all those that are examined later.
func TestErrors(t *testing.T) {
	for _, x := range calls() {
		if zero, e := x.run(goodArgs()); e != api.OK || zero && x.name != "CheckTour" && x.name != "Faults" {
			t.Error(x.name, "without defects:", zero, e)
		}
		for i, f := range x.defects {
			alone, late := goodArgs(), goodArgs()
			f.spoil(&alone)
			for k := len(x.defects) - 1; k >= i; k-- {
				if x.defects[k].want != f.want || k == i {
					x.defects[k].spoil(&late)
				}
			}
			for _, a := range []args{alone, late} {
				if zero, e := x.run(a); e != f.want || !zero {
					t.Error(x.name, f.name, e, zero)
				}
			}
		}
	}
}

// Rule R1: the tour is examined before the season, and both before the rest; the fees of a tour that is not valid are not asked.
func TestTourFirst(t *testing.T) {
	many, bad := make([]route.Stop, 99), tour()
	bad.Shift = 0
	for _, x := range []struct {
		name string
		t    route.Tour
		want api.Errno
	}{{"both", bad, api.ErrArg}, {"the season alone", tour(), api.ErrLimit}} {
		_, faults := route.Faults(x.t, many)
		_, profit := route.Profit(x.t, many)
		_, _, replace := route.Replace(x.t, many, -1)
		if faults != x.want || profit != x.want || replace != x.want {
			t.Error(x.name, faults, profit, replace)
		}
	}
	if _, _, e := route.Replace(tour(), season(stop(3, 0, 0)), 5); e != api.ErrFail {
		t.Error("a wrong season and no stop:", e)
	}
	if _, _, e := route.Bound(route.Tour{}, nil); e != api.ErrArg {
		t.Error("no tour:", e)
	}
}

// P6.1: from or to may be the winter quarters, a town for a day may not.
func TestQuarters(t *testing.T) {
	for town := range 4 {
		if _, e := route.Lost(tour(), 0, town); e != api.OK {
			t.Error("from there:", town, e)
		}
		if _, e := route.Lost(tour(), town, 0); e != api.OK {
			t.Error("back there:", town, e)
		}
	}
	for day := range 10 {
		if n, e := route.Day(tour(), 0, day); n != 0 || e != api.ErrRange {
			t.Error(day, n, e)
		}
	}
}

// Rule R4: no call changes an argument, and results are new memory.
func TestMemory(t *testing.T) {
	a, good := goodArgs(), goodArgs()
	spare := make([]route.Stop, 2, 6)
	copy(spare, a.season)
	a.season = spare
	fees := make([]int, 4, 8)
	copy(fees, a.fees)
	a.fees = fees
	best, _, _ := route.Best(a.t)
	_, table, _ := route.Bound(a.t, a.fees)
	_, again, _ := route.Bound(a.t, a.fees)
	other, _, _ := route.Replace(a.t, a.season, 1)
	first, _, _ := route.Replace(a.t, a.season, 0)
	route.Profit(a.t, a.season)
	route.ProveBound(a.t, a.fees, a.bound, a.table)
	faults, _ := route.Faults(a.t, append(a.season, stop(9, 9, 9)))
	spare[:3][2] = route.Stop{}
	best[0].Town, other[0].Town, first[0].Town, faults[0].Stop = 77, 77, 77, 77
	for i := range table {
		table[i][0] = 77
		table[i] = append(table[i], 78)
		table[i][len(table[i])-2] = 79
	}
	if table[1][0] != 77 || again[0][0] == 77 || !sameTable(again, good.table) {
		t.Error("results share memory:", table, again)
	}
	if !sameTour(a.t, good.t) || !slices.Equal(a.season, good.season) || !slices.Equal(a.fees, good.fees) || !sameTable(a.table, good.table) ||
		spare[:3][2] != (route.Stop{}) || fees[:5][4] != 0 {
		t.Error("an argument was changed:", a)
	}
}

// The same arguments give the same results.
func TestNoHiddenState(t *testing.T) {
	d := newDice(74)
	for range 200 {
		x, y := d.tour(d.from(1, 14), d.from(2, 6)), d.tour(d.from(1, 14), d.from(2, 6))
		l, profit, _ := route.Best(x)
		bound, table, _ := route.Bound(x, noFees(x))
		route.Best(y)
		route.Bound(y, noFees(y))
		route.Faults(y, season(stop(1, 0, 1)))
		if again, n, _ := route.Best(x); !slices.Equal(l, again) || n != profit {
			t.Error("Best:", x, l, again)
		}
		if n, again, _ := route.Bound(x, noFees(x)); !sameTable(table, again) || n != bound {
			t.Error("Bound:", x, table, again)
		}
	}
}

// P1: any arguments; a panic would end the test.
func TestAnyArguments(t *testing.T) {
	d := newDice(75)
	number := func() int {
		return []int{lowest, lowest + 1, -1 << 32, -60, -2, -1, 0, 1, 2, 3, 4, 9, 10, 11, 60, 61, 1000, api.MaxFee, api.MaxGold, 1 << 62, highest - 1, highest}[d.Intn(22)]
	}
	for range 5000 {
		a := goodArgs()
		for range d.from(0, 4) {
			d.spoil(&a, number)
		}
		callAll(a)
	}
	callAll(args{})
}

// spoil sets something to some number.
func (d dice) spoil(a *args, number func() int) {
	town := d.from(0, 3)
	switch d.Intn(13) {
	case 0:
		a.from, a.to, a.town = number(), number(), number()
	case 1:
		a.day, a.k, a.bound = number(), number(), number()
	case 2:
		a.season = append(slices.Clone(a.season[:d.Intn(len(a.season)+1)]), stop(d.from(-1, 4), number(), number()))
	case 3:
		a.season = append(slices.Clone(a.season), stop(number(), number(), number()))
	case 4:
		a.season = slices.Repeat(a.season, d.from(0, 12))
	case 5:
		a.fees = append(slices.Clone(a.fees[:d.Intn(len(a.fees)+1)]), number())
	case 6:
		a.table = append(copyTable(a.table[:d.Intn(len(a.table)+1)]), []int{number()})
	case 7:
		if town < len(a.table) && len(a.table[town]) > 0 {
			a.table[town][d.Intn(len(a.table[town]))] = number()
		}
	case 8:
		a.t.Days, a.t.Shift, a.t.Size = []int{10, number()}[d.Intn(2)], []int{8, number()}[d.Intn(2)], number()
	case 9:
		a.t.Towns[town].Open = append(a.t.Towns[town].Open, to(number(), number()))
		a.t.Towns[town].Rivals = append(a.t.Towns[town].Rivals, to(number(), number()))
	case 10:
		a.t.Towns[town].Stay = to(number(), number())
		a.t.Towns[town].Pay, a.t.Towns[town].Cold, a.t.Towns[town].Cut = number(), number(), number()
	case 11:
		if town < len(a.t.Legs) && town+1 < len(a.t.Legs[town]) {
			a.t.Legs[town][town+1] = route.Leg{Hours: number(), Cost: number()}
		}
	case 12:
		a.t.Legs = append(a.t.Legs[:d.Intn(len(a.t.Legs)+1)], []route.Leg{{Hours: number(), Cost: number()}})
	}
}

func callAll(a args) {
	route.CheckTour(a.t)
	route.Lost(a.t, a.from, a.to)
	route.Day(a.t, a.town, a.day)
	route.Faults(a.t, a.season)
	route.Profit(a.t, a.season)
	route.Best(a.t)
	route.Bound(a.t, a.fees)
	route.ProveBound(a.t, a.fees, a.bound, a.table)
	route.Replace(a.t, a.season, a.k)
}
