package route_test

import (
	"testing"

	"bigtop/api"
	"bigtop/route"
)

// checkBest asks for a right season with this profit.
func checkBest(t *testing.T, x route.Tour, want int) {
	t.Helper()
	l, profit, e := route.Best(x)
	if profit != want || e != api.OK {
		t.Error("best:", x, l, profit, want, e)
	}
	if len(faultsBy(x, l)) > 0 || profitBy(x, l) != want {
		t.Error("the season:", x, l, faultsBy(x, l), profitBy(x, l), want)
	}
}

// P6.3: the chapter's example.
func TestBestExample(t *testing.T) {
	checkBest(t, tour(), 440)
}

// P6.3: tours on which no town can be played, or none is worth it.
func TestNothingIsBest(t *testing.T) {
	for name, set := range map[string]func(*route.Tour){
		"small lots":            func(x *route.Tour) { x.Size = api.MaxLot },
		"legs that are too far": func(x *route.Tour) { x.Legs = sameLegs(4, route.Leg{Hours: 48}) },
		"no way home":           func(x *route.Tour) { x.Legs[1][0].Hours, x.Legs[2][0].Hours = 81, 81 },
		"legs that cost more":   func(x *route.Tour) { x.Legs = sameLegs(4, route.Leg{Cost: 240}) },
		"rents as high as pays": func(x *route.Tour) { x.Towns[1].Rent, x.Towns[2].Rent = 100, 150 },
		"licences too short": func(x *route.Tour) {
			x.Towns[1].Stay, x.Towns[1].Open, x.Towns[2].Open = to(3, 3), ranges(to(0, 1), to(2, 3)), ranges(to(9, 9))
		},
	} {
		x := tour()
		set(&x)
		if l, profit, e := route.Best(x); len(l) > 0 || profit != 0 || e != api.OK {
			t.Error(name, l, profit, e)
		}
	}
	x := plain(1, 2)
	x.Size = 1
	checkBest(t, x, 0)
}

// P6.3: one day, several best seasons, towns that are only on the way, and many towns.
func TestBests(t *testing.T) {
	checkBest(t, plain(1, 2), 10)
	checkBest(t, plain(1, 5), 10)
	checkBest(t, plain(2, 2), 20)
	checkBest(t, plain(5, 3), 40)
	checkBest(t, plain(6, api.MaxTowns), 60)
	checkBest(t, plain(api.MaxDays, api.MaxTowns), 160)
	// The way to 2 and back leads over 1, where a day costs more than it brings.
	x := plain(9, 3)
	x.Towns[1].Rent, x.Towns[2].Pay = 15, 100
	x.Legs[0][2].Hours = 200
	checkBest(t, x, 195)
	x.Legs[2][0].Cost = 194
	checkBest(t, x, 1)
	x.Legs[2][0].Cost = 195
	checkBest(t, x, 0)
	x.Legs[2][0] = route.Leg{Hours: 200}
	checkBest(t, x, 0)
	// A town is played once, though it is the best again later.
	x = plain(9, 3)
	x.Towns[1].Pay = 100
	checkBest(t, x, 220)
	x.Towns[1].Open = ranges(to(0, 1), to(5, 6))
	checkBest(t, x, 220)
}

// P6.3 and P6.8, by the definition: all right seasons are tried.
func TestBestOfAll(t *testing.T) {
	d := newDice(65)
	long := 0
	for range 4000 {
		x := d.tour(d.from(1, 9), d.from(2, 4))
		checkBest(t, x, bestBy(x))
		l, _, _ := route.Best(x)
		long += max(0, len(l)-1)
	}
	if long < 200 {
		t.Error("too few stops:", long)
	}
}

// P6.7 and P6.8: on the largest tours the best season is right, is not above bounds, and no change of one stop makes it better.
func TestLargeTours(t *testing.T) {
	d := newDice(66)
	for i := range 6 {
		x := largest()
		if i > 0 {
			x = d.tour(api.MaxDays, api.MaxTowns)
		}
		l, profit, e := route.Best(x)
		if e != api.OK || len(faultsBy(x, l)) > 0 || profitBy(x, l) != profit {
			t.Fatal(x, l, profit, e)
		}
		for k := range l {
			if other, more, e := route.Replace(x, l, k); e == api.OK && more > 0 {
				t.Error("better with another stop:", x, l, k, other, more)
			}
		}
		if bound, _, e := route.Bound(x, d.fees(x, 500)); bound < profit || e != api.OK {
			t.Error("bound:", x, bound, profit, e)
		}
	}
}

// P6.10: more days of licence, more pay, less rent, cost or size.
func TestMoreRoom(t *testing.T) {
	d := newDice(67)
	for range 1500 {
		x := d.tour(d.from(2, 14), d.from(2, 5))
		x.Size = d.from(0, 18)
		_, profit, _ := route.Best(x)
		more := copyTour(x)
		town := d.from(1, len(x.Towns)-1)
		at := &more.Towns[town]
		switch d.Intn(5) {
		case 0:
			at.Open[len(at.Open)-1].Hi++
		case 1:
			at.Pay += d.from(1, 50)
		case 2:
			at.Rent = max(0, at.Rent-d.from(1, 30))
		case 3:
			more.Legs[town][0].Cost /= 2
			more.Legs[0][town].Cost /= 2
		case 4:
			more.Size = max(0, more.Size-d.from(1, 5))
		}
		if route.CheckTour(more) != api.OK {
			continue
		}
		if _, n, e := route.Best(more); n < profit || e != api.OK {
			t.Error(x, more, profit, n, e)
		}
	}
}
