package route_test

import (
	"slices"
	"testing"

	"bigtop/api"
	"bigtop/route"
)

func checkReplace(t *testing.T, x route.Tour, l []route.Stop, k int, want []route.Stop, more int) {
	t.Helper()
	other, n, e := route.Replace(x, l, k)
	if !slices.Equal(other, want) || n != more || e != api.OK {
		t.Error(l, k, other, n, e)
	}
}

// P6.6: the chapter's example, and its other stop.
func TestReplaceExample(t *testing.T) {
	l := season(stop(1, 1, 3), stop(2, 5, 6))
	checkReplace(t, tour(), l, 1, season(stop(1, 1, 3)), -230)
	checkReplace(t, tour(), l, 0, season(stop(2, 5, 6)), -240)
}

// P6.6: replacements by none and by each other town, and which one of those that are as good.
func TestReplacements(t *testing.T) {
	x := plain(9, 5)
	l := season(stop(1, 0, 1), stop(2, 2, 3), stop(3, 6, 7))
	checkReplace(t, x, l, 1, season(stop(1, 0, 1), stop(4, 2, 3), stop(3, 6, 7)), 0)
	checkReplace(t, x, l, 0, season(stop(4, 0, 1), stop(2, 2, 3), stop(3, 6, 7)), 0)
	checkReplace(t, x, l, 2, season(stop(1, 0, 1), stop(2, 2, 3), stop(4, 4, 5)), 0)
	checkReplace(t, x, season(stop(3, 4, 4)), 0, season(stop(1, 0, 1)), 10)
	checkReplace(t, x, season(stop(1, 4, 4)), 0, season(stop(2, 0, 1)), 10)
	// As good as none: none. Of several the least town, then the least First, then the least Last.
	x.Towns[4].Rent = 10
	checkReplace(t, x, l, 1, season(stop(1, 0, 1), stop(3, 6, 7)), -20)
	x.Towns[4].Rent, x.Towns[4].Stay = 9, to(1, 1)
	checkReplace(t, x, l, 1, season(stop(1, 0, 1), stop(4, 2, 2), stop(3, 6, 7)), -19)
	x.Towns[4].Open, x.Towns[4].Stay = ranges(to(0, 2), to(4, 5)), to(2, 2)
	checkReplace(t, x, l, 1, season(stop(1, 0, 1), stop(4, 4, 5), stop(3, 6, 7)), -18)
	// The second day brings nothing: one day is as good.
	x.Towns[4] = route.Town{Open: ranges(to(3, 5)), Stay: to(1, 3), Pay: 10, Rent: 1, Rivals: ranges(to(0, 2), to(4, 9)), Cut: 900}
	checkReplace(t, x, l, 1, season(stop(1, 0, 1), stop(4, 3, 3), stop(3, 6, 7)), -11)
	for town, want := range map[int]route.Stop{1: stop(1, 0, 1), 2: stop(2, 0, 1), 3: stop(3, 0, 1)} {
		y := plain(9, 5)
		y.Towns[town].Pay = 11
		checkReplace(t, y, season(stop(4, 0, 1)), 0, season(want), 2)
	}
}

// P6.6: a season that is not right without the stop, with and without another one that fits.
func TestOnTheWay(t *testing.T) {
	x := plain(9, 4)
	x.Legs[0][2].Hours = 200
	l := season(stop(1, 0, 1), stop(2, 2, 3))
	checkReplace(t, x, l, 0, season(stop(3, 0, 1), stop(2, 2, 3)), 0)
	x.Towns[3].Rent = 500
	checkReplace(t, x, l, 0, season(stop(3, 0, 0), stop(2, 2, 3)), -510)
	x.Size = 0
	x.Towns[3].Open = ranges(to(2, 8))
	if other, more, e := route.Replace(x, l, 0); len(other) > 0 || more != 0 || e != api.ErrNone {
		t.Error(other, more, e)
	}
	// Without the last stop it is too far home.
	x = plain(9, 3)
	x.Legs[1][0].Hours = 200
	if other, more, e := route.Replace(x, l, 1); len(other) > 0 || more != 0 || e != api.ErrNone {
		t.Error(other, more, e)
	}
	checkReplace(t, x, l, 0, season(stop(2, 2, 3)), -20)
}

// P6.6: the way to another town counts from the stop before, which may be nearer than the winter quarters.
func TestNearer(t *testing.T) {
	x := plain(9, 4)
	x.Legs[0][3].Hours = 64
	l := season(stop(1, 0, 0), stop(2, 3, 3))
	checkReplace(t, x, l, 1, season(stop(1, 0, 0), stop(3, 1, 2)), 10)
	x.Legs[1][3].Hours = 24
	checkReplace(t, x, l, 1, season(stop(1, 0, 0), stop(3, 3, 4)), 10)
	x.Legs[0][3].Hours, x.Legs[1][3].Hours = 0, 80
	checkReplace(t, x, l, 1, season(stop(1, 0, 0)), -10)
}

// P6.6: a stop k that there is not.
func TestReplaceRange(t *testing.T) {
	l := season(stop(1, 1, 3), stop(2, 5, 6))
	for _, k := range []int{lowest, -1, 2, 3, highest} {
		if other, more, e := route.Replace(tour(), l, k); len(other) > 0 || more != 0 || e != api.ErrRange {
			t.Error(k, other, more, e)
		}
	}
	for _, k := range []int{-1, 0, 1} {
		if _, _, e := route.Replace(tour(), nil, k); e != api.ErrRange {
			t.Error("no stops:", k, e)
		}
	}
}

// P6.6 and P6.8, by the definition: no stop, and all stops, are tried.
func TestReplaceOfAll(t *testing.T) {
	d := newDice(73)
	tried, none := 0, 0
	for range 10000 {
		x := d.tour(d.from(2, 12), d.from(2, 6))
		l, _, _ := route.Best(x)
		if d.Intn(2) == 0 {
			l = season(d.stop(x), d.stop(x), d.stop(x))[:d.from(1, 3)]
			slices.SortFunc(l, func(a, b route.Stop) int { return a.First - b.First })
		}
		if len(faultsBy(x, l)) > 0 {
			continue
		}
		for k := range l {
			tried++
			want, found := replaceBy(x, l, k)
			other, more, e := route.Replace(x, l, k)
			if !found {
				none++
				if len(other) > 0 || more != 0 || e != api.ErrNone {
					t.Error("none:", x, l, k, other, more, e)
				}
				continue
			}
			if !slices.Equal(other, want) || more != profitBy(x, want)-profitBy(x, l) || e != api.OK {
				t.Error(x, l, k, other, want, more, e)
			}
		}
	}
	if tried < 4000 || none < 15 {
		t.Error("tried, none:", tried, none)
	}
}
