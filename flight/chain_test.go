package flight_test

import (
	"slices"
	"testing"

	"bigtop/api"
	"bigtop/flight"
)

func act(l ...flight.Flight) []flight.Flight { return l }

// P4.6: chains of one flight and of MaxTricks flights, and what comes between them.
func TestChain(t *testing.T) {
	late := func(most int) flight.Flight { return lasting(beat(".....xxx.."), most) }
	none := make([]flight.Window, 0)
	for _, x := range []struct {
		name       string
		act        []flight.Flight
		need, rest int
		want       []flight.Window
		at         int
	}{
		{"one", act(drop()), 1, 0, []flight.Window{win(0, 0)}, 0},
		{"one, as wide as can be", act(drop()), api.MaxRow, 0, []flight.Window{win(0, api.MaxRow-1)}, 0},
		{"one, late", act(late(0)), 3, 0, []flight.Window{win(5, 7)}, 0},
		{"one, too narrow", act(late(0)), 4, 0, none, 0},
		{"one, narrower than its window", act(late(0)), 2, 0, []flight.Window{win(5, 6)}, 0},
		{"behind a window that is too narrow", act(beat("xx.xxx")), 4, 0, []flight.Window{win(3, 6)}, 0},
		{"the rest does not count for the first one", act(drop()), 1, api.MaxRest, []flight.Window{win(0, 0)}, 0},
		{"two at once", act(drop(), drop()), 1, 0, []flight.Window{win(0, 0), win(0, 0)}, 0},
		{"two from the last tick of the first one on", act(drop(), drop()), 3, 0, []flight.Window{win(0, 2), win(2, 4)}, 0},
		{"two with a rest", act(drop(), drop()), 3, 7, []flight.Window{win(0, 2), win(9, 11)}, 0},
		{"two with a flight", act(lasting(drop(), 40), drop()), 3, 0, []flight.Window{win(0, 2), win(42, 44)}, 0},
		{"the flight of the second one does not count", act(drop(), lasting(drop(), 40)), 3, 0, []flight.Window{win(0, 2), win(2, 4)}, 0},
		{"two with a flight and a rest, late", act(late(4), late(4)), 2, 4, []flight.Window{win(5, 6), win(15, 16)}, 0},
		{"just begun", act(late(4), late(4)), 2, 5, []flight.Window{win(5, 6), win(15, 16)}, 0},
		{"begun already", act(late(4), late(4)), 2, 6, []flight.Window{win(5, 6), win(16, 17)}, 0},
		{"too few are left of it", act(late(4), late(4)), 2, 7, []flight.Window{win(5, 6), win(25, 26)}, 0},
		{"the second one has none", act(drop(), late(0)), 4, 0, none, 1},
		{"the first one of two has none", act(late(0), late(0)), 4, 0, none, 0},
		{"the third one has none", act(drop(), drop(), beat("."), drop()), 1, 0, none, 2},
	} {
		l, at, e := flight.Chain(x.act, x.need, x.rest)
		want := api.OK
		if len(x.want) == 0 {
			want = api.ErrNone
		}
		if !slices.Equal(l, x.want) || at != x.at || e != want {
			t.Error(x.name, l, at, e)
		}
	}
	l, at, e := flight.Chain(slices.Repeat(act(lasting(drop(), 9)), api.MaxTricks), 2, 1)
	for i, w := range l {
		if w != win(11*i, 11*i+1) {
			t.Error("of many:", i, w)
		}
	}
	if len(l) != api.MaxTricks || at != 0 || e != api.OK {
		t.Error("many:", l, at, e)
	}
}

// P4.6: a window that just ends at MaxTick, and one that would end behind it.
func TestChainAtTheEnd(t *testing.T) {
	// Six flights of 200 ticks each, with a rest of 1000 after five of them, which begin at 0, 1200, .. 6000.
	long := slices.Repeat(act(lasting(drop(), 200)), 6)
	l, at, e := flight.Chain(long, 1, api.MaxRest)
	if len(l) != 6 || at != 0 || e != api.OK || l[5] != win(api.MaxTick, api.MaxTick) {
		t.Error("just at the end:", l, at, e)
	}
	long[2].Most++
	if l, at, e := flight.Chain(long, 1, api.MaxRest); len(l) > 0 || at != 5 || e != api.ErrNone {
		t.Error("behind the end:", l, at, e)
	}
	// Hands that are there at the first tick and at the last one of a long cycle.
	rare := beat("x")
	away := slices.Repeat([]flight.Box{spot(1, 0)}, api.MaxCycle-2)
	rare.Catcher.Cycle = slices.Concat(rare.Catcher.Cycle, away, rare.Catcher.Cycle)
	ten := slices.Repeat(act(lasting(rare, 99)), 10)
	if l, at, e := flight.Chain(ten, 2, 500); len(l) != 10 || at != 0 || e != api.OK || l[0] != win(599, 600) || l[9] != win(5999, 6000) {
		t.Error("of a long cycle:", l, at, e)
	}
	if l, at, e := flight.Chain(append(ten, rare), 2, 500); len(l) > 0 || at != 10 || e != api.ErrNone {
		t.Error("of a long cycle, one more:", l, at, e)
	}
	// Windows of 100, each 899 and a flight before the next one: the last begins at 5901.
	wide := slices.Repeat(act(lasting(drop(), 300)), 6)
	wide[4].Most = 206
	if l, at, e := flight.Chain(wide, api.MaxRow, 800); len(l) != 6 || at != 0 || e != api.OK || l[5] != win(5901, api.MaxTick) {
		t.Error("wide:", l, at, e)
	}
	wide[4].Most++
	if l, at, e := flight.Chain(wide, api.MaxRow, 800); len(l) > 0 || at != 5 || e != api.ErrNone {
		t.Error("too wide:", l, at, e)
	}
}

// earliest is the first window of so many good releases, from a tick on.
func earliest(f flight.Flight, begin, need int) (w flight.Window, found bool) {
	for first := begin; first+need-1 <= api.MaxTick && first < begin+200; first++ {
		all := true
		for r := first; r < first+need && all; r++ {
			all = isGood(f, r)
		}
		if all {
			return win(first, first+need-1), true
		}
	}
	return flight.Window{}, false
}

// P4.6 and P4.12, by the definition of a chain: hands of few boxes have a window at once or never.
func TestChainByDefinition(t *testing.T) {
	d := newDice(31)
	chained := 0
	for range 300 {
		var l []flight.Flight
		for range d.from(1, 4) {
			l = append(l, d.flight())
		}
		need, rest := d.from(1, 3), d.from(0, 20)
		var want []flight.Window
		begin, at, none := 0, 0, api.OK
		for i, f := range l {
			w, found := earliest(f, begin, need)
			if !found {
				want, at, none = nil, i, api.ErrNone
				break
			}
			want = append(want, w)
			begin = w.Last + f.Most + rest
		}
		got, k, e := flight.Chain(l, need, rest)
		if !slices.Equal(got, want) || k != at || e != none {
			t.Error("Chain:", l, need, rest, got, k, e, want, at)
		}
		chained += len(got)
		checkChain(t, l, got, rest)
	}
	if chained < 100 {
		t.Error("hardly any chains:", chained)
	}
}

// checkChain asks whether each release is caught, with the rest after it, before the next window begins.
func checkChain(t *testing.T, act []flight.Flight, l []flight.Window, rest int) {
	t.Helper()
	for i, w := range l {
		for r := w.First; r <= w.Last; r++ {
			sure := catches(t, act[i], r)
			if len(sure) == 0 {
				t.Error("not good:", act[i], w, r)
			} else if i+1 < len(l) && sure[len(sure)-1]+rest > l[i+1].First {
				t.Error("too early:", act, l, i, r)
			}
		}
	}
}
