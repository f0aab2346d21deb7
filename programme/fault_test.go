package programme_test

import (
	"slices"
	"testing"

	"bigtop/api"
	"bigtop/programme"
)

// checkFault asks for this fault; 0 is none.
func checkFault(t *testing.T, s programme.Show, order []int, place int, why uint8) {
	t.Helper()
	want := api.OK
	if why == 0 {
		want = api.ErrNone
	}
	if p, w, e := programme.Fault(s, order); p != place || w != why || e != want {
		t.Error(s, order, p, w, e)
	}
}

// checkCost asks for this cost, or for ErrFail if it is -1.
func checkCost(t *testing.T, s programme.Show, order []int, want int) {
	t.Helper()
	wantError := api.OK
	if want == -1 {
		want, wantError = 0, api.ErrFail
	}
	if n, e := programme.Cost(s, order); n != want || e != wantError {
		t.Error(s, order, n, e)
	}
}

// P7.2: the chapter's examples, and other orders of its show.
func TestFaultExamples(t *testing.T) {
	checkFault(t, show(), list(0, 2, 1), 1, programme.NoRest)
	checkFault(t, show(), list(0, 1, 2), 0, 0)
	checkFault(t, show(), list(1, 0, 2), 2, programme.NoRest)
	checkCost(t, show(), list(0, 1, 2), 24)
	checkCost(t, show(), list(2, 1, 0), 34)
	checkCost(t, show(), list(0, 2, 1), -1)
	checkFault(t, plain(1), list(0), 0, 0)
	checkCost(t, plain(1), list(0), 0)
}

// P7.2: changes that are just Cover, and one more.
func TestLongChanges(t *testing.T) {
	acts := []uint16{1, 2, 4 + 2, 0}
	checkFault(t, rigged(4, acts...), list(0, 1, 2, 3), 0, 0)
	checkCost(t, rigged(4, acts...), list(0, 1, 2, 3), 8)
	checkFault(t, rigged(3, acts...), list(0, 1, 2, 3), 3, programme.LongChange)
	checkFault(t, rigged(3, acts...), list(3, 2, 1, 0), 0, 0)
	checkFault(t, rigged(2, acts...), list(0, 1, 2, 3), 1, programme.LongChange)
	checkFault(t, rigged(2, acts...), list(3, 2, 1, 0), 3, programme.LongChange)
	checkFault(t, rigged(1, acts...), list(3, 2, 1, 0), 1, programme.LongChange)
	checkFault(t, rigged(0, 5, 5, 5), list(2, 0, 1), 0, 0)
	// What the tension costs is not a part of the change.
	checkFault(t, tense(10, 100, 0), list(0, 1), 0, 0)
	checkCost(t, tense(10, 100, 0), list(0, 1), 1000)
	s := full()
	s.Before, s.Cover = nil, 0
	s.Rest = make([]int, 16)
	checkFault(t, s, list(7, 6, 5, 4, 3, 2, 1, 0), 0, 0)
	s.Acts[0].Rigs--
	s.In[0] = 0
	checkFault(t, s, list(7, 6, 5, 4, 3, 2, 1, 0), 7, programme.LongChange)
	checkFault(t, s, list(0, 7, 6, 5, 4, 3, 2, 1), 0, 0)
}

// P7.2: rests of 0, 1 and 2 one, two and three places back; second casts do not count.
func TestRests(t *testing.T) {
	for rest, want := range map[int][4]uint8{0: {}, 1: {1: programme.NoRest}, 2: {1: programme.NoRest, 2: programme.NoRest}} {
		for back := 1; back <= 3; back++ {
			l := make([]uint16, 5)
			l[1], l[1+back] = 1+4, 4+8
			s := played(list(0, 0, rest, 2), l...)
			place := 0
			if want[back] != 0 {
				place = 1 + back
			}
			checkFault(t, s, list(0, 1, 2, 3, 4), place, want[back])
		}
	}
	// At the first places where it can be.
	checkFault(t, played(list(1), 1, 1, 0), list(0, 1, 2), 1, programme.NoRest)
	checkFault(t, played(list(2), 1, 0, 1), list(0, 1, 2), 2, programme.NoRest)
	checkFault(t, played(list(1), 1, 0, 1), list(0, 1, 2), 0, 0)
	checkFault(t, played(list(2), 1, 1), list(1, 0), 1, programme.NoRest)
	// Two persons, of whom only the second one rests, and other persons in each act.
	checkFault(t, played(list(0, 1), 3, 3), list(0, 1), 1, programme.NoRest)
	checkFault(t, played(list(1, 1), 1, 2), list(0, 1), 0, 0)
	checkFault(t, played(list(1, 2), 3, 0, 1, 2), list(0, 1, 2, 3), 0, 0)
	checkFault(t, played(list(1, 2), 3, 0, 2, 1), list(0, 1, 2, 3), 2, programme.NoRest)
	s := played(list(2, 2), 1, 2)
	s.Acts[0].Casts, s.Acts[1].Casts = casts(1, 2, 3), casts(2, 1, 3)
	checkFault(t, s, list(0, 1), 0, 0)
	rest := make([]int, 16)
	rest[15] = 1
	checkFault(t, played(rest, 1<<15, 1<<15+1), list(0, 1), 1, programme.NoRest)
}

// P7.2: pairs at all places.
func TestEarlyActs(t *testing.T) {
	s := withPairs(plain(4), [2]int{2, 1})
	checkFault(t, s, list(1, 0, 2, 3), 0, programme.TooEarly)
	checkFault(t, s, list(0, 1, 2, 3), 1, programme.TooEarly)
	checkFault(t, s, list(0, 3, 1, 2), 2, programme.TooEarly)
	checkFault(t, s, list(2, 1, 0, 3), 0, 0)
	checkFault(t, s, list(2, 0, 3, 1), 0, 0)
	checkFault(t, s, list(0, 3, 2, 1), 0, 0)
	s = withPairs(plain(4), [2]int{2, 1}, [2]int{0, 3}, [2]int{3, 1})
	checkFault(t, s, list(2, 1, 0, 3), 1, programme.TooEarly)
	checkFault(t, s, list(2, 3, 0, 1), 1, programme.TooEarly)
	checkFault(t, s, list(2, 0, 3, 1), 0, 0)
	checkFault(t, s, list(0, 3, 1, 2), 2, programme.TooEarly)
	s = withPairs(plain(3), [2]int{0, 1}, [2]int{1, 2}, [2]int{2, 0})
	for order := range orders(3) {
		checkFault(t, s, order, 0, programme.TooEarly)
	}
	checkFault(t, withPairs(plain(2), [2]int{0, 1}, [2]int{0, 1}), list(0, 1), 0, 0)
}

// P7.2: two and three faults at one place, and faults of several places.
func TestSeveralFaults(t *testing.T) {
	s := rigged(2, 1, 2, 0)
	checkFault(t, s, list(0, 1, 2), 1, programme.LongChange)
	s.Rest, s.Acts[0].Casts, s.Acts[1].Casts = list(1), casts(1), casts(1)
	checkFault(t, s, list(0, 1, 2), 1, programme.LongChange)
	s.Before = pairs([2]int{2, 1})
	checkFault(t, s, list(0, 1, 2), 1, programme.LongChange)
	s.Cover = 3
	checkFault(t, s, list(0, 1, 2), 1, programme.NoRest)
	s.Rest[0] = 0
	checkFault(t, s, list(0, 1, 2), 1, programme.TooEarly)
	s.Cover = 2
	checkFault(t, s, list(0, 1, 2), 1, programme.LongChange)
	// A greater kind of fault at a place before.
	checkFault(t, s, list(1, 0, 2), 0, programme.TooEarly)
	s.Rest[0], s.Before = 2, nil
	s.Acts[1].Casts, s.Acts[2].Casts = casts(0), casts(1)
	checkFault(t, s, list(0, 1, 2), 1, programme.LongChange)
	checkFault(t, s, list(0, 2, 1), 1, programme.NoRest)
	checkFault(t, s, list(2, 1, 0), 2, programme.LongChange)
	s.Cover = 3
	checkFault(t, s, list(2, 1, 0), 2, programme.NoRest)
}

// P7.2, P7.3 and the rule R1: what is no order.
func TestNoOrders(t *testing.T) {
	for _, order := range [][]int{
		nil, list(), list(0), list(0, 1), list(1, 0), list(0, 1, 2, 0), list(0, 1, 2, 3), list(0, 0, 0), list(0, 1, 1), list(2, 1, 2), list(1, 2, 3), list(-1, 0, 1),
		list(0, 1, 64), list(0, 1, 66), list(0, 1, -62), list(0, 1, highest), list(lowest, 1, 2), list(0, 1, 2, 0, 1, 2), list(3, 3, 3),
	} {
		if place, why, e := programme.Fault(show(), order); place != 0 || why != 0 || e != api.ErrRange {
			t.Error("Fault:", order, place, why, e)
		}
		if n, e := programme.Cost(show(), order); n != 0 || e != api.ErrRange {
			t.Error("Cost:", order, n, e)
		}
		if starts, end, e := programme.Sheet(show(), order); len(starts) > 0 || end != 0 || e != api.ErrRange {
			t.Error("Sheet:", order, starts, end, e)
		}
		if programme.ProveBest(show(), order, 24, greatestTable(show(), 0)) {
			t.Error("ProveBest:", order)
		}
	}
}

// P7.2, by the definition: all orders of many shows.
func TestFaultsOfAll(t *testing.T) {
	d := newDice(72)
	seen := map[[2]int]int{}
	for range 1500 {
		s := d.show(d.from(1, 5))
		for order := range orders(len(s.Acts)) {
			place, why := faultBy(s, order)
			seen[[2]int{place, int(why)}]++
			checkFault(t, s, order, place, why)
			if want := costBy(s, order); why == 0 {
				checkCost(t, s, order, want)
			} else {
				checkCost(t, s, order, -1)
			}
		}
	}
	for _, x := range [][2]int{{0, 0}, {1, 1}, {4, 1}, {1, 2}, {2, 2}, {4, 2}, {0, 3}, {1, 3}, {3, 3}} {
		if seen[x] < 20 {
			t.Error("too few faults:", x, seen)
		}
	}
}

// keepsAll reports what is promised of a programme, place against place.
func keepsAll(s programme.Show, order []int) bool {
	at := make([]int, len(order))
	for place, act := range order {
		at[act] = place
	}
	for a := range order {
		for b := range order {
			for person, rest := range s.Rest {
				if at[a] < at[b] && isIn(person, s.Acts[a].Casts[0]&s.Acts[b].Casts[0]) && at[b]-at[a]-1 < rest {
					return false
				}
			}
			if minutes, _ := changeBy(s, a, b); at[b] == at[a]+1 && minutes > s.Cover {
				return false
			}
		}
	}
	return !slices.ContainsFunc(s.Before, func(p [2]int) bool { return at[p[0]] > at[p[1]] })
}

// P7.7 and P3: an order has no fault only if all persons rest, no change is too long and all pairs are kept.
func TestRest(t *testing.T) {
	d := newDice(77)
	kept, broken := 0, 0
	for range 1500 {
		s := d.show(d.from(1, 5))
		for order := range orders(len(s.Acts)) {
			_, _, e := programme.Fault(s, order)
			if keepsAll(s, order) != (e == api.ErrNone) {
				t.Error(s, order, e)
			}
			if e == api.OK {
				broken++
			} else {
				kept++
			}
		}
	}
	if kept < 2000 || broken < 2000 {
		t.Error("kept, broken:", kept, broken)
	}
}
