package gale_test

import (
	"slices"
	"testing"

	"bigtop/api"
	"bigtop/gale"
)

// P2.4
func TestCheckHallNumbers(t *testing.T) {
	checkNumbers(t, ring, gale.CheckHall, []number[gale.Hall]{
		{"people outside", func(h *gale.Hall, n int) { h.People[0] = n }, 0, 0},
		{"people", func(h *gale.Hall, n int) { h.People[2] = n }, 0, api.MaxPeople},
		{"from", func(h *gale.Hall, n int) { h.Ways[0].From = n }, 1, 2},
		{"to", func(h *gale.Hall, n int) { h.Ways[1].To = n }, 0, 1},
		{"cap", func(h *gale.Hall, n int) { h.Ways[1].Cap = n }, 0, api.MaxCap},
		{"minutes", func(h *gale.Hall, n int) { h.Ways[1].Minutes = n }, 1, api.MaxWalk},
	})
}

// P2.4
func TestCheckHallShapes(t *testing.T) {
	ways := func(n int) []gale.Way { return slices.Repeat([]gale.Way{way(1, 0, 1, 1)}, n) }
	for _, x := range []struct {
		name string
		h    gale.Hall
		want api.Errno
	}{
		{"the chapter's", ring(), api.OK},
		{"nothing", gale.Hall{}, api.ErrArg},
		{"no spots", hall([]int{}), api.ErrArg},
		{"the outside alone", hall([]int{0}), api.ErrArg},
		{"two spots", hall([]int{0, 5}), api.OK},
		{"as many spots as there may be", hall(make([]int, api.MaxSpots)), api.OK},
		{"one spot more", hall(make([]int, api.MaxSpots+1)), api.ErrArg},
		{"no ways", hall([]int{0, 5}, ways(0)...), api.OK},
		{"as many ways as there may be", hall([]int{0, 5}, ways(api.MaxWays)...), api.OK},
		{"one way more", hall([]int{0, 5}, ways(api.MaxWays+1)...), api.ErrArg},
		{"from the last spot to the last but one", hall(make([]int, 10), way(9, 8, 1, 1)), api.OK},
		{"to the last spot", hall(make([]int, 10), way(8, 9, 1, 1)), api.OK},
		{"to a spot beyond the last one", hall(make([]int, 10), way(8, 10, 1, 1)), api.ErrArg},
		{"from a spot beyond the last one", hall(make([]int, 10), way(10, 8, 1, 1)), api.ErrArg},
		{"from outside to inside", hall([]int{0, 5}, way(0, 1, 1, 1)), api.ErrArg},
		{"to where it begins", hall([]int{0, 5, 5}, way(2, 2, 1, 1)), api.ErrArg},
		{"there and back", hall([]int{0, 5, 5}, way(1, 2, 1, 1), way(2, 1, 1, 1)), api.OK},
		{"a bad last way", hall([]int{0, 5}, way(1, 0, 1, 1), way(1, 0, -1, 1)), api.ErrArg},
	} {
		if e := gale.CheckHall(x.h); e != x.want {
			t.Error(x.name, e)
		}
	}
}

// P2.4, P2.5 and P2.10: one minute less is too short.
func TestLeave(t *testing.T) {
	full := slices.Repeat([]int{api.MaxPeople}, api.MaxSpots)
	full[0] = 0
	for _, x := range []struct {
		name    string
		h       gale.Hall
		minutes int
		e       api.Errno
	}{
		{"the chapter's", ring(), 7, api.OK},
		{"without people", hall([]int{0, 0, 0}, way(1, 0, 5, 1), way(2, 1, 5, 1)), 0, api.OK},
		{"without people or ways", hall([]int{0, 0}), 0, api.OK},
		{"without ways", hall([]int{0, 1}), 0, api.ErrNone},
		{"a way that is shut", hall([]int{0, 1}, way(1, 0, 0, 1)), 0, api.ErrNone},
		{"one of two ways is shut", hall([]int{0, 4}, way(1, 0, 0, 1), way(1, 0, 2, 3)), 4, api.OK},
		{"no way outside", hall([]int{0, 1, 1}, way(1, 2, 5, 1), way(2, 1, 5, 1)), 0, api.ErrNone},
		{"a spot without a way", hall([]int{0, 1, 1}, way(1, 0, 5, 1)), 0, api.ErrNone},
		{"a spot without a way or people", hall([]int{0, 1, 0}, way(1, 0, 5, 1)), 1, api.OK},
		{"all at once", hall([]int{0, 1000}, way(1, 0, 1000, 1)), 1, api.OK},
		{"one more than at once", hall([]int{0, 1001}, way(1, 0, 1000, 1)), 2, api.OK},
		{"a long way", hall([]int{0, 1}, way(1, 0, 1, 15)), 15, api.OK},
		{"the longest time", hall([]int{0, 600}, way(1, 0, 10, 1)), api.MaxOut, api.OK},
		{"one more than in the longest time", hall([]int{0, 601}, way(1, 0, 10, 1)), 0, api.ErrNone},
		{"the longest row of ways", hall([]int{0, 1, 1, 1, 1}, way(4, 3, 9, 15), way(3, 2, 9, 15), way(2, 1, 9, 15), way(1, 0, 9, 15)), 60, api.OK},
		{"a row of ways that is too long", hall([]int{0, 0, 0, 0, 0, 1}, way(4, 3, 9, 15), way(3, 2, 9, 15), way(2, 1, 9, 15), way(1, 0, 9, 15), way(5, 4, 1, 1)), 0, api.ErrNone},
		{"two ways side by side", hall([]int{0, 30}, way(1, 0, 3, 1), way(1, 0, 2, 4)), 8, api.OK},
		{"a detour that pays", hall([]int{0, 100, 0}, way(1, 0, 5, 2), way(1, 2, 50, 1), way(2, 0, 50, 1)), 3, api.OK},
		{"a detour that does not pay", hall([]int{0, 10, 0}, way(1, 0, 5, 1), way(1, 2, 50, 1), way(2, 0, 1, 2)), 2, api.OK},
		{"on without a stop", hall([]int{0, 0, 0, 5}, way(3, 2, 5, 1), way(2, 1, 5, 1), way(1, 0, 5, 1)), 3, api.OK},
		{"one waits for another", hall([]int{0, 5, 5}, way(2, 1, 5, 1), way(1, 0, 5, 1)), 2, api.OK},
		{"they wait at the door", hall([]int{0, 0, 8}, way(2, 1, 8, 1), way(1, 0, 2, 1)), 5, api.OK},
		{"the near ones leave the near door to the far ones", hall([]int{0, 4, 4, 0}, way(1, 0, 4, 2), way(1, 3, 4, 1), way(2, 1, 4, 1), way(3, 0, 4, 1)), 3, api.OK},
		{"a full hall", hall(full, way(1, 0, 1000, 1), way(2, 0, 1000, 1), way(3, 0, 1000, 1), way(4, 0, 1000, 1), way(5, 0, 1000, 1), way(6, 0, 1000, 1), way(7, 0, 1000, 1), way(8, 0, 1000, 1), way(9, 0, 1000, 1)), 5, api.OK},
		{"a full hall with one door", hall(full, way(1, 0, 1000, 1), way(2, 1, 1000, 1), way(3, 1, 1000, 1), way(4, 1, 1000, 1), way(5, 1, 1000, 1), way(6, 1, 1000, 1), way(7, 1, 1000, 1), way(8, 1, 1000, 1), way(9, 1, 1000, 1)), 45, api.OK},
	} {
		minutes, plan, e := gale.Leave(x.h)
		if minutes != x.minutes || e != x.e {
			t.Error(x.name, minutes, e)
		}
		last := minutes - 1
		if e == api.OK && (!leaves(x.h, minutes, plan) || !gale.ProveOut(x.h, minutes, plan)) {
			t.Error(x.name, plan)
		}
		if e != api.OK {
			if last = api.MaxOut; plan != nil {
				t.Error(x.name, plan)
			}
		}
		if last >= 0 {
			stuck(t, x.name, x.h, last)
		}
		if e == api.OK {
			free(t, x.name, x.h, minutes)
		}
	}
}

// stuck wants a cut.
func stuck(t *testing.T, name string, h gale.Hall, minutes int) {
	t.Helper()
	cut, e := gale.Stuck(h, minutes)
	if e != api.OK || !gale.ProveStuck(h, minutes, cut) || cutSize(h, minutes, cut) >= all(h) {
		t.Error(name, h, minutes, cut, e)
	}
}

// free wants no cut.
func free(t *testing.T, name string, h gale.Hall, minutes int) {
	t.Helper()
	for n := minutes; n <= api.MaxOut; n += 7 {
		if cut, e := gale.Stuck(h, n); e != api.ErrNone || cut != nil {
			t.Error(name, h, n, cut, e)
		}
	}
}

// P2.4
func TestProveOut(t *testing.T) {
	good := [][]int{{10, 10, 10, 10, 10, 10, 10}, {5, 5, 5, 5, 0, 0, 0}}
	shut := hall([]int{0, 2}, way(1, 0, 0, 1), way(1, 0, 2, 2))
	there := hall([]int{0, 2, 0}, way(1, 0, 2, 1), way(1, 2, 2, 1), way(2, 1, 2, 1))
	for _, x := range []struct {
		name    string
		h       gale.Hall
		minutes int
		plan    [][]int
		want    bool
	}{
		{"the chapter's", ring(), 7, good, true},
		{"too many leave a spot", ring(), 7, [][]int{{10, 10, 10, 10, 10, 10, 10}, {5, 5, 5, 0, 0, 0, 5}}, false},
		{"one comes just in time to leave", ring(), 7, [][]int{{10, 10, 10, 10, 10, 10, 10}, {4, 5, 5, 5, 1, 0, 0}}, true},
		{"one comes too late to leave", ring(), 7, [][]int{{10, 10, 10, 10, 10, 10, 10}, {4, 5, 5, 5, 0, 1, 0}}, false},
		{"one stays", ring(), 7, [][]int{{9, 10, 10, 10, 10, 10, 10}, {5, 5, 5, 5, 0, 0, 0}}, false},
		{"one does not come", ring(), 7, [][]int{{10, 10, 10, 10, 10, 10, 9}, {5, 5, 5, 4, 0, 0, 0}}, false},
		{"more than the way takes", ring(), 7, [][]int{{11, 9, 10, 10, 10, 10, 10}, {5, 5, 5, 5, 0, 0, 0}}, false},
		{"more than the second way takes", ring(), 7, [][]int{{10, 10, 10, 10, 10, 10, 10}, {6, 4, 5, 5, 0, 0, 0}}, false},
		{"less than nobody", hall([]int{0, 3}, way(1, 0, 3, 1), way(1, 0, 3, 1)), 2, [][]int{{3, 1}, {0, -1}}, false},
		{"less than nobody on a way that is shut", shut, 2, [][]int{{-1, 0}, {2, 0}}, false},
		{"a way that is shut", shut, 2, [][]int{{0, 0}, {2, 0}}, true},
		{"through a way that is shut", shut, 2, [][]int{{1, 0}, {1, 0}}, false},
		{"a minute too late on the way", shut, 2, [][]int{{0, 0}, {1, 1}}, false},
		{"with a minute more", shut, 3, [][]int{{0, 0, 0}, {1, 1, 0}}, true},
		{"there and back", there, 3, [][]int{{0, 0, 2}, {2, 0, 0}, {0, 2, 0}}, true},
		{"there and not back", there, 3, [][]int{{0, 1, 0}, {1, 0, 0}, {0, 0, 0}}, false},
		{"back before there", there, 3, [][]int{{0, 2, 0}, {2, 0, 0}, {2, 0, 0}}, false},
		{"time is left", ring(), 8, [][]int{{0, 10, 10, 10, 10, 10, 10, 10}, {0, 5, 5, 5, 5, 0, 0, 0}}, true},
		{"too few minutes in the plan", ring(), 8, good, false},
		{"too many minutes in the plan", ring(), 6, good, false},
		{"too few minutes of one way", ring(), 7, [][]int{good[0], good[1][:4]}, false},
		{"too many minutes of one way", ring(), 7, [][]int{good[0], append(slices.Clone(good[1]), 0)}, false},
		{"too few ways", ring(), 7, good[:1], false},
		{"too many ways", ring(), 7, append(slices.Clone(good), make([]int, 7)), false},
		{"no plan", ring(), 7, nil, false},
		{"nobody, in no time", hall([]int{0, 0}, way(1, 0, 1, 1)), 0, [][]int{{}}, true},
		{"nobody, in no time, with a nil list", hall([]int{0, 0}, way(1, 0, 1, 1)), 0, [][]int{nil}, true},
		{"nobody, in no time, without the list of a way", hall([]int{0, 0}, way(1, 0, 1, 1)), 0, nil, false},
		{"nobody, no ways, in no time", hall([]int{0, 0}), 0, nil, true},
		{"nobody, no ways, in no time, with an empty list", hall([]int{0, 0}), 0, [][]int{}, true},
		{"nobody, no ways, in the longest time", hall([]int{0, 0}), api.MaxOut, nil, true},
		{"nobody, no ways, in less than no time", hall([]int{0, 0}), -1, nil, false},
		{"nobody, no ways, in a longer time", hall([]int{0, 0}), api.MaxOut + 1, nil, false},
		{"nobody, no ways, in the shortest and longest time", hall([]int{0, 0}), lowest, nil, false},
		{"somebody, in no time", hall([]int{0, 1}, way(1, 0, 1, 1)), 0, [][]int{{}}, false},
		{"somebody, no ways", hall([]int{0, 1}), 5, nil, false},
		{"a hall that is not valid", hall([]int{0, 0}, way(1, 0, -1, 1)), 0, [][]int{{}}, false},
		{"people outside from the start", hall([]int{1, 0}), 0, nil, false},
		{"the greatest numbers", ring(), 7, [][]int{slices.Repeat([]int{highest}, 7), slices.Repeat([]int{lowest}, 7)}, false},
	} {
		if gale.ProveOut(x.h, x.minutes, x.plan) != x.want {
			t.Error(x.name)
		}
	}
}

// P2.4, P2.10: the longest time is one of MaxOut minutes.
func TestLongestTime(t *testing.T) {
	h := hall([]int{0, 600}, way(1, 0, 10, 1))
	plan := [][]int{slices.Repeat([]int{10}, api.MaxOut)}
	if !gale.ProveOut(h, api.MaxOut, plan) {
		t.Error("in the longest time")
	}
	if gale.ProveOut(h, api.MaxOut+1, [][]int{append([]int{0}, plan[0]...)}) {
		t.Error("in a longer time")
	}
	stuck(t, "one more", hall([]int{0, 601}, way(1, 0, 10, 1)), api.MaxOut)
	shut := hall([]int{0, 1})
	for minutes, want := range map[int]bool{-1: false, 0: true, api.MaxOut: true, api.MaxOut + 1: false} {
		if gale.ProveStuck(shut, minutes, []int{minutes + 1, 0}) != want {
			t.Error("a cut for", minutes, "minutes")
		}
	}
}

// P2.5
func TestProveStuck(t *testing.T) {
	for _, x := range []struct {
		name    string
		h       gale.Hall
		minutes int
		cut     []int
		want    bool
	}{
		{"the chapter's", ring(), 6, []int{7, 0, 0}, true},
		{"too large", ring(), 6, []int{7, 7, 0}, false},
		{"as large as all people", ring(), 7, []int{8, 0, 0}, false},
		{"with the first spot", ring(), 6, []int{7, 0, 7}, false},
		{"one way ends before", ring(), 4, []int{5, 3, 0}, true},
		{"ways that end at the minute do not count", ring(), 4, []int{5, 4, 0}, true},
		{"of no size", hall([]int{0, 1}), 5, []int{6, 0}, true},
		{"of all people", hall([]int{0, 1}), 5, []int{6, 6}, false},
		{"of all people from the minute 1 on", hall([]int{0, 1}), 5, []int{6, 1}, false},
		{"nobody", hall([]int{0, 0}), 5, []int{6, 0}, false},
		{"in no time", ring(), 0, []int{1, 0, 0}, true},
		{"in no time, with all people", ring(), 0, []int{1, 1, 1}, false},
		{"in no time, with some", ring(), 0, []int{1, 1, 0}, true},
		{"the outside too early", ring(), 6, []int{6, 0, 0}, false},
		{"the outside too late", ring(), 6, []int{8, 0, 0}, false},
		{"the outside at 0", ring(), 6, []int{0, 0, 0}, false},
		{"a minute below 0", ring(), 6, []int{7, -1, 0}, false},
		{"a last minute below 0", ring(), 6, []int{7, 0, -1}, false},
		{"a minute beyond the last", hall([]int{0, 1, 1}), 6, []int{7, 0, 8}, false},
		{"the last minute", hall([]int{0, 1, 1}), 6, []int{7, 0, 7}, true},
		{"too few spots", ring(), 6, []int{7, 0}, false},
		{"too many spots", ring(), 6, []int{7, 0, 0, 0}, false},
		{"no cut", ring(), 6, nil, false},
		{"a hall that is not valid", hall([]int{0, 5}, way(1, 0, 1, 0)), 1, []int{2, 0}, false},
		{"the shortest time", ring(), lowest, []int{lowest + 1, 0, 0}, false},
		{"the longest time", ring(), highest, []int{lowest, 0, 0}, false},
	} {
		if gale.ProveStuck(x.h, x.minutes, x.cut) != x.want {
			t.Error(x.name)
		}
	}
}

// P2.4 and P2.5 by their definitions, P2.9 and P2.10: all cuts of small halls are tried.
func TestSmallHalls(t *testing.T) {
	d := newDice(5)
	seen := map[int]int{}
	for range 500 {
		h := d.hall(4, 6, 4)
		least, plan, e := gale.Leave(h)
		for minutes := range 6 {
			can := canLeave(h, minutes)
			if can != (e == api.OK && least <= minutes) {
				t.Error("Leave:", h, least, e, "but", minutes, can)
			}
			cut, f := gale.Stuck(h, minutes)
			if can && (f != api.ErrNone || cut != nil) || !can && (f != api.OK || cutSize(h, minutes, cut) >= all(h)) {
				t.Error("Stuck:", h, minutes, cut, f)
			}
			for _, cut := range cuts(h, minutes) {
				if gale.ProveStuck(h, minutes, cut) != (cutSize(h, minutes, cut) < all(h)) {
					t.Error("ProveStuck:", h, minutes, cut)
				}
			}
		}
		if seen[min(least, 7)]++; e == api.OK {
			changed(t, d, h, least, plan)
		}
	}
	for minutes := range 8 {
		if seen[minutes] == 0 {
			t.Error("no hall that takes", minutes, "minutes:", seen)
		}
	}
}

// changed wants ProveOut to accept a plan and just those that are as good.
func changed(t *testing.T, d dice, h gale.Hall, minutes int, plan [][]int) {
	t.Helper()
	if !leaves(h, minutes, plan) || !gale.ProveOut(h, minutes, plan) {
		t.Error("not a plan:", h, minutes, plan)
	}
	for range 10 {
		if len(plan) == 0 || minutes == 0 {
			return
		}
		plan[d.Intn(len(plan))][d.Intn(minutes)] += d.from(-1, 1)
		if gale.ProveOut(h, minutes, plan) != leaves(h, minutes, plan) {
			t.Error("ProveOut:", h, minutes, plan)
		}
	}
}

// largeHall has as many spots and ways as there may be, at most.
func (d dice) largeHall() gale.Hall {
	h := hall([]int{0})
	for range d.from(1, api.MaxSpots-1) {
		h.People = append(h.People, d.from(0, []int{30, 300, 2000}[d.Intn(3)]))
	}
	last := len(h.People) - 1
	for range d.from(last, api.MaxWays) {
		w := way(d.from(1, last), d.from(0, last)*d.Intn(2), d.from(0, []int{20, 100, 1000}[d.Intn(3)]), d.from(1, 5))
		if w.From == w.To {
			w.To = 0
		}
		h.Ways = append(h.Ways, w)
	}
	return h
}

// P2.9, P2.10
func TestOneOfBoth(t *testing.T) {
	d := newDice(6)
	seen := map[api.Errno]int{}
	for range 300 {
		h := d.largeHall()
		minutes, plan, e := gale.Leave(h)
		seen[e]++
		if e == api.OK && (!gale.ProveOut(h, minutes, plan) || !leaves(h, minutes, plan)) {
			t.Error("not a plan:", h, minutes, plan)
		}
		if e != api.OK {
			minutes = api.MaxOut + 1
		}
		for _, n := range []int{0, minutes / 2, minutes - 1, minutes, minutes + 1, api.MaxOut} {
			switch {
			case n < 0 || n > api.MaxOut:
			case n < minutes:
				stuck(t, "too short", h, n)
			default:
				free(t, "long enough", h, n)
				later := longer(plan, n)
				if !gale.ProveOut(h, n, later) {
					t.Error("not a plan:", h, n, later)
				}
				for range 20 {
					if cut := d.cut(h, n); gale.ProveStuck(h, n, cut) {
						t.Error("both:", h, n, cut)
					}
				}
			}
		}
	}
	if seen[api.OK] < 50 || seen[api.ErrNone] < 50 {
		t.Error("too few of a kind:", seen)
	}
}

// longer lets all wait outside.
func longer(plan [][]int, minutes int) [][]int {
	var later [][]int
	for _, l := range plan {
		later = append(later, append(slices.Clone(l), make([]int, minutes-len(l))...))
	}
	return later
}

func (d dice) cut(h gale.Hall, minutes int) []int {
	cut := []int{minutes + 1}
	for range len(h.People) - 1 {
		cut = append(cut, d.from(0, minutes+1)*d.Intn(2))
	}
	return cut
}

// leastMinutes is more than MaxOut for a hall that some do not leave in time.
func leastMinutes(h gale.Hall) int {
	minutes, _, e := gale.Leave(h)
	if e != api.OK {
		return api.MaxOut + 1
	}
	return minutes
}

// P2.11
func TestWiderDoors(t *testing.T) {
	d, faster := newDice(7), 0
	for range 200 {
		h := d.largeHall()
		before := leastMinutes(h)
		wide, few, more := copiedHall(h), copiedHall(h), copiedHall(h)
		w := &wide.Ways[d.Intn(len(h.Ways))]
		w.Cap = d.from(w.Cap, api.MaxCap)
		spot := d.from(1, len(h.People)-1)
		few.People[spot] = d.from(0, few.People[spot])
		if len(h.Ways) < api.MaxWays {
			more.Ways = append(more.Ways, way(spot, 0, d.from(0, 100), d.from(1, 9)))
		}
		for _, better := range []gale.Hall{wide, few, more} {
			after := leastMinutes(better)
			if after > before {
				t.Error(h, before, "but", better, after)
			}
			if after < before {
				faster++
			}
		}
	}
	if faster < 50 {
		t.Error("only", faster, "halls were faster")
	}
}
