package wagon_test

import (
	"slices"
	"testing"

	"bigtop/api"
	"bigtop/wagon"
)

func climbOf(t *testing.T, l []wagon.Thing) []int {
	t.Helper()
	c, e := wagon.Climb(l)
	if e != api.OK {
		t.Fatal("Climb:", l, e)
	}
	return c
}

// P5.3: the chapter's example, no things, MaxThings things, and several longest climbs.
func TestClimb(t *testing.T) {
	rising := needed(countTo(api.MaxThings)...)
	rising[13].Need = api.MaxOrder
	for _, x := range []struct {
		name   string
		things []wagon.Thing
		want   []int
	}{
		{"the chapter's example", things(), list(0, 2)},
		{"no things", nil, nil},
		{"a thing", needed(0), list(0)},
		{"the greatest need", needed(api.MaxOrder), list(0)},
		{"all together", needed(4, 4, 4), list(0)},
		{"falling", needed(9, 7, 5), list(0)},
		{"rising", rising, countTo(14)},
		{"the first of pairs", needed(5, 6, 1, 2), list(0, 1)},
		{"the first end of several", needed(5, 9, 8, 7), list(0, 1)},
		{"the first middle of several", needed(1, 5, 3, 4, 2, 9), list(0, 2, 3, 5)},
		{"a later begin that is longer", needed(5, 9, 1, 2, 3), list(2, 3, 4)},
		{"one of two with the same need", needed(1, 3, 3, 1, 5, 5), list(0, 1, 4)},
		{"not the next one that is greater", needed(1, 9, 2, 8, 3, 7, 4), list(0, 2, 4, 5)},
	} {
		if l := climbOf(t, x.things); !slices.Equal(l, x.want) {
			t.Error(x.name, l)
		}
	}
}

// P5.3, by its definition: all lists of numbers that rise.
func TestClimbByDefinition(t *testing.T) {
	d := newDice(11)
	for range 300 {
		l := d.things(d.from(0, 9))
		if c, want := climbOf(t, l), bestClimb(l); !slices.Equal(c, want) {
			t.Error("Climb:", l, c, want)
		}
	}
	for range 5 {
		l := d.things(api.MaxThings)
		if c, want := climbOf(t, l), bestClimb(l); !slices.Equal(c, want) {
			t.Error("Climb of MaxThings:", l, c, want)
		}
	}
}

// P5.3: climbs that are accepted, and each reason why one is not.
func TestProveClimb(t *testing.T) {
	five := needed(1, 4, 3, 6, 6)
	spoilt := needed(1, 2, 3)
	spoilt[0].Long = 0
	unfit := lanes(9, 9)
	unfit.Axle = -1
	for _, x := range []struct {
		name   string
		lorry  wagon.Lorry
		things []wagon.Thing
		climb  []int
		want   bool
	}{
		{"more things than lanes", lanes(9, 9), five, list(0, 2, 3), true},
		{"another one", lanes(9, 9), five, list(0, 1, 4), true},
		{"one that is not the longest", lanes(9), five, list(2, 3), true},
		{"as many things as lanes", lanes(9, 9, 9), five, list(0, 2, 3), false},
		{"as many things as the lane", lanes(9), five, list(0), false},
		{"fewer things than lanes", lanes(9, 9, 9), five, list(0, 1), false},
		{"empty", lanes(9), five, nil, false},
		{"empty, of no things", lanes(9), nil, list(), false},
		{"a need that does not rise", lanes(9), five, list(1, 2), false},
		{"the same need", lanes(9, 9), five, list(0, 3, 4), false},
		{"numbers that do not rise", lanes(9), five, list(2, 1), false},
		{"the same number", lanes(9, 9), five, list(0, 0, 3), false},
		{"a number that is none", lanes(9, 9), five, list(0, 2, 5), false},
		{"a first number that is none", lanes(9), needed(1), list(1, 2), false},
		{"a number below 0", lanes(9, 9), five, list(-1, 0, 2), false},
		{"numbers far away", lanes(9), five, list(lowest, highest), false},
		{"things that do not fit at all", lanes(1, 1), row(5, 5, 5), list(0, 1, 2), false},
		{"things that climb and do not fit at all", lanes(1), []wagon.Thing{{Long: 9, High: 99}, {Long: 9, High: 99, Need: 1}}, list(0, 1), true},
		{"MaxThings things", lanes(1, 1, 1, 1, 1, 1), needed(countTo(14)...), countTo(14), true},
		{"one more", lanes(1, 1, 1, 1, 1, 1), needed(countTo(15)...), countTo(15), false},
		{"too many things", lanes(1), needed(countTo(15)...), countTo(2), false},
		{"a thing that is not valid", lanes(9, 9), spoilt, list(0, 1, 2), false},
		{"a lorry that is not valid", unfit, five, list(0, 2, 3), false},
		{"a lorry without lanes", lanes(), five, list(0, 2, 3), false},
	} {
		if is := wagon.ProveClimb(x.lorry, x.things, x.climb); is != x.want {
			t.Error(x.name, is)
		}
	}
}

// P5.3, by the definition of a climb: lists of all kinds.
func TestProveClimbByDefinition(t *testing.T) {
	d := newDice(12)
	accepted := 0
	for range 20000 {
		l := d.things(d.from(0, 6))
		by := d.lorryFor(l, d.from(1, 3))
		var climb []int
		for range d.from(0, 4) {
			climb = append(climb, d.from(0, max(0, len(l)-1)))
		}
		if d.Intn(2) == 0 {
			slices.Sort(climb)
		}
		want := isClimb(l, climb) && len(climb) > len(by.Lanes)
		if is := wagon.ProveClimb(by, l, climb); is != want {
			t.Error("ProveClimb:", by, l, climb, is)
		}
		if want {
			accepted++
		}
	}
	if accepted < 100 {
		t.Error("hardly any is accepted:", accepted)
	}
}

// P5.9: a climb that is accepted shows that nothing is loadable; and without one, all can be loaded if there is room.
func TestClimbAndLoad(t *testing.T) {
	d := newDice(13)
	shown := 0
	for range 1000 {
		l := d.things(d.from(1, 12))
		by := d.lorryFor(l, d.from(1, 6))
		climb := climbOf(t, l)
		if !isClimb(l, climb) {
			t.Error("not a climb:", l, climb)
		}
		p, e := wagon.Load(by, l)
		if wagon.ProveClimb(by, l, climb) {
			shown++
			if e != api.ErrNone || len(p) > 0 {
				t.Error("loaded against a climb:", by, l, climb, p, e)
			}
			continue
		}
		for i := range by.Lanes {
			by.Lanes[i] = api.MaxRoom
		}
		by.Height, by.Carries = 20, 1000
		if p, e := wagon.Load(by, l); e != api.OK || !isLoadable(by, l, p) {
			t.Error("not loaded without a climb:", by, l, p, e)
		}
	}
	if shown < 100 {
		t.Error("hardly any climbs:", shown)
	}
}
