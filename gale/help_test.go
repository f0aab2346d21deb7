package gale_test

import (
	"math/rand"
	"slices"
	"testing"

	"bigtop/api"
	"bigtop/canvas"
	"bigtop/gale"
)

const (
	lowest  = -1 << 63
	highest = 1<<63 - 1
)

func to(lo, hi int) gale.Range { return gale.Range{Lo: lo, Hi: hi} }

func forecast(name string, hours ...gale.Range) gale.Forecast {
	return gale.Forecast{Name: name, Hours: hours}
}

func reading(hour, lo, hi int) gale.Reading { return gale.Reading{Hour: hour, In: to(lo, hi)} }

// told are the forecasts of the chapter's examples.
func told() []gale.Forecast {
	return []gale.Forecast{forecast("calm", to(10, 30), to(20, 40)), forecast("storm", to(25, 60), to(50, 90))}
}

// pulled are the tests of the examples of chapter 1, of which a stake of the depth 700 holds 560.
func pulled() []canvas.Test {
	return []canvas.Test{{Depth: 1000, Force: 800, Held: true}, {Depth: 500, Force: 600}}
}

// clashing are valid, but no rate agrees with them.
func clashing() []canvas.Test {
	return append(pulled(), canvas.Test{Soil: 7, Depth: 1, Force: 1}, canvas.Test{Soil: 7, Depth: 1, Force: 1, Held: true})
}

// head balances a push of up to 56000 hundredths along each axis.
func head(area int) canvas.Head {
	h := canvas.Head{Area: area, Bears: 2000}
	for _, way := range []canvas.Vector{{X: 1000}, {Y: 1000}, {X: -1000}, {Y: -1000}} {
		h.Guys = append(h.Guys, canvas.Guy{X: way.X, Y: way.Y, Down: 600, Depth: 700})
	}
	return h
}

// tent has a head for each area.
func tent(areas ...int) canvas.Tent {
	var t canvas.Tent
	for _, n := range areas {
		t = append(t, head(n))
	}
	return t
}

func sameTent(a, b canvas.Tent) bool {
	return slices.EqualFunc(a, b, func(g, h canvas.Head) bool {
		return g.Area == h.Area && g.Bears == h.Bears && slices.Equal(g.Guys, h.Guys)
	})
}

// site is that of the chapter's examples.
func site() gale.Site {
	return gale.Site{
		Base:   []canvas.Vector{{X: 100}, {X: -100}, {Y: 100}, {Y: -100}},
		Levels: []gale.Level{{Upto: 30, Push: 4}, {Upto: 60, Push: 7}, {Upto: 90, Push: 10}},
		Stages: []gale.Stage{{Cover: 100, Minutes: 30}, {Cover: 50, Minutes: 20}, {}},
	}
}

func sameSite(a, b gale.Site) bool {
	return slices.Equal(a.Base, b.Base) && slices.Equal(a.Levels, b.Levels) && slices.Equal(a.Stages, b.Stages) && a.Open == b.Open
}

func way(from, to, persons, minutes int) gale.Way {
	return gale.Way{From: from, To: to, Cap: persons, Minutes: minutes}
}

func hall(people []int, ways ...gale.Way) gale.Hall { return gale.Hall{People: people, Ways: ways} }

// ring is the hall of the chapter's examples.
func ring() gale.Hall { return hall([]int{0, 50, 20}, way(1, 0, 10, 1), way(2, 1, 5, 2)) }

// A dice makes things that are valid, from a seed.
type dice struct{ *rand.Rand }

func newDice(seed int64) dice { return dice{rand.New(rand.NewSource(seed))} }

func (d dice) from(lo, hi int) int { return lo + d.Intn(hi-lo+1) }

func (d dice) within(lo, hi int) gale.Range {
	a, b := d.from(lo, hi), d.from(lo, hi)
	return to(min(a, b), max(a, b))
}

func (d dice) forecasts(most int) []gale.Forecast {
	var l []gale.Forecast
	hours := d.from(1, 5)
	for i := range d.from(1, 5) {
		f := forecast(string(rune('a' + i)))
		for range hours {
			f.Hours = append(f.Hours, d.within(0, most))
		}
		l = append(l, f)
	}
	return l
}

// differing are that many numbers from lo to hi, all different, rising.
func (d dice) differing(n, lo, hi int) []int {
	var l []int
	for len(l) < n {
		if k := d.from(lo, hi); !slices.Contains(l, k) {
			l = append(l, k)
		}
	}
	slices.Sort(l)
	return l
}

func (d dice) site() gale.Site {
	var s gale.Site
	for range d.from(1, 4) {
		s.Base = append(s.Base, canvas.Vector{X: d.from(-100, 100), Y: d.from(-100, 100)})
	}
	push := 0
	for _, n := range d.differing(d.from(1, 6), 0, api.MaxStrength) {
		push += d.from(0, 3)
		s.Levels = append(s.Levels, gale.Level{Upto: n, Push: push})
	}
	for _, n := range d.differing(d.from(1, 5), 1, 100) {
		s.Stages = slices.Insert(s.Stages, 0, gale.Stage{Cover: n, Minutes: d.from(1, 50)})
	}
	s.Open = d.Intn(len(s.Stages))
	s.Stages = append(s.Stages, gale.Stage{})
	return s
}

func (d dice) tent() canvas.Tent {
	var t canvas.Tent
	for range d.from(1, 2) {
		h := canvas.Head{Area: d.from(0, 200)}
		for range d.from(3, api.MaxGuys) {
			h.Guys = append(h.Guys, canvas.Guy{X: d.from(1, 900) * (1 - 2*d.Intn(2)), Y: d.from(1, 900) * (1 - 2*d.Intn(2)), Depth: d.from(1, 1500)})
		}
		t = append(t, h)
	}
	return t
}

// hall has that many spots at most, and few people, so that all its cuts can be tried.
func (d dice) hall(spots, ways, persons int) gale.Hall {
	h := hall([]int{0})
	for range d.from(1, spots-1) {
		h.People = append(h.People, d.from(0, 12)*d.Intn(2))
	}
	last := len(h.People) - 1
	for range d.from(0, ways) {
		w := way(d.from(1, last), d.from(0, last), d.from(0, persons), d.from(1, 3))
		if w.From == w.To {
			w.To = 0
		}
		h.Ways = append(h.Ways, w)
	}
	return h
}

func sameHall(a, b gale.Hall) bool {
	return slices.Equal(a.People, b.People) && slices.Equal(a.Ways, b.Ways)
}

func copiedHall(h gale.Hall) gale.Hall {
	return gale.Hall{People: slices.Clone(h.People), Ways: slices.Clone(h.Ways)}
}

func all(h gale.Hall) int {
	n := 0
	for _, k := range h.People {
		n += k
	}
	return n
}

// number is one that may be from lo to hi.
type number[T any] struct {
	name   string
	set    func(*T, int)
	lo, hi int
}

// checkNumbers sets each number to its limits, and beyond them.
func checkNumbers[T any](t *testing.T, good func() T, check func(T) api.Errno, l []number[T]) {
	t.Helper()
	for _, x := range l {
		for _, n := range []int{x.lo, x.hi, x.lo - 1, x.hi + 1, lowest, highest} {
			want := api.ErrArg
			if n == x.lo || n == x.hi {
				want = api.OK
			}
			v := good()
			x.set(&v, n)
			if e := check(v); e != want {
				t.Error(x.name, n, e)
			}
		}
	}
}

// leaves follows a plan minute by minute, and says whether all are out in the end.
func leaves(h gale.Hall, minutes int, plan [][]int) bool {
	if len(plan) != len(h.Ways) {
		return false
	}
	for i, l := range plan {
		if len(l) != minutes || slices.ContainsFunc(l, func(n int) bool { return n < 0 || n > h.Ways[i].Cap }) {
			return false
		}
	}
	coming := make([][]int, minutes+api.MaxWalk+1)
	for t := range coming {
		coming[t] = make([]int, len(h.People))
	}
	there := slices.Clone(h.People)
	for t := range minutes {
		for spot, n := range coming[t] {
			there[spot] += n
		}
		for i, w := range h.Ways {
			if plan[i][t] > there[w.From] {
				return false
			}
			there[w.From] -= plan[i][t]
			coming[t+w.Minutes][w.To] += plan[i][t]
		}
	}
	return there[0]+coming[minutes][0] == all(h)
}

// cutSize adds up what the chapter names, minute by minute.
func cutSize(h gale.Hall, minutes int, cut []int) int {
	size := 0
	for spot, n := range h.People {
		if cut[spot] > 0 {
			size += n
		}
	}
	for t := range minutes + 1 {
		for _, w := range h.Ways {
			if t >= cut[w.From] && t+w.Minutes <= minutes && t+w.Minutes < cut[w.To] {
				size += w.Cap
			}
		}
	}
	return size
}

// cuts are all cuts of a hall.
func cuts(h gale.Hall, minutes int) [][]int {
	l := [][]int{{minutes + 1}}
	for range len(h.People) - 1 {
		var longer [][]int
		for _, cut := range l {
			for t := range minutes + 2 {
				longer = append(longer, append(slices.Clone(cut), t))
			}
		}
		l = longer
	}
	return l
}

// canLeave is told by all cuts: as many can be out as the least size of one.
func canLeave(h gale.Hall, minutes int) bool {
	for _, cut := range cuts(h, minutes) {
		if cutSize(h, minutes, cut) < all(h) {
			return false
		}
	}
	return true
}
