package rigging_test

import (
	"math/big"
	"math/rand"
	"slices"
	"testing"

	"bigtop/api"
	"bigtop/rigging"
)

const (
	lowest  = -1 << 63
	highest = 1<<63 - 1
	grain   = 216000
)

func point(n int) rigging.Place { return rigging.Place{Beam: -1, At: n} }

func on(beam, notch int) rigging.Place { return rigging.Place{Beam: beam, At: notch} }

func beam(a, b int, onA, onB rigging.Place, weight, strength int) rigging.Beam {
	return rigging.Beam{A: a, B: b, OnA: onA, OnB: onB, Weight: weight, Strength: strength}
}

func load(at rigging.Place, kind uint8, lo, hi int) rigging.Load {
	return rigging.Load{At: at, Kind: kind, Lo: lo, Hi: hi}
}

func pointPart(n int) rigging.Part { return rigging.Part{Beam: -1, At: n} }

func hanger(beam, at int) rigging.Part { return rigging.Part{Beam: beam, At: at} }

// to is a range of newtons, in grains.
func to(lo, hi int) rigging.Range { return rigging.Range{Lo: lo * grain, Hi: hi * grain} }

func newtons(l ...int) []int {
	for i := range l {
		l[i] *= grain
	}
	return l
}

// show is the rig of the chapter's examples.
func show() rigging.Rig {
	return rigging.Rig{
		Points:  []int{1000, 500},
		Beams:   []rigging.Beam{beam(10, 40, point(0), point(1), 90, 800)},
		Factors: [3]int{1000, 1500, 2000},
		Loads:   []rigging.Load{load(on(0, 40), rigging.People, 100, 300), load(on(0, 0), rigging.Still, 60, 60)},
	}
}

// bars has nothing but points that bear all, and such beams.
func bars(points int, beams ...rigging.Beam) rigging.Rig {
	return rigging.Rig{Points: slices.Repeat([]int{api.MaxBear}, points), Beams: beams, Factors: [3]int{1000, 1500, 2000}}
}

func loaded(r rigging.Rig, l ...rigging.Load) rigging.Rig {
	r.Loads = append(slices.Clone(r.Loads), l...)
	return r
}

// stack has that many beams, each hanging by both its hangers from the middle of the one with the number before it.
func stack(n int) rigging.Rig {
	r := bars(1)
	for i := range n {
		at := on(i-1, 30)
		if i == 0 {
			at = point(0)
		}
		r.Beams = append(r.Beams, beam(0, 60, at, at, 0, api.MaxBear))
	}
	return r
}

func sameRig(a, b rigging.Rig) bool {
	return slices.Equal(a.Points, b.Points) && slices.Equal(a.Beams, b.Beams) && a.Factors == b.Factors && slices.Equal(a.Loads, b.Loads)
}

func copied(r rigging.Rig) rigging.Rig {
	r.Points, r.Beams, r.Loads = slices.Clone(r.Points), slices.Clone(r.Beams), slices.Clone(r.Loads)
	return r
}

// parts are all parts of a rig in their order.
func parts(r rigging.Rig) []rigging.Part {
	var l []rigging.Part
	for i := range r.Points {
		l = append(l, pointPart(i))
	}
	for i := range r.Beams {
		l = append(l, hanger(i, 0), hanger(i, 1))
	}
	return l
}

// inOrder lists what points and hangers have in the order of parts.
func inOrder[T any](points []T, hangers [][2]T) []T {
	l := slices.Clone(points)
	for _, h := range hangers {
		l = append(l, h[0], h[1])
	}
	return l
}

func limit(r rigging.Rig, p rigging.Part) int {
	if p.Beam < 0 {
		return r.Points[p.At]
	}
	return r.Beams[p.Beam].Strength
}

func isHanger(p rigging.Part) bool { return p.Beam >= 0 }

// tops are the greatest pulls, of which none is a thousandth of a newton too low.
func tops(r rigging.Rig) []int {
	var l []int
	for _, x := range r.Loads {
		n := x.Hi * r.Factors[x.Kind]
		l = append(l, n/1000)
		if n%1000 > 0 {
			l[len(l)-1]++
		}
	}
	return l
}

// pulling is a force at a notch of a beam.
type pulling struct {
	at    int
	force *big.Rat
}

// borne is what a part bears in newtons, word by word as the chapter says it, from the part downwards.
func borne(r rigging.Rig, p rigging.Part, pulls []int) *big.Rat {
	if p.Beam < 0 {
		all := new(big.Rat)
		for _, x := range pulledAt(r, func(at rigging.Place) bool { return at == point(p.At) }, pulls) {
			all.Add(all, x.force)
		}
		return all
	}
	b := r.Beams[p.Beam]
	on := pulledAt(r, func(at rigging.Place) bool { return at.Beam == p.Beam }, pulls)
	on = append(on, pulling{30, big.NewRat(int64(b.Weight), 1)})
	all := new(big.Rat)
	for _, x := range on {
		onB := new(big.Rat).Mul(x.force, big.NewRat(int64(x.at-b.A), int64(b.B-b.A)))
		if p.At == 0 {
			all.Add(all, x.force).Sub(all, onB)
		} else {
			all.Add(all, onB)
		}
	}
	return all
}

// pulledAt are the loads and the hangers of beams at places.
func pulledAt(r rigging.Rig, there func(rigging.Place) bool, pulls []int) []pulling {
	var l []pulling
	for i, x := range r.Loads {
		if there(x.At) {
			l = append(l, pulling{x.At.At, big.NewRat(int64(pulls[i]), 1)})
		}
	}
	for i, b := range r.Beams {
		for k, at := range []rigging.Place{b.OnA, b.OnB} {
			if there(at) {
				l = append(l, pulling{at.At, borne(r, hanger(i, k), pulls)})
			}
		}
	}
	return l
}

// sign tells whether a load gives a part a force above 0, below 0, or none.
func sign(r rigging.Rig, p rigging.Part, load int) int {
	pulls := make([]int, len(r.Loads))
	none := borne(r, p, pulls)
	pulls[load] = 1
	return borne(r, p, pulls).Cmp(none)
}

// inGrains fails for what is no whole number of them.
func inGrains(t *testing.T, newtons *big.Rat) int {
	t.Helper()
	n := new(big.Rat).Mul(newtons, big.NewRat(grain, 1))
	if !n.IsInt() || !n.Num().IsInt64() {
		t.Fatal("no whole grains:", n)
	}
	return int(n.Num().Int64())
}

// corners are all pulls in which each load pulls with its least or its greatest force.
func corners(r rigging.Rig) [][]int {
	l := [][]int{nil}
	for i, x := range r.Loads {
		var longer [][]int
		for _, pulls := range l {
			for _, n := range []int{x.Lo, tops(r)[i]} {
				longer = append(longer, append(slices.Clone(pulls), n))
			}
		}
		l = longer
	}
	return l
}

// A dice makes things that are valid, from a seed.
type dice struct{ *rand.Rand }

func newDice(seed int64) dice { return dice{rand.New(rand.NewSource(seed))} }

func (d dice) from(lo, hi int) int { return lo + d.Intn(hi-lo+1) }

// rig has hangers and loads anywhere, also outside of the hangers of their beams.
func (d dice) rig(beams, loads int) rigging.Rig {
	return d.build(beams, loads, func(rigging.Beam) (int, int) { return 0, 60 })
}

// calm has all hangers, loads and weights between the hangers of their beams.
func (d dice) calm(beams, loads int) rigging.Rig {
	return d.build(beams, loads, func(b rigging.Beam) (int, int) { return b.A, b.B })
}

func (d dice) build(beams, loads int, usable func(rigging.Beam) (lo, hi int)) rigging.Rig {
	var r rigging.Rig
	for range d.from(1, 4) {
		r.Points = append(r.Points, d.from(0, 5000))
	}
	var depths []int
	for range d.from(0, beams) {
		b := d.beam(usable)
		depth := 1
		for _, at := range []*rigging.Place{&b.OnA, &b.OnB} {
			*at = point(d.Intn(len(r.Points)))
			if n := d.from(-1, len(depths)-1); n >= 0 && depths[n] < 3 {
				*at = on(n, d.from(usable(r.Beams[n])))
				depth = max(depth, depths[n]+1)
			}
		}
		r.Beams, depths = append(r.Beams, b), append(depths, depth)
	}
	for i := range r.Factors {
		r.Factors[i] = d.from(1000, 3000)
	}
	for range d.from(0, loads) {
		r.Loads = append(r.Loads, d.load(r, usable))
	}
	return r
}

// beam carries its weight where it is usable.
func (d dice) beam(usable func(rigging.Beam) (lo, hi int)) rigging.Beam {
	for {
		span := []int{10, 12, 15, 20, 30, 60}[d.Intn(6)]
		a := d.from(0, 60-span)
		b := beam(a, a+span, rigging.Place{}, rigging.Place{}, d.from(0, 90), d.from(0, 5000))
		if lo, hi := usable(b); lo <= 30 && 30 <= hi {
			return b
		}
	}
}

func (d dice) load(r rigging.Rig, usable func(rigging.Beam) (lo, hi int)) rigging.Load {
	at := point(d.Intn(len(r.Points)))
	if n := d.from(-1, len(r.Beams)-1); n >= 0 {
		at = on(n, d.from(usable(r.Beams[n])))
	}
	a, b := d.from(0, 300), d.from(0, 300)
	return load(at, uint8(d.Intn(3)), min(a, b), max(a, b)*d.Intn(8)/7+min(a, b))
}

// place is any one of a rig.
func (d dice) place(r rigging.Rig) rigging.Place {
	return d.load(r, func(rigging.Beam) (int, int) { return 0, 60 }).At
}

// pulls are within the ranges of the loads.
func (d dice) pulls(r rigging.Rig) []int {
	var l []int
	for i, n := range tops(r) {
		l = append(l, d.from(r.Loads[i].Lo, n))
	}
	return l
}

// hours is gear and a log of few days, so that days have several entries.
func (d dice) hours() (gear []rigging.Gear, log []rigging.Entry) {
	for range d.from(1, 3) {
		gear = append(gear, rigging.Gear{Days: d.from(1, 12), Hours: d.from(1, 60)})
	}
	for range d.from(0, 20) {
		log = append(log, rigging.Entry{Day: d.Intn(15), Number: d.Intn(len(gear)), Hours: d.from(0, 24), Checked: d.Intn(4) == 0})
	}
	slices.SortStableFunc(log, func(a, b rigging.Entry) int { return a.Day - b.Day })
	return gear, log
}

// number is one that may be from lo to hi.
type number[T any] struct {
	name   string
	set    func(*T, int)
	lo, hi int
}

// checkNumbers sets each number to its limits, and beyond them.
func checkNumbers[T any](t *testing.T, good func() T, check func(T) api.Errno, l []number[T]) {
	t.Helper()
	for _, x := range l {
		for _, n := range []int{x.lo, x.hi, x.lo - 1, x.hi + 1, lowest, highest} {
			want := api.ErrArg
			if n == x.lo || n == x.hi {
				want = api.OK
			}
			v := good()
			x.set(&v, n)
			if e := check(v); e != want {
				t.Error(x.name, n, e)
			}
		}
	}
}
