package flight_test

import (
	"math/rand"
	"slices"
	"testing"

	"bigtop/api"
	"bigtop/flight"
)

const (
	lowest  = -1 << 63
	highest = 1<<63 - 1
)

func to(lo, hi int) flight.Range { return flight.Range{Lo: lo, Hi: hi} }

func just(n int) flight.Range { return to(n, n) }

func box(x, z flight.Range) flight.Box { return flight.Box{X: x, Z: z} }

func spot(x, z int) flight.Box { return box(just(x), just(z)) }

func win(first, last int) flight.Window { return flight.Window{First: first, Last: last} }

// flyer and catcher are those of the chapter's examples.
func flyer() flight.Flyer {
	return flight.Flyer{At: box(to(0, 1000), just(500000)), Speed: box(just(3000), to(2000, 2010)), Mass: 60}
}

func catcher() flight.Catcher {
	return flight.Catcher{Cycle: []flight.Box{box(to(115000, 116000), to(501000, 503000))}, Reach: 6000, Soft: 10, Bears: 30000}
}

// leap may be caught 38, 39 or 40 ticks after its release.
func leap() flight.Flight {
	return flight.Flight{Flyer: flyer(), Catcher: catcher(), Least: 30, Most: 50}
}

// drop lets go at 0, without a speed, and may be caught at once, and only then.
func drop() flight.Flight {
	return flight.Flight{
		Flyer:   flight.Flyer{Mass: 1},
		Catcher: flight.Catcher{Cycle: []flight.Box{spot(0, 0)}, Soft: 1, Bears: api.MaxBears},
	}
}

// beat is a drop whose releases are good where the text has an x, over and over again.
func beat(text string) flight.Flight {
	f := drop()
	f.Catcher.Cycle = nil
	for _, c := range text {
		at := spot(0, 0)
		if c != 'x' {
			at = spot(1, 0)
		}
		f.Catcher.Cycle = append(f.Catcher.Cycle, at)
	}
	return f
}

func lasting(f flight.Flight, most int) flight.Flight {
	f.Most = most
	return f
}

func copied(f flight.Flight) flight.Flight {
	f.Catcher.Cycle = slices.Clone(f.Catcher.Cycle)
	return f
}

func sameFlight(a, b flight.Flight) bool {
	return a.Flyer == b.Flyer && slices.Equal(a.Catcher.Cycle, b.Catcher.Cycle) && a.Catcher.Reach == b.Catcher.Reach &&
		a.Catcher.Soft == b.Catcher.Soft && a.Catcher.Bears == b.Catcher.Bears && a.Least == b.Least && a.Most == b.Most
}

func size(n int) int {
	if n < 0 {
		return -n
	}
	return n
}

func numbers(r flight.Range) []int {
	var l []int
	for n := r.Lo; n <= r.Hi; n++ {
		l = append(l, n)
	}
	return l
}

// A choice is a whole number of each of the four ranges of a flyer.
type choice struct{ x, z, speedX, speedZ int }

func choices(f flight.Flyer) []choice {
	var l []choice
	for _, x := range numbers(f.At.X) {
		for _, z := range numbers(f.At.Z) {
			for _, speedX := range numbers(f.Speed.X) {
				for _, speedZ := range numbers(f.Speed.Z) {
					l = append(l, choice{x, z, speedX, speedZ})
				}
			}
		}
	}
	return l
}

func (c choice) after(ticks int) (x, z int) {
	return c.x + ticks*c.speedX, c.z + ticks*c.speedZ - 49*ticks*ticks
}

// boxAfter is told by the words of the chapter, from all choices.
func boxAfter(f flight.Flyer, ticks int) flight.Box {
	var xs, zs []int
	for _, c := range choices(f) {
		x, z := c.after(ticks)
		xs, zs = append(xs, x), append(zs, z)
	}
	return box(to(slices.Min(xs), slices.Max(xs)), to(slices.Min(zs), slices.Max(zs)))
}

func loadAfter(f flight.Flight, ticks int) int {
	top := 0
	for _, c := range choices(f.Flyer) {
		top = max(top, size(c.speedX), size(c.speedZ-98*ticks))
	}
	jerk := top / f.Catcher.Soft
	if jerk*f.Catcher.Soft < top {
		jerk++
	}
	return f.Flyer.Mass * (98 + jerk)
}

// apart is how much a number of the one range and one of the other differ at most.
func apart(a, b flight.Range) int {
	most := 0
	for _, n := range []int{a.Lo, a.Hi} {
		for _, m := range []int{b.Lo, b.Hi} {
			most = max(most, size(n-m))
		}
	}
	return most
}

func handsAt(f flight.Flight, tick int) flight.Box {
	return f.Catcher.Cycle[tick%len(f.Catcher.Cycle)]
}

func isSure(f flight.Flight, release, tick int) bool {
	if tick-release < f.Least || tick-release > f.Most {
		return false
	}
	b, hands := boxAfter(f.Flyer, tick-release), handsAt(f, tick)
	return apart(b.X, hands.X) <= f.Catcher.Reach && apart(b.Z, hands.Z) <= f.Catcher.Reach &&
		loadAfter(f, tick-release) <= f.Catcher.Bears
}

func sureTicks(f flight.Flight, release int) []int {
	var l []int
	for n := release; n <= release+api.MaxAir; n++ {
		if n-release <= f.Most && isSure(f, release, n) {
			l = append(l, n)
		}
	}
	return l
}

func isGood(f flight.Flight, release int) bool { return len(sureTicks(f, release)) > 0 }

// A dice makes things that are valid, from a seed.
type dice struct{ *rand.Rand }

func newDice(seed int64) dice { return dice{rand.New(rand.NewSource(seed))} }

func (d dice) from(lo, hi int) int { return lo + d.Intn(hi-lo+1) }

// near is a short range, so that there are few choices.
func (d dice) near(n, width int) flight.Range {
	lo := n - d.from(0, width)
	return to(lo, lo+d.from(0, width))
}

func (d dice) flyer() flight.Flyer {
	return flight.Flyer{
		At:    box(d.near(d.from(-50, 50), 2), d.near(d.from(-50, 50), 2)),
		Speed: box(d.near(d.from(-60, 60), 2), d.near(d.from(-100, 600), 2)),
		Mass:  d.from(1, 5),
	}
}

// flight has hands that are now and then where its flyer may be.
func (d dice) flight() flight.Flight {
	f := flight.Flight{Flyer: d.flyer(), Least: d.from(0, 8)}
	f.Most = f.Least + d.from(0, 8)
	for range d.from(1, 9) {
		t := d.from(f.Least, f.Most+2)
		x, z := choices(f.Flyer)[0].after(t)
		f.Catcher.Cycle = append(f.Catcher.Cycle, box(d.near(x+d.from(-80, 80), 9), d.near(z+d.from(-80, 80), 9)))
	}
	f.Catcher.Reach = d.from(20, 300)
	f.Catcher.Soft = d.from(1, 12)
	f.Catcher.Bears = loadAfter(f, d.from(f.Least, f.Most)) + d.from(-1, 60)
	return f
}

func (d dice) part(r flight.Range) flight.Range {
	lo := d.from(r.Lo, r.Hi)
	return to(lo, d.from(lo, r.Hi))
}

func (d dice) partOf(b flight.Box) flight.Box { return box(d.part(b.X), d.part(b.Z)) }

// point is a place in a box.
func (d dice) point(b flight.Box) (x, z int) { return d.from(b.X.Lo, b.X.Hi), d.from(b.Z.Lo, b.Z.Hi) }

// number is one that may be from lo to hi.
type number[T any] struct {
	name   string
	set    func(*T, int)
	lo, hi int
}

// checkNumbers sets each number to its limits, and beyond them.
func checkNumbers[T any](t *testing.T, good func() T, check func(T) api.Errno, l []number[T]) {
	t.Helper()
	for _, x := range l {
		for _, n := range []int{x.lo, x.hi, x.lo - 1, x.hi + 1, lowest, highest} {
			want := api.ErrArg
			if n == x.lo || n == x.hi {
				want = api.OK
			}
			v := good()
			x.set(&v, n)
			if e := check(v); e != want {
				t.Error(x.name, n, e)
			}
		}
	}
}
