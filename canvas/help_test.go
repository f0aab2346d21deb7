package canvas_test

import (
	"math/big"
	"math/rand"
	"slices"
	"testing"

	"bigtop/api"
	"bigtop/canvas"
)

const (
	least = -1 << 63
	most  = 1<<63 - 1
)

func at(x, y int) canvas.Vector { return canvas.Vector{X: x, Y: y} }

// tests are those of the chapter's examples.
func tests() []canvas.Test {
	return []canvas.Test{{Depth: 1000, Force: 800, Held: true}, {Depth: 500, Force: 600}}
}

// firm lets each stake of the soil 0 hold at least 5000 for each millimetre of its depth.
func firm() []canvas.Test { return []canvas.Test{{Depth: 1, Force: api.MaxPull, Held: true}} }

func guy(x, y int) canvas.Guy { return canvas.Guy{X: x, Y: y, Down: 600, Depth: 700} }

func guys(pulls ...canvas.Vector) []canvas.Guy {
	var l []canvas.Guy
	for _, p := range pulls {
		l = append(l, guy(p.X, p.Y))
	}
	return l
}

// head is a tent of one head.
func head(area int, pulls ...canvas.Vector) canvas.Tent {
	return canvas.Tent{{Area: area, Bears: 2000, Guys: guys(pulls...)}}
}

// cross is the tent of the chapter's examples.
func cross() canvas.Tent { return head(100, at(1000, 0), at(0, 1000), at(-1000, 0), at(0, -1000)) }

// copied shares no memory with t.
func copied(t canvas.Tent) canvas.Tent {
	t = slices.Clone(t)
	for i := range t {
		t[i].Guys = slices.Clone(t[i].Guys)
	}
	return t
}

func without(t canvas.Tent, head, guy int) canvas.Tent {
	t = copied(t)
	t[head].Guys = slices.Delete(t[head].Guys, guy, guy+1)
	return t
}

func stands(t *testing.T, l []canvas.Test, tent canvas.Tent, wind ...canvas.Vector) bool {
	t.Helper()
	i, _, _, e := canvas.Weakest(l, tent, wind)
	if e != api.OK {
		t.Fatal("Weakest:", l, tent, wind, e)
	}
	return i == -1
}

// balances multiplies with numbers of any size, beside the package's own arithmetic.
func balances(parts []int, h canvas.Head, push canvas.Vector, b canvas.Balance) bool {
	if b.Whole < 1 || b.Whole > api.MaxWhole || len(b.Parts) != len(h.Guys) {
		return false
	}
	x, y := product(b.Whole, push.X, h.Area), product(b.Whole, push.Y, h.Area)
	for i, g := range h.Guys {
		if b.Parts[i] < 0 || b.Parts[i] > b.Whole {
			return false
		}
		x.Add(x, product(b.Parts[i], parts[i], g.X))
		y.Add(y, product(b.Parts[i], parts[i], g.Y))
	}
	return x.Sign() == 0 && y.Sign() == 0
}

func product(l ...int) *big.Int {
	p := big.NewInt(1)
	for _, n := range l {
		p.Mul(p, big.NewInt(int64(n)))
	}
	return p
}

// A dice makes things that are valid, from a seed.
type dice struct{ *rand.Rand }

func newDice(seed int64) dice { return dice{rand.New(rand.NewSource(seed))} }

func (d dice) from(lo, hi int) int { return lo + d.Intn(hi-lo+1) }

func (d dice) vector(limit int) canvas.Vector {
	return at(d.from(-limit, limit), d.from(-limit, limit))
}

func (d dice) way(limit int) canvas.Vector {
	for {
		if v := d.vector(limit); v != at(0, 0) {
			return v
		}
	}
}

// tests agree with a rate of each soil: over/under.
func (d dice) tests() (l []canvas.Test, over, under [api.MaxSoils]int) {
	for i := range over {
		over[i], under[i] = d.from(0, 3000), d.from(1, 2000)
	}
	for range d.from(0, 12) {
		x := canvas.Test{Soil: d.from(0, 3), Depth: d.from(1, api.MaxDepth)}
		x.Force = min(api.MaxPull, max(1, over[x.Soil]*x.Depth/under[x.Soil]+d.from(-3, 3)))
		x.Held = x.Force*under[x.Soil] <= over[x.Soil]*x.Depth
		l = append(l, x)
	}
	return l, over, under
}

// head has small numbers, so that forces are often on one line, equal, or opposite.
func (d dice) head(limit int) canvas.Head {
	h := canvas.Head{Area: d.from(0, 30), Bears: d.from(0, 2000)}
	for range d.from(0, api.MaxGuys) {
		way := d.way(limit)
		h.Guys = append(h.Guys, canvas.Guy{X: way.X, Y: way.Y, Down: d.from(0, 600), Soil: d.from(0, 4), Depth: d.from(1, api.MaxDepth)})
	}
	return h
}

func (d dice) tent(limit int) canvas.Tent {
	var t canvas.Tent
	for range d.from(1, 3) {
		t = append(t, d.head(limit))
	}
	return t
}

// wind is often one in which the tent stands, just or not by much.
func (d dice) wind(l []canvas.Test, t canvas.Tent) []canvas.Vector {
	var wind []canvas.Vector
	for range d.from(1, 5) {
		way, k := d.way(4), 100
		for i := range t {
			n, _ := canvas.Reach(l, t, i, way)
			k = min(k, n)
		}
		k += d.from(-2, 0)
		wind = append(wind, at(way.X*max(0, k), way.Y*max(0, k)))
	}
	if d.Intn(4) == 0 {
		wind[d.Intn(len(wind))] = d.vector(40)
	}
	return wind
}
