// Package canvas is layer 1: it says whether a tent stands, what stakes hold in
// soils that were tested by pulling, which pushes of the wind the guys of a pole
// balance, how much wind there may be, and which guys may break.
package canvas

import "bigtop/api"

// Test is a stake with a Depth in a soil that was pulled with a Force, and Held or not.
type Test struct {
	Soil, Depth, Force int
	Held               bool
}

// Range is all whole numbers from Lo to Hi. What a stake holds can have a Lo above its Hi.
type Range struct{ Lo, Hi int }

// Vector is a pull, a push or a direction in the plane of the ground.
type Vector struct{ X, Y int }

// Guy is a rope from a head to a stake in a Soil, with its pull and what it presses the pole down with.
type Guy struct{ X, Y, Down, Soil, Depth int }

// Head is the top of a pole, with the Area of canvas whose wind it takes.
type Head struct {
	Area, Bears int
	Guys        []Guy
}

// Tent is a list of heads.
type Tent []Head

// Balance tells how much each guy pulls, as Parts of Whole.
type Balance struct {
	Whole int
	Parts []int
}

// CheckTests returns the error of tests.
func CheckTests(l []Test) api.Errno {
	switch {
	case len(l) > api.MaxTests:
		return api.ErrLimit
	case !every(l, Test.valid):
		return api.ErrArg
	}
	return api.OK
}

// CheckTent returns the error of a tent.
func CheckTent(t Tent) api.Errno {
	if len(t) < 1 || len(t) > api.MaxHeads || !every(t, Head.valid) {
		return api.ErrArg
	}
	return api.OK
}

// Clash returns the first test that held and clashes, and the first one with which it does.
func Clash(l []Test) (held, broke int, e api.Errno) {
	if e := CheckTests(l); e != api.OK {
		return 0, 0, e
	}
	held, broke, found := firstClash(l)
	if !found {
		return 0, 0, api.ErrNone
	}
	return held, broke, api.OK
}

// Holds returns what a stake of the depth holds in the soil.
func Holds(l []Test, soil, depth int) (Range, api.Errno) {
	if e := checkStake(l, isSoil(soil) && isDepth(depth)); e != api.OK {
		return Range{}, e
	}
	return holds(l, soil, depth), api.OK
}

// Deep returns the least depth at which a stake surely holds the force in the soil.
func Deep(l []Test, soil, force int) (int, api.Errno) {
	if e := checkStake(l, isSoil(soil) && within(force, 0, api.MaxPull)); e != api.OK {
		return 0, e
	}
	depth := leastDepth(l, soil, force)
	if depth > api.MaxDepth {
		return 0, api.ErrNone
	}
	return depth, api.OK
}

// Overloaded returns the heads whose guys can press their pole down with more than it bears.
func Overloaded(t Tent) ([]int, api.Errno) {
	if e := CheckTent(t); e != api.OK {
		return nil, e
	}
	var l []int
	for i, h := range t {
		if h.down() > h.Bears {
			l = append(l, i)
		}
	}
	return l, api.OK
}

// Parts returns the part of each guy of each head, in hundredths.
func Parts(l []Test, t Tent) ([][]int, api.Errno) {
	if e := checkTented(l, t); e != api.OK {
		return nil, e
	}
	var parts [][]int
	for _, h := range t {
		parts = append(parts, partsOf(l, h))
	}
	return parts, api.OK
}

// Balanced returns a balance of the head and the push.
func Balanced(l []Test, t Tent, head int, push Vector) (Balance, api.Errno) {
	if e := checkHead(l, t, head, push.inside(api.MaxPush)); e != api.OK {
		return Balance{}, e
	}
	b, found := measure(l, t[head]).balance(push)
	if !found {
		return Balance{}, api.ErrNone
	}
	return b, api.OK
}

// ProveBalance reports whether b is a balance of the head and the push.
func ProveBalance(l []Test, t Tent, head int, push Vector, b Balance) bool {
	return checkHead(l, t, head, push.inside(api.MaxPush)) == api.OK &&
		measure(l, t[head]).balancedBy(push, b)
}

// ProveWeak reports whether the direction is a weakness of the head and the push.
func ProveWeak(l []Test, t Tent, head int, push, way Vector) bool {
	return checkHead(l, t, head, push.inside(api.MaxPush)) == api.OK &&
		way.inside(api.MaxWay) &&
		measure(l, t[head]).weakIn(push, way)
}

// Weakest returns the first head that does not balance some corner, its first such corner, and a weakness.
func Weakest(l []Test, t Tent, wind []Vector) (head, corner int, way Vector, e api.Errno) {
	if e := checkWindy(l, t, wind); e != api.OK {
		return 0, 0, Vector{}, e
	}
	for i, h := range t {
		if corner, way := measure(l, h).weakCorner(wind); corner >= 0 {
			return i, corner, way, api.OK
		}
	}
	return -1, -1, Vector{}, api.OK
}

// Reach returns the greatest multiple of the direction, up to MaxPush, that the head balances.
func Reach(l []Test, t Tent, head int, way Vector) (int, api.Errno) {
	if e := checkHead(l, t, head, way != Vector{} && way.inside(api.MaxPush)); e != api.OK {
		return 0, e
	}
	return measure(l, t[head]).reach(way), api.OK
}

// Spares returns all guys without any one of which the tent still stands, as pairs of a head and a guy.
func Spares(l []Test, t Tent, wind []Vector) ([][2]int, api.Errno) {
	head, _, _, e := Weakest(l, t, wind)
	switch {
	case e != api.OK:
		return nil, e
	case head >= 0:
		return nil, api.ErrNone
	}
	var spares [][2]int
	for i, h := range t {
		for k := range h.Guys {
			if corner, _ := measure(l, h.without(k)).weakCorner(wind); corner < 0 {
				spares = append(spares, [2]int{i, k})
			}
		}
	}
	return spares, api.OK
}
