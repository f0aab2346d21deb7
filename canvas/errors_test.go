package canvas_test

import (
	"testing"

	"bigtop/api"
	"bigtop/canvas"
)

// args are what calls are made of; a defect spoils one of them.
type args struct {
	l                        []canvas.Test
	t                        canvas.Tent
	wind                     []canvas.Vector
	soil, depth, force, head int
	push, way                canvas.Vector
}

type defect struct {
	name  string
	want  api.Errno
	spoil func(*args)
}

func goodArgs() args {
	return args{l: tests(), t: cross(), wind: []canvas.Vector{at(100, 0), at(0, 100)}, depth: 700, force: 900, push: at(-300, 100), way: at(3, 4)}
}

func testDefects() []defect {
	return []defect{
		{"too many tests", api.ErrLimit, func(a *args) {
			for len(a.l) <= api.MaxTests {
				a.l = append(a.l, a.l[0])
			}
		}},
		{"a test that is not valid", api.ErrArg, func(a *args) { a.l = append(a.l, canvas.Test{Soil: 1, Depth: 1, Force: most}) }},
	}
}

func tentDefect() defect {
	return defect{"a tent that is not valid", api.ErrArg, func(a *args) { a.t = append(a.t, canvas.Head{Area: api.MaxArea + 1}) }}
}

// clashDefect is in a soil that no call asks for.
func clashDefect() defect {
	return defect{"tests clash", api.ErrFail, func(a *args) {
		a.l = append(a.l, canvas.Test{Soil: 7, Depth: 1, Force: 1}, canvas.Test{Soil: 7, Depth: 1, Force: 1, Held: true})
	}}
}

func outOfRange(name string, spoil func(*args)) defect { return defect{name, api.ErrRange, spoil} }

func noCorners() defect {
	return defect{"no corners", api.ErrArg, func(a *args) { a.wind = nil }}
}

func row(parts ...[]defect) []defect {
	var all []defect
	for _, p := range parts {
		all = append(all, p...)
	}
	return all
}

// Rules R1 and R2, P1.1 to P1.7: each call gets each of its defects alone, and with all those that are examined later.
func TestErrors(t *testing.T) {
	tested := row(testDefects(), []defect{tentDefect()})
	for _, x := range []struct {
		name    string
		call    func(args) (zero bool, e api.Errno)
		defects []defect
	}{
		{"CheckTests", func(a args) (bool, api.Errno) { return true, canvas.CheckTests(a.l) }, testDefects()},
		{"CheckTent", func(a args) (bool, api.Errno) { return true, canvas.CheckTent(a.t) }, []defect{tentDefect()}},
		{"Holds", func(a args) (bool, api.Errno) {
			r, e := canvas.Holds(a.l, a.soil, a.depth)
			return r == canvas.Range{}, e
		}, row(testDefects(), []defect{
			outOfRange("a soil below", func(a *args) { a.soil = -1 }),
			outOfRange("a soil above", func(a *args) { a.soil = api.MaxSoils }),
			outOfRange("a depth below", func(a *args) { a.depth = 0 }),
			outOfRange("a depth above", func(a *args) { a.depth = api.MaxDepth + 1 }),
			clashDefect()})},
		{"Deep", func(a args) (bool, api.Errno) {
			d, e := canvas.Deep(a.l, a.soil, a.force)
			return d == 0, e
		}, row(testDefects(), []defect{
			outOfRange("a soil below", func(a *args) { a.soil = -1 }),
			outOfRange("a soil above", func(a *args) { a.soil = api.MaxSoils }),
			outOfRange("a force below", func(a *args) { a.force = -1 }),
			outOfRange("a force above", func(a *args) { a.force = api.MaxPull + 1 }),
			clashDefect(),
			{"it is not deep enough", api.ErrNone, func(a *args) { a.soil = 9 }}})},
		{"Overloaded", func(a args) (bool, api.Errno) {
			l, e := canvas.Overloaded(a.t)
			return l == nil, e
		}, []defect{tentDefect()}},
		{"Parts", func(a args) (bool, api.Errno) {
			p, e := canvas.Parts(a.l, a.t)
			return p == nil, e
		}, row(tested, []defect{clashDefect()})},
		{"Balanced", func(a args) (bool, api.Errno) {
			b, e := canvas.Balanced(a.l, a.t, a.head, a.push)
			return b.Whole == 0 && b.Parts == nil, e
		}, row(tested, []defect{
			outOfRange("a head below", func(a *args) { a.head = -1 }),
			outOfRange("a head above", func(a *args) { a.head = len(a.t) }),
			outOfRange("a push to the right", func(a *args) { a.push.X = api.MaxPush + 1 }),
			outOfRange("a push to the left", func(a *args) { a.push.X = -api.MaxPush - 1 }),
			outOfRange("a push up", func(a *args) { a.push.Y = api.MaxPush + 1 }),
			outOfRange("a push down", func(a *args) { a.push.Y = -api.MaxPush - 1 }),
			clashDefect(),
			{"too strong", api.ErrNone, func(a *args) { a.push = at(600, 0) }}})},
		{"Weakest", func(a args) (bool, api.Errno) {
			i, k, way, e := canvas.Weakest(a.l, a.t, a.wind)
			return i == 0 && k == 0 && way == at(0, 0), e
		}, row(tested, []defect{noCorners(), clashDefect()})},
		{"Reach", func(a args) (bool, api.Errno) {
			k, e := canvas.Reach(a.l, a.t, a.head, a.way)
			return k == 0, e
		}, row(tested, []defect{
			outOfRange("a head below", func(a *args) { a.head = -1 }),
			outOfRange("a head above", func(a *args) { a.head = len(a.t) }),
			outOfRange("no direction", func(a *args) { a.way = at(0, 0) }),
			outOfRange("a direction to the right", func(a *args) { a.way.X = api.MaxPush + 1 }),
			outOfRange("a direction to the left", func(a *args) { a.way.X = -api.MaxPush - 1 }),
			outOfRange("a direction up", func(a *args) { a.way.Y = api.MaxPush + 1 }),
			outOfRange("a direction down", func(a *args) { a.way.Y = -api.MaxPush - 1 }),
			clashDefect()})},
		{"Spares", func(a args) (bool, api.Errno) {
			s, e := canvas.Spares(a.l, a.t, a.wind)
			return s == nil, e
		}, row(tested, []defect{noCorners(), clashDefect(),
			{"it does not stand", api.ErrNone, func(a *args) { a.wind = append(a.wind, at(600, 0)) }}})},
		{"Clash", func(a args) (bool, api.Errno) {
			i, k, e := canvas.Clash(a.l)
			return i == 0 && k == 0, e
		}, row(testDefects(), []defect{{"none", api.ErrNone, func(*args) {}}})},
	} {
		for i, f := range x.defects {
			alone, late := goodArgs(), goodArgs()
			f.spoil(&alone)
			for k := len(x.defects) - 1; k >= i; k-- {
				if x.defects[k].want != f.want || k == i {
					x.defects[k].spoil(&late)
				}
			}
			for _, a := range []args{alone, late} {
				if zero, e := x.call(a); e != f.want || !zero {
					t.Error(x.name, f.name, e, zero)
				}
			}
		}
	}
}

// Rule R1: what is examined last does not hide that all is well.
func TestGoodArgs(t *testing.T) {
	a := goodArgs()
	_, holds := canvas.Holds(a.l, a.soil, a.depth)
	_, deep := canvas.Deep(a.l, a.soil, a.force)
	_, over := canvas.Overloaded(a.t)
	_, parts := canvas.Parts(a.l, a.t)
	_, balanced := canvas.Balanced(a.l, a.t, a.head, a.push)
	_, _, _, weakest := canvas.Weakest(a.l, a.t, a.wind)
	_, reach := canvas.Reach(a.l, a.t, a.head, a.way)
	_, spares := canvas.Spares(a.l, a.t, a.wind)
	for i, e := range []api.Errno{holds, deep, over, parts, balanced, weakest, reach, spares} {
		if e != api.OK {
			t.Error(i, e)
		}
	}
}

// Rule R7: numbers at their limits are in their range.
func TestLimitsAreIn(t *testing.T) {
	for _, soil := range []int{0, api.MaxSoils - 1} {
		for _, depth := range []int{1, api.MaxDepth} {
			if _, e := canvas.Holds(nil, soil, depth); e != api.OK {
				t.Error("Holds:", soil, depth, e)
			}
		}
		for _, force := range []int{0, api.MaxPull} {
			l := []canvas.Test{{Soil: soil, Depth: 1, Force: api.MaxPull, Held: true}}
			if _, e := canvas.Deep(l, soil, force); e != api.OK {
				t.Error("Deep:", soil, force, e)
			}
		}
	}
	for _, v := range []canvas.Vector{at(api.MaxPush, api.MaxPush), at(-api.MaxPush, -api.MaxPush), at(0, -1), at(-1, 0)} {
		if _, e := canvas.Balanced(nil, head(0), 0, v); e != api.OK {
			t.Error("Balanced:", v, e)
		}
		if _, e := canvas.Reach(nil, head(0), 0, v); e != api.OK {
			t.Error("Reach:", v, e)
		}
	}
}

// P1.6, P1.7: the errors of all with a wind.
func TestWindErrors(t *testing.T) {
	many := make([]canvas.Vector, api.MaxCorners+1)
	for _, x := range []struct {
		name string
		wind []canvas.Vector
		want api.Errno
	}{
		{"no wind", nil, api.ErrArg},
		{"no corners", []canvas.Vector{}, api.ErrArg},
		{"as many corners as there may be", many[1:], api.OK},
		{"one corner more", many, api.ErrArg},
		{"at the limits", []canvas.Vector{at(api.MaxPush, -api.MaxPush), at(-api.MaxPush, api.MaxPush)}, api.OK},
		{"beyond, to the right", []canvas.Vector{at(0, 0), at(api.MaxPush+1, 0)}, api.ErrArg},
		{"beyond, to the left", []canvas.Vector{at(-api.MaxPush-1, 0), at(0, 0)}, api.ErrArg},
		{"beyond, up", []canvas.Vector{at(0, 0), at(0, api.MaxPush+1)}, api.ErrArg},
		{"beyond, down", []canvas.Vector{at(0, -api.MaxPush-1), at(0, 0)}, api.ErrArg},
		{"the greatest numbers", []canvas.Vector{at(most, least)}, api.ErrArg},
	} {
		if _, _, _, e := canvas.Weakest(tests(), head(0), x.wind); e != x.want {
			t.Error("Weakest:", x.name, e)
		}
		if _, e := canvas.Spares(tests(), head(0), x.wind); e != x.want {
			t.Error("Spares:", x.name, e)
		}
	}
}

// P1: any arguments; a panic would end the test.
func TestAnyArguments(t *testing.T) {
	d := newDice(11)
	number := func() int {
		return []int{least, least + 1, -1 << 32, -10001, -1, 0, 1, 2, 5, 3000, 10001, 1 << 32, most - 1, most}[d.Intn(14)]
	}
	vector := func() canvas.Vector { return at(number(), number()) }
	for range 20000 {
		var l []canvas.Test
		for range d.from(0, 3) * d.from(0, 20) {
			l = append(l, canvas.Test{Soil: number(), Depth: number(), Force: number(), Held: d.Intn(2) == 0})
		}
		var tent canvas.Tent
		for range d.from(0, 2) * d.from(0, 8) {
			h := canvas.Head{Area: number(), Bears: number()}
			for range d.from(0, api.MaxGuys+1) {
				h.Guys = append(h.Guys, canvas.Guy{X: number(), Y: number(), Down: number(), Soil: number(), Depth: number()})
			}
			tent = append(tent, h)
		}
		if d.Intn(2) == 0 {
			l, tent = tests(), cross()
		}
		var wind []canvas.Vector
		for range d.from(0, api.MaxCorners+1) {
			wind = append(wind, vector())
		}
		callAll(l, tent, wind, number, vector)
	}
}

func callAll(l []canvas.Test, tent canvas.Tent, wind []canvas.Vector, number func() int, vector func() canvas.Vector) {
	canvas.CheckTests(l)
	canvas.CheckTent(tent)
	canvas.Clash(l)
	canvas.Holds(l, number(), number())
	canvas.Deep(l, number(), number())
	canvas.Overloaded(tent)
	canvas.Parts(l, tent)
	canvas.Balanced(l, tent, number(), vector())
	var parts []int
	for range 4 {
		parts = append(parts, number())
	}
	canvas.ProveBalance(l, tent, number(), vector(), canvas.Balance{Whole: number(), Parts: parts})
	canvas.ProveWeak(l, tent, number(), vector(), vector())
	canvas.Weakest(l, tent, wind)
	canvas.Reach(l, tent, number(), vector())
	canvas.Spares(l, tent, wind)
}
