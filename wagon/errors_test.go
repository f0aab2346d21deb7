package wagon_test

import (
	"slices"
	"testing"

	"bigtop/api"
	"bigtop/wagon"
)

// args are what calls are made of; a defect spoils some of them.
type args struct {
	l       wagon.Lorry
	lorries []wagon.Lorry
	things  []wagon.Thing
	packing [][]int
	road    []wagon.Bridge
	climb   []int
	rules   wagon.Rules
	hours   int
}

type defect struct {
	name  string
	want  api.Errno
	spoil func(*args)
}

func goodArgs() args {
	return args{
		l: lorry(), lorries: train(lorry(), lorry()), things: things(), packing: in(list(0, 1), list(2, 3)),
		road: []wagon.Bridge{bridge(1400, 60), bridge(2000, 40)}, climb: list(0, 2), rules: rules(9, 4, 1, 11), hours: 10,
	}
}

func notValid(name string, spoil func(*args)) defect { return defect{name, api.ErrArg, spoil} }

func lorryDefects() []defect {
	return []defect{
		notValid("a lorry without lanes", func(a *args) { a.l.Lanes = nil }),
		notValid("a lorry that is too high", func(a *args) { a.l.Height = api.MaxHigh + 1 }),
	}
}

// spoilThing spoils a thing, and keeps how many there are.
func spoilThing(last bool, spoil func(*wagon.Thing)) func(*args) {
	return func(a *args) {
		a.things = slices.Clone(a.things)
		at := 0
		if last {
			at = len(a.things) - 1
		}
		spoil(&a.things[at])
	}
}

func thingDefects(most int) []defect {
	return []defect{
		{"too many things", api.ErrLimit, func(a *args) { a.things = slices.Concat(a.things, equally(most+1-len(a.things))) }},
		notValid("a first thing that is not valid", spoilThing(false, func(t *wagon.Thing) { t.Long = 0 })),
		notValid("a last thing that is not valid", spoilThing(true, func(t *wagon.Thing) { t.Need = -1 })),
	}
}

func packDefects() []defect {
	return slices.Concat(lorryDefects(), thingDefects(api.MaxThings), []defect{
		{"no room", api.ErrNone, func(a *args) { a.l.Lanes = list(1, 1) }},
		{"too heavy", api.ErrNone, func(a *args) { a.l.Carries = 649 }},
		{"too high", api.ErrNone, func(a *args) { a.l.Height = 29 }},
	})
}

func packingDefects() []defect {
	return slices.Concat(lorryDefects(), thingDefects(api.MaxThings), []defect{
		{"no packing", api.ErrFail, func(a *args) { a.packing = nil }},
		{"a thing twice", api.ErrFail, func(a *args) { a.packing = in(list(0, 1), list(2, 3, 3)) }},
		{"a thing in the way", api.ErrFail, func(a *args) { a.packing = in(list(1, 0), list(2, 3)) }},
	})
}

func roadDefects() []defect {
	return []defect{
		{"too many bridges", api.ErrLimit, func(a *args) { a.road = slices.Concat(a.road, make([]wagon.Bridge, api.MaxBridges)) }},
		notValid("a first bridge that is not valid", func(a *args) {
			a.road = slices.Clone(a.road)
			a.road[0].Limit = -1
		}),
		notValid("a last bridge that is not valid", func(a *args) {
			a.road = slices.Clone(a.road)
			a.road[len(a.road)-1].Clear = api.MaxClear + 1
		}),
	}
}

func trainDefects() []defect {
	return slices.Concat([]defect{
		notValid("no lorries", func(a *args) { a.lorries = nil }),
		notValid("too many lorries", func(a *args) { a.lorries = slices.Repeat(train(lorry()), api.MaxLorries+1) }),
		notValid("a first lorry that is not valid", func(a *args) { a.lorries = train(lanes(), lorry()) }),
		notValid("a last lorry that is not valid", func(a *args) { a.lorries = train(lorry(), lanes(0)) }),
	}, thingDefects(api.MaxCargo), []defect{
		{"a train that is too small", api.ErrNone, func(a *args) { a.lorries = train(lanes(19), lanes(49)) }},
	})
}

// call has run, and zero tells whether all results beside the error are zero values.
type call struct {
	name    string
	run     func(args) (zero bool, e api.Errno)
	defects []defect
}

func calls() []call {
	return []call{
		{"CheckLorry", func(a args) (bool, api.Errno) { return true, wagon.CheckLorry(a.l) }, lorryDefects()},
		{"Pack", func(a args) (bool, api.Errno) {
			l, e := wagon.Pack(a.l, a.things)
			return len(l) == 0, e
		}, packDefects()},
		{"Load", func(a args) (bool, api.Errno) {
			l, e := wagon.Load(a.l, a.things)
			return len(l) == 0, e
		}, packDefects()},
		{"Climb", func(a args) (bool, api.Errno) {
			l, e := wagon.Climb(a.things)
			return len(l) == 0, e
		}, thingDefects(api.MaxThings)},
		{"Axles", func(a args) (bool, api.Errno) {
			front, rear, holds, e := wagon.Axles(a.l, a.things, a.packing)
			return front == 0 && rear == 0 && !holds, e
		}, packingDefects()},
		{"Stops", func(a args) (bool, api.Errno) {
			l, e := wagon.Stops(a.l, a.things, a.packing, a.road)
			return len(l) == 0, e
		}, append(packingDefects(), roadDefects()...)},
		{"Fill", func(a args) (bool, api.Errno) {
			l, e := wagon.Fill(a.lorries, a.things)
			return len(l) == 0, e
		}, trainDefects()},
		{"Trip", func(a args) (bool, api.Errno) {
			n, e := wagon.Trip(a.rules, a.hours)
			return n == 0, e
		}, []defect{
			notValid("no hours in a shift", func(a *args) { a.rules.Drive, a.rules.Stint = 0, 0 }),
			notValid("a stint longer than a shift", func(a *args) { a.rules.Stint = 10 }),
			notValid("a rest too long", func(a *args) { a.rules.Rest = 25 }),
			{"hours below 0", api.ErrRange, func(a *args) { a.hours = -1 }},
			{"too many hours", api.ErrRange, func(a *args) { a.hours = api.MaxJourney + 1 }},
		}},
	}
}

// Rules R1 and R2, P5.1 to P5.6: each call gets each of its defects alone, and with all those that are examined later.
func TestErrors(t *testing.T) {
	for _, x := range calls() {
		if zero, e := x.run(goodArgs()); e != api.OK || zero && x.name != "CheckLorry" {
			t.Error(x.name, "without defects:", zero, e)
		}
		for i, f := range x.defects {
			alone, late := goodArgs(), goodArgs()
			f.spoil(&alone)
			for k := len(x.defects) - 1; k >= i; k-- {
				if x.defects[k].want != f.want || k == i {
					x.defects[k].spoil(&late)
				}
			}
			for _, a := range []args{alone, late} {
				if zero, e := x.run(a); e != f.want || !zero {
					t.Error(x.name, f.name, e, zero)
				}
			}
		}
	}
}

// Rule R1: the lorry is examined before the things, also where there are too many of them.
func TestLorryFirst(t *testing.T) {
	many := make([]wagon.Thing, 99)
	bad := lanes()
	for _, x := range []struct {
		name string
		l    wagon.Lorry
		want api.Errno
	}{{"both", bad, api.ErrArg}, {"things alone", lorry(), api.ErrLimit}} {
		_, e := wagon.Pack(x.l, many)
		_, loaded := wagon.Load(x.l, many)
		_, _, _, axles := wagon.Axles(x.l, many, nil)
		_, stops := wagon.Stops(x.l, many, nil, make([]wagon.Bridge, 99))
		_, fill := wagon.Fill(train(x.l), many)
		if e != x.want || loaded != x.want || axles != x.want || stops != x.want || fill != x.want {
			t.Error(x.name, e, loaded, axles, stops, fill)
		}
	}
	if _, e := wagon.Stops(lorry(), things(), in(list(1, 0), list(2, 3)), make([]wagon.Bridge, 99)); e != api.ErrFail {
		t.Error("a wrong packing and too many bridges:", e)
	}
	if _, e := wagon.Stops(lorry(), nil, in(nil, nil), make([]wagon.Bridge, api.MaxBridges+1)); e != api.ErrLimit {
		t.Error("a bridge too many:", e)
	}
}

// P5.2, P5.3 and P5.5: how many lorries and things there may be.
func TestSizes(t *testing.T) {
	for n, want := range map[int]api.Errno{0: api.OK, 1: api.OK, api.MaxThings: api.OK, api.MaxThings + 1: api.ErrLimit, api.MaxCargo: api.ErrLimit, 5000: api.ErrLimit} {
		_, e := wagon.Pack(lorry(), equally(n))
		_, loaded := wagon.Load(lorry(), equally(n))
		_, climb := wagon.Climb(equally(n))
		if e != want || loaded != want || climb != want {
			t.Error("things:", n, e, loaded, climb)
		}
	}
	big := lanes(100)
	for n, want := range map[int]api.Errno{0: api.ErrArg, 1: api.ErrNone, 2: api.ErrNone, 3: api.OK, api.MaxLorries: api.OK, api.MaxLorries + 1: api.ErrArg, 500: api.ErrArg} {
		if l, e := wagon.Fill(slices.Repeat(train(big), n), equally(api.MaxCargo)); e != want || e == api.OK && len(l) != n || e != api.OK && len(l) > 0 {
			t.Error("lorries:", n, l, e)
		}
	}
	for n, want := range map[int]api.Errno{0: api.OK, api.MaxThings + 1: api.OK, api.MaxCargo: api.OK, api.MaxCargo + 1: api.ErrLimit} {
		if _, e := wagon.Fill(train(big, big, big), equally(n)); e != want {
			t.Error("cargo:", n, e)
		}
	}
}

// Rule R4: no call changes an argument, and results are new memory.
func TestMemory(t *testing.T) {
	a, good := goodArgs(), goodArgs()
	spare := make([]int, 2, 6)
	copy(spare, a.l.Lanes)
	a.l.Lanes = spare
	row := make([]int, 2, 6)
	copy(row, a.packing[0])
	a.packing[0] = row
	packed, _ := wagon.Pack(a.l, a.things)
	loaded, _ := wagon.Load(a.l, a.things)
	filled, _ := wagon.Fill(a.lorries, a.things)
	climb, _ := wagon.Climb(a.things)
	stops, _ := wagon.Stops(a.l, a.things, a.packing, a.road)
	wagon.Axles(a.l, a.things, a.packing)
	wagon.ProveClimb(a.l, a.things, a.climb)
	wagon.Loadable(a.l, a.things, a.packing)
	packed[0][0], loaded[0][0], filled[0][0][0], climb[0], stops[0] = 77, 77, 77, 77, 77
	packed[0] = append(packed[0], 78)
	if loaded[1][0] != 2 || packed[1][0] != 2 || filled[0][1][0] != 2 {
		t.Error("results share memory:", packed, loaded, filled)
	}
	if !slices.Equal(a.l.Lanes, good.l.Lanes) || !slices.Equal(a.things, good.things) || !samePacking(a.packing, good.packing) ||
		!slices.Equal(a.road, good.road) || !slices.Equal(a.climb, good.climb) || !slices.EqualFunc(a.lorries, good.lorries, sameLorry) ||
		spare[:3][2] != 0 || row[:3][2] != 0 {
		t.Error("an argument was changed:", a)
	}
}

func sameLorry(a, b wagon.Lorry) bool {
	return slices.Equal(a.Lanes, b.Lanes) && a.Height == b.Height && a.Carries == b.Carries && a.Empty == b.Empty && a.Rear == b.Rear && a.Axle == b.Axle && a.Deck == b.Deck
}

// The same arguments give the same results.
func TestNoHiddenState(t *testing.T) {
	d := newDice(41)
	for range 200 {
		l, other := d.things(d.from(0, 9)), d.things(d.from(0, 9))
		by, bigger := d.lorryFor(l, d.from(1, 4)), d.lorryFor(other, d.from(1, 4))
		p, e := wagon.Pack(by, l)
		loaded, f := wagon.Load(by, l)
		wagon.Pack(bigger, other)
		wagon.Load(bigger, other)
		wagon.Fill(train(bigger, by), other)
		if again, g := wagon.Pack(by, l); !samePacking(p, again) || g != e {
			t.Error("Pack:", by, l, p, again)
		}
		if again, g := wagon.Load(by, l); !samePacking(loaded, again) || g != f {
			t.Error("Load:", by, l, loaded, again)
		}
	}
}

// P1: any arguments; a panic would end the test.
func TestAnyArguments(t *testing.T) {
	d := newDice(42)
	number := func() int {
		return []int{lowest, lowest + 1, -1 << 32, -2, -1, 0, 1, 2, 3, 13, 14, 15, 100, 2000, 2001, api.MaxHeavy, 1 << 32, highest - 1, highest}[d.Intn(19)]
	}
	for range 3000 {
		a := goodArgs()
		a.hours = number()
		for range d.from(0, 3) {
			d.spoil(&a, number)
		}
		callAll(a)
	}
	callAll(args{})
}

// spoil sets something to some number.
func (d dice) spoil(a *args, number func() int) {
	switch d.Intn(8) {
	case 0:
		a.l.Lanes = append(slices.Clone(a.l.Lanes[:d.Intn(len(a.l.Lanes)+1)]), number())
	case 1:
		a.l = wagon.Lorry{Lanes: a.l.Lanes, Height: number(), Carries: number(), Empty: number(), Rear: number(), Axle: number(), Deck: number()}
	case 2:
		a.lorries = slices.Repeat(train(a.l, lanes(number())), d.from(0, 4))
	case 3:
		a.things = append(slices.Clone(a.things), wagon.Thing{Long: number(), High: number(), Mass: number(), Need: number()})
	case 4:
		a.things = slices.Repeat(a.things, d.from(0, 12))
	case 5:
		a.packing = append(slices.Clone(a.packing[:d.Intn(len(a.packing)+1)]), list(number(), number()))
	case 6:
		a.climb = append(slices.Clone(a.climb[:d.Intn(2)]), number(), number())
		a.road = append(slices.Clone(a.road), bridge(number(), number()))
	case 7:
		a.rules = rules(number(), number(), number(), number())
	}
}

func callAll(a args) {
	wagon.CheckLorry(a.l)
	wagon.Right(a.l, a.things, a.packing)
	wagon.Loadable(a.l, a.things, a.packing)
	wagon.Pack(a.l, a.things)
	wagon.Load(a.l, a.things)
	wagon.Climb(a.things)
	wagon.ProveClimb(a.l, a.things, a.climb)
	wagon.Axles(a.l, a.things, a.packing)
	wagon.Stops(a.l, a.things, a.packing, a.road)
	wagon.Fill(a.lorries, a.things)
	wagon.Trip(a.rules, a.hours)
}
