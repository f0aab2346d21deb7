package flight_test

import (
	"slices"
	"testing"

	"bigtop/api"
	"bigtop/flight"
)

// args are what calls are made of; a defect spoils some of them.
type args struct {
	f              flight.Flight
	net            flight.Net
	act            []flight.Flight
	ticks, release int
	from, to       int
	need, rest     int
	window         flight.Window
	catches        []int
}

type defect struct {
	name  string
	want  api.Errno
	spoil func(*args)
}

func goodArgs() args {
	return args{
		f: leap(), net: over(to(300000, 600000), 0), act: act(leap(), leap()), ticks: 40, release: 100, to: 50, need: 2, rest: 5,
		window: win(0, 2), catches: []int{38, 40, 42},
	}
}

func notValid(name string, spoil func(*args)) defect { return defect{name, api.ErrArg, spoil} }

func outOfRange(name string, spoil func(*args)) defect { return defect{name, api.ErrRange, spoil} }

func flyerDefect() defect {
	return notValid("a flyer who is not valid", func(a *args) { a.f.Flyer.Mass = 0 })
}

func flightDefects() []defect {
	return []defect{
		flyerDefect(),
		notValid("a catcher who is not valid", func(a *args) { a.f.Catcher.Soft = 0 }),
		notValid("a flight that is not valid", func(a *args) { a.f.Least = 51 }),
	}
}

func netDefects() []defect {
	return []defect{
		flyerDefect(),
		notValid("a net without an x", func(a *args) { a.net.X = to(1, 0) }),
		notValid("a net too high up", func(a *args) { a.net.Height = api.MaxSpan + 1 }),
	}
}

func airDefects() []defect {
	return []defect{
		outOfRange("ticks below 0", func(a *args) { a.ticks = -1 }),
		outOfRange("too many ticks", func(a *args) { a.ticks = api.MaxAir + 1 }),
	}
}

func spanDefects() []defect {
	return []defect{
		outOfRange("from below 0", func(a *args) { a.from = -1 }),
		outOfRange("from too late", func(a *args) { a.from = api.MaxTick + 1; a.to = api.MaxTick + 2 }),
		outOfRange("to below 0", func(a *args) { a.from, a.to = -2, -1 }),
		outOfRange("to too late", func(a *args) { a.to = api.MaxTick + 1 }),
		outOfRange("from above to", func(a *args) { a.from, a.to = 6, 5 }),
	}
}

func chainDefects() []defect {
	return []defect{
		{"no flights", api.ErrLimit, func(a *args) { a.act = nil }},
		{"too many flights", api.ErrLimit, func(a *args) { a.act = slices.Repeat(act(leap()), api.MaxTricks+1) }},
		notValid("the first flight is not valid", func(a *args) {
			a.act = slices.Clone(a.act)
			if len(a.act) > 0 {
				a.act[0].Most = 29
			}
		}),
		notValid("the last flight is not valid", func(a *args) {
			a.act = slices.Clone(a.act)
			if len(a.act) > 0 {
				a.act[len(a.act)-1].Flyer.At.X = to(1, 0)
			}
		}),
		outOfRange("no need", func(a *args) { a.need = 0 }),
		outOfRange("too much need", func(a *args) { a.need = api.MaxRow + 1 }),
		outOfRange("a rest below 0", func(a *args) { a.rest = -1 }),
		outOfRange("too much rest", func(a *args) { a.rest = api.MaxRest + 1 }),
	}
}

// call has run, and zero tells whether all results beside the error are zero values.
type call struct {
	name    string
	run     func(args) (zero bool, e api.Errno)
	defects []defect
}

func calls() []call {
	weak := func(a *args) { a.f.Catcher.Bears = 0 }
	return []call{
		{"CheckFlight", func(a args) (bool, api.Errno) { return true, flight.CheckFlight(a.f) }, flightDefects()},
		{"After", func(a args) (bool, api.Errno) {
			b, e := flight.After(a.f.Flyer, a.ticks)
			return b == flight.Box{}, e
		}, append([]defect{flyerDefect()}, airDefects()...)},
		{"Load", func(a args) (bool, api.Errno) {
			n, e := flight.Load(a.f, a.ticks)
			return n == 0, e
		}, append(flightDefects(), airDefects()...)},
		{"Catches", func(a args) (bool, api.Errno) {
			l, e := flight.Catches(a.f, a.release)
			return len(l) == 0, e
		}, append(flightDefects(),
			outOfRange("a release below 0", func(a *args) { a.release = -1 }),
			outOfRange("a release too late", func(a *args) { a.release = api.MaxTick + 1 }))},
		{"Windows", func(a args) (bool, api.Errno) {
			l, e := flight.Windows(a.f, a.from, a.to)
			return len(l) == 0, e
		}, append(flightDefects(), spanDefects()...)},
		{"Widest", func(a args) (bool, api.Errno) {
			w, e := flight.Widest(a.f, a.from, a.to)
			return w == flight.Window{}, e
		}, slices.Concat(flightDefects(), spanDefects(), []defect{{"no release is good", api.ErrNone, weak}})},
		{"Landing", func(a args) (bool, api.Errno) {
			r, e := flight.Landing(a.f.Flyer, a.net)
			return r == flight.Range{}, e
		}, append(netDefects(), defect{"a net too far below", api.ErrNone, func(a *args) { a.net.Height = -api.MaxSpan }})},
		{"Takes", func(a args) (bool, api.Errno) {
			is, e := flight.Takes(a.f.Flyer, a.net)
			return !is, e
		}, netDefects()},
		{"Chain", func(a args) (bool, api.Errno) {
			l, at, e := flight.Chain(a.act, a.need, a.rest)
			return len(l) == 0 && at == 0, e
		}, append(chainDefects(), defect{"no chain", api.ErrNone, func(a *args) {
			a.act = slices.Clone(a.act)
			if len(a.act) > 0 {
				a.act[0].Catcher.Bears = 0
			}
		}})},
	}
}

// Rules R1 and R2, P4.2 to P4.6: each call gets each of its defects alone, and with all those that are examined later.
func TestErrors(t *testing.T) {
	for _, x := range calls() {
		if zero, e := x.run(goodArgs()); e != api.OK || zero && x.name != "CheckFlight" {
			t.Error(x.name, "without defects:", zero, e)
		}
		for i, f := range x.defects {
			alone, late := goodArgs(), goodArgs()
			f.spoil(&alone)
			for k := len(x.defects) - 1; k >= i; k-- {
				if x.defects[k].want != f.want || k == i {
					x.defects[k].spoil(&late)
				}
			}
			for _, a := range []args{alone, late} {
				if zero, e := x.run(a); e != f.want || !zero {
					t.Error(x.name, f.name, e, zero)
				}
			}
		}
	}
}

// P4.2 to P4.6 and rule R5: numbers of calls at their limits and beyond them.
func TestNumbersOfCalls(t *testing.T) {
	for _, x := range []struct {
		name   string
		run    func(int) api.Errno
		lo, hi int
	}{
		{"ticks of After", func(n int) api.Errno { _, e := flight.After(flyer(), n); return e }, 0, api.MaxAir},
		{"ticks of Load", func(n int) api.Errno { _, e := flight.Load(leap(), n); return e }, 0, api.MaxAir},
		{"release of Catches", func(n int) api.Errno { _, e := flight.Catches(leap(), n); return e }, 0, api.MaxTick},
		{"from of Windows", func(n int) api.Errno { _, e := flight.Windows(leap(), n, 9); return e }, 0, 9},
		{"to of Windows", func(n int) api.Errno { _, e := flight.Windows(leap(), 9, n); return e }, 9, api.MaxTick},
		{"from of Widest", func(n int) api.Errno { _, e := flight.Widest(leap(), n, 9); return e }, 0, 9},
		{"to of Widest", func(n int) api.Errno { _, e := flight.Widest(leap(), 9, n); return e }, 9, api.MaxTick},
		{"need of Chain", func(n int) api.Errno { _, _, e := flight.Chain(act(leap()), n, 5); return e }, 1, api.MaxRow},
		{"rest of Chain", func(n int) api.Errno { _, _, e := flight.Chain(act(leap()), 5, n); return e }, 0, api.MaxRest},
	} {
		for n, want := range map[int]api.Errno{x.lo: api.OK, x.hi: api.OK, x.lo - 1: api.ErrRange, x.hi + 1: api.ErrRange, lowest: api.ErrRange, highest: api.ErrRange} {
			if e := x.run(n); e != want {
				t.Error(x.name, n, e)
			}
		}
	}
	for _, l := range [][]flight.Flight{nil, {}, make([]flight.Flight, api.MaxTricks+1)} {
		if w, at, e := flight.Chain(l, 0, -1); len(w) > 0 || at != 0 || e != api.ErrLimit {
			t.Error("Chain of so many:", len(l), w, at, e)
		}
	}
	twelve := slices.Repeat(act(leap()), api.MaxTricks)
	if _, _, e := flight.Chain(twelve, 1, 0); e != api.OK {
		t.Error("Chain of MaxTricks:", e)
	}
	twelve[11].Most = 29
	if w, at, e := flight.Chain(twelve, 0, -1); len(w) > 0 || at != 0 || e != api.ErrArg {
		t.Error("Chain with a last flight that is not valid:", w, at, e)
	}
}

// Rule R4: no call changes an argument, and results are new memory.
func TestMemory(t *testing.T) {
	a := goodArgs()
	spare := make([]flight.Box, 1, 4)
	spare[0] = a.f.Catcher.Cycle[0]
	a.f.Catcher.Cycle = spare
	good := goodArgs()
	sure, _ := flight.Catches(a.f, a.release)
	l, _ := flight.Windows(a.f, a.from, a.to)
	chain, _, _ := flight.Chain(a.act, a.need, a.rest)
	flight.Widest(a.f, a.from, a.to)
	flight.Takes(a.f.Flyer, a.net)
	flight.ProveWindow(a.f, a.window, a.catches)
	sure[0], l[0], chain[0] = 77, win(77, 77), win(77, 77)
	if again, _ := flight.Windows(a.f, a.from, a.to); !slices.Equal(again, []flight.Window{win(0, 50)}) {
		t.Error("results share memory:", again)
	}
	if !sameFlight(a.f, good.f) || !slices.EqualFunc(a.act, good.act, sameFlight) || !slices.Equal(a.catches, good.catches) || spare[:2][1] != (flight.Box{}) {
		t.Error("an argument was changed:", a)
	}
}

// The same arguments give the same results.
func TestNoHiddenState(t *testing.T) {
	d := newDice(41)
	for range 100 {
		f, other := d.flight(), d.flight()
		l := windows(t, f, 0, 30)
		chained, at, e := flight.Chain(act(f, other), 2, 3)
		windows(t, other, 5, 50)
		flight.Chain(act(other, f), 1, 1)
		if again := windows(t, f, 0, 30); !slices.Equal(again, l) {
			t.Error("Windows:", f, l, again)
		}
		if again, k, g := flight.Chain(act(f, other), 2, 3); !slices.Equal(again, chained) || k != at || g != e {
			t.Error("Chain:", f, other, chained, again)
		}
	}
}

// P1: any arguments; a panic would end the test.
func TestAnyArguments(t *testing.T) {
	d := newDice(42)
	number := func() int {
		return []int{lowest, lowest + 1, -1 << 32, -api.MaxSpan, -2, -1, 0, 1, 2, 30, 300, 301, 6000, 6001, api.MaxSpan, 1 << 32, highest - 1, highest}[d.Intn(18)]
	}
	for range 3000 {
		a := goodArgs()
		a.ticks, a.release, a.need, a.rest = number(), number(), number(), number()
		for range d.from(0, 3) {
			d.spoil(&a, number)
		}
		callAll(a)
	}
	callAll(args{})
}

// spoil sets something to some number.
func (d dice) spoil(a *args, number func() int) {
	some := func() flight.Range { return to(number(), number()) }
	switch d.Intn(10) {
	case 0:
		a.f.Flyer.At = box(some(), some())
	case 1:
		a.f.Flyer.Speed = box(some(), some())
	case 2:
		a.f.Flyer.Mass, a.f.Catcher.Soft = number(), number()
	case 3:
		a.f.Catcher.Reach, a.f.Catcher.Bears = number(), number()
	case 4:
		a.f.Catcher.Cycle = append(slices.Clone(a.f.Catcher.Cycle), box(some(), some()))
	case 5:
		a.f.Least, a.f.Most = number(), number()
	case 6:
		a.net = over(some(), number())
	case 7:
		a.window, a.catches = win(number(), number()), append(slices.Clone(a.catches[:d.Intn(2)]), number())
	case 8:
		a.from, a.to = number(), number()
	case 9:
		a.act = slices.Repeat(act(a.f), d.from(0, 14))
	}
}

func callAll(a args) {
	flight.Swing(a.ticks, a.rest)
	flight.CheckFlight(a.f)
	flight.After(a.f.Flyer, a.ticks)
	flight.Load(a.f, a.ticks)
	flight.Catches(a.f, a.release)
	flight.Windows(a.f, a.from, a.to)
	flight.Widest(a.f, a.from, a.to)
	flight.ProveWindow(a.f, a.window, a.catches)
	flight.ProveWindow(a.f, win(0, 0), a.catches)
	flight.Landing(a.f.Flyer, a.net)
	flight.Takes(a.f.Flyer, a.net)
	flight.Chain(a.act, a.need, a.rest)
	flight.Chain(a.act, 1, 0)
}
