package gale_test

import (
	"slices"
	"testing"

	"bigtop/api"
	"bigtop/canvas"
	"bigtop/gale"
)

// args are what calls are made of; a defect spoils one of them.
type args struct {
	l                        []gale.Forecast
	readings                 []gale.Reading
	tests                    []canvas.Test
	t                        canvas.Tent
	s                        gale.Site
	stage, now, out, minutes int
	limits, worst            []int
	h                        gale.Hall
}

type defect struct {
	name  string
	want  api.Errno
	spoil func(*args)
}

func goodArgs() args {
	return args{l: told(), readings: []gale.Reading{reading(0, 20, 24)}, tests: pulled(), t: tent(100), s: site(), stage: 1,
		limits: []int{30, 60, 1000}, worst: []int{20, 40, 70}, out: 12, h: ring(), minutes: 6}
}

// forecastDefects each leave room for those behind them.
func forecastDefects() []defect {
	return []defect{
		{"too many hours", api.ErrLimit, func(a *args) { a.l[0].Hours = make([]gale.Range, api.MaxAhead+1) }},
		{"a range that is none", api.ErrArg, func(a *args) { a.l[1].Hours[1] = to(5, 4) }},
		{"a name that is none", api.ErrName, func(a *args) { a.l = append(a.l, forecast("Squall", to(1, 2), to(1, 2))) }},
		{"two of a name", api.ErrTwice, func(a *args) { a.l = append(a.l, forecast("calm", to(1, 2), to(1, 2))) }},
	}
}

func readingDefects() []defect {
	return []defect{
		{"too many readings", api.ErrLimit, func(a *args) {
			a.readings = append(a.readings, slices.Repeat([]gale.Reading{reading(0, 20, 24)}, api.MaxReadings)...)
		}},
		{"no such hour", api.ErrRange, func(a *args) { a.readings = append(a.readings, reading(2, 20, 24)) }},
		{"no range of strengths", api.ErrArg, func(a *args) { a.readings = slices.Insert(a.readings, 0, reading(0, 5, 1001)) }},
	}
}

func testDefects() []defect {
	return []defect{
		{"too many tests", api.ErrLimit, func(a *args) { a.tests = append(a.tests, slices.Repeat(pulled()[:1], api.MaxTests)...) }},
		{"a test that is not valid", api.ErrArg, func(a *args) { a.tests = append(a.tests, canvas.Test{}) }},
	}
}

func tentDefect() defect {
	return defect{"a tent that is not valid", api.ErrArg, func(a *args) { a.t[0].Area = -1 }}
}

func siteDefect() defect {
	return defect{"a site that is not valid", api.ErrArg, func(a *args) { a.s.Open = 2 }}
}

func hallDefect() defect {
	return defect{"a hall that is not valid", api.ErrArg, func(a *args) { a.h.People[0] = 1 }}
}

func outOfRange(name string, spoil func(*args)) defect { return defect{name, api.ErrRange, spoil} }

// Rules R1 and R2, P2.1 to P2.5: each call gets each of its defects alone, and with all those that are examined later.
func TestErrors(t *testing.T) {
	for _, x := range []struct {
		name    string
		call    func(args) (zero bool, e api.Errno)
		defects []defect
	}{
		{"CheckForecasts", func(a args) (bool, api.Errno) { return true, gale.CheckForecasts(a.l) }, forecastDefects()},
		{"Strikes", func(a args) (bool, api.Errno) {
			left, strikes, e := gale.Strikes(a.l, a.readings)
			return left == nil && strikes == nil, e
		}, slices.Concat(forecastDefects(), readingDefects())},
		{"Worst", func(a args) (bool, api.Errno) {
			l, e := gale.Worst(a.l, a.readings)
			return l == nil, e
		}, slices.Concat(forecastDefects(), readingDefects(), []defect{
			{"none is left", api.ErrNone, func(a *args) { a.readings = append(a.readings, reading(0, 0, 1)) }}})},
		{"CheckSite", func(a args) (bool, api.Errno) { return true, gale.CheckSite(a.s) }, []defect{siteDefect()}},
		{"Reefed", func(a args) (bool, api.Errno) {
			x, e := gale.Reefed(a.t, a.s, a.stage)
			return x == nil, e
		}, []defect{tentDefect(), siteDefect(),
			outOfRange("a stage below", func(a *args) { a.stage = -1 }),
			outOfRange("a stage above", func(a *args) { a.stage = 3 })}},
		{"Limits", func(a args) (bool, api.Errno) {
			l, e := gale.Limits(a.tests, a.t, a.s)
			return l == nil, e
		}, slices.Concat(testDefects(), []defect{tentDefect(), siteDefect(),
			{"tests clash", api.ErrFail, func(a *args) { a.tests = append(a.tests, clashing()[2:]...) }}})},
		{"Plan", func(a args) (bool, api.Errno) {
			begin, call, e := gale.Plan(a.s, a.limits, a.worst, a.now, a.out)
			return begin == nil && call == 0, e
		}, []defect{siteDefect(),
			outOfRange("a limit too few", func(a *args) { a.limits = a.limits[1:] }),
			outOfRange("no hours", func(a *args) { a.worst = nil }),
			outOfRange("no such stage", func(a *args) { a.now = 3 }),
			outOfRange("out too late", func(a *args) { a.out = api.MaxOut + 1 }),
			{"it is too late", api.ErrLate, func(a *args) { a.worst = []int{20, 70} }}}},
		{"CheckHall", func(a args) (bool, api.Errno) { return true, gale.CheckHall(a.h) }, []defect{hallDefect()}},
		{"Leave", func(a args) (bool, api.Errno) {
			minutes, plan, e := gale.Leave(a.h)
			return minutes == 0 && plan == nil, e
		}, []defect{hallDefect(),
			{"they do not come out", api.ErrNone, func(a *args) { a.h.Ways[0].Cap = 0 }}}},
		{"Stuck", func(a args) (bool, api.Errno) {
			cut, e := gale.Stuck(a.h, a.minutes)
			return cut == nil, e
		}, []defect{hallDefect(),
			outOfRange("minutes below 0", func(a *args) { a.minutes = -1 }),
			outOfRange("too many minutes", func(a *args) { a.minutes = api.MaxOut + 1 }),
			{"they come out", api.ErrNone, func(a *args) { a.h.Ways[0].Cap = 100; a.h.Ways[1].Cap = 100 }}}},
	} {
		if zero, e := x.call(goodArgs()); e != api.OK || zero && x.name[:5] != "Check" {
			t.Error(x.name, "without defects:", zero, e)
		}
		for i, f := range x.defects {
			alone, late := goodArgs(), goodArgs()
			f.spoil(&alone)
			for k := len(x.defects) - 1; k >= i; k-- {
				if x.defects[k].want != f.want || k == i {
					x.defects[k].spoil(&late)
				}
			}
			for _, a := range []args{alone, late} {
				if zero, e := x.call(a); e != f.want || !zero && x.name[:5] != "Check" {
					t.Error(x.name, f.name, e, zero)
				}
			}
		}
	}
}

// Rule R1: the questions about forecasts come one after the other, and those about tests before those about a tent.
func TestOrderOfErrors(t *testing.T) {
	bad := forecast("9", to(5, 4))
	for _, x := range []struct {
		name string
		l    []gale.Forecast
		want api.Errno
	}{
		{"too many of bad ranges and names", slices.Repeat([]gale.Forecast{bad}, api.MaxForecasts+1), api.ErrLimit},
		{"a bad range before too many hours", []gale.Forecast{bad, forecast("a", make([]gale.Range, api.MaxAhead+1)...)}, api.ErrLimit},
		{"a bad name before a bad range", []gale.Forecast{forecast("9", to(4, 5)), forecast("a", to(5, 4))}, api.ErrArg},
		{"a bad name before fewer hours", []gale.Forecast{forecast("9", to(4, 5)), forecast("a")}, api.ErrArg},
		{"a bad name twice", []gale.Forecast{forecast("9", to(4, 5)), forecast("9", to(4, 5))}, api.ErrName},
		{"a name twice before a bad name", []gale.Forecast{forecast("a", to(4, 5)), forecast("a", to(4, 5)), forecast("", to(4, 5))}, api.ErrName},
	} {
		if e := gale.CheckForecasts(x.l); e != x.want {
			t.Error(x.name, e)
		}
		if _, _, e := gale.Strikes(x.l, make([]gale.Reading, api.MaxReadings+1)); e != x.want {
			t.Error(x.name, "with too many readings:", e)
		}
	}
	many := slices.Repeat([]canvas.Test{{}}, api.MaxTests+1)
	for _, x := range []struct {
		name  string
		tests []canvas.Test
		t     canvas.Tent
		s     gale.Site
		want  api.Errno
	}{
		{"too many tests, no tent, no site", many, nil, gale.Site{}, api.ErrLimit},
		{"no tent", clashing(), nil, site(), api.ErrArg},
		{"no site", clashing(), tent(1), gale.Site{}, api.ErrArg},
		{"tests clash", clashing(), tent(1), site(), api.ErrFail},
	} {
		if l, e := gale.Limits(x.tests, x.t, x.s); e != x.want || l != nil {
			t.Error(x.name, l, e)
		}
	}
}

// Rule R4: no call changes an argument, and results are new memory.
func TestMemory(t *testing.T) {
	a := goodArgs()
	small, _ := gale.Reefed(a.t, a.s, 0)
	small[0].Area, small[0].Guys[0].X = 5, 5
	_ = append(small[0].Guys[:1], canvas.Guy{})
	limits, _ := gale.Limits(a.tests, a.t, a.s)
	winds, _ := gale.Worst(a.l, a.readings)
	left, strikes, _ := gale.Strikes(a.l, a.readings)
	begin, _, _ := gale.Plan(a.s, a.limits, a.worst, a.now, a.out)
	_, plan, _ := gale.Leave(a.h)
	cut, _ := gale.Stuck(a.h, a.minutes)
	gale.ProveStuck(a.h, a.minutes, cut)
	second := slices.Clone(plan[1])
	for _, l := range [][]int{limits, winds, left, begin, cut, plan[0]} {
		l[0] = 77
		_ = append(l, 77)
	}
	if !slices.Equal(plan[1], second) {
		t.Error("the lists of a plan share their memory:", plan)
	}
	strikes[0].Forecast = 77
	good := goodArgs()
	if !slices.EqualFunc(a.l, good.l, func(f, g gale.Forecast) bool { return f.Name == g.Name && slices.Equal(f.Hours, g.Hours) }) ||
		!slices.Equal(a.readings, good.readings) || !slices.Equal(a.tests, good.tests) || !sameTent(a.t, good.t) || !sameSite(a.s, good.s) ||
		!slices.Equal(a.limits, good.limits) || !slices.Equal(a.worst, good.worst) || !sameHall(a.h, good.h) {
		t.Error("an argument was changed:", a)
	}
}

// Rule R4: a proof leaves its plan and its cut as they are.
func TestProofsChangeNothing(t *testing.T) {
	plan, cut := [][]int{{10, 10, 10, 10, 10, 10, 10}, {5, 5, 5, 5, 0, 0, 0}}, []int{7, 0, 0}
	for range 2 {
		if !gale.ProveOut(ring(), 7, plan) || !gale.ProveStuck(ring(), 6, cut) {
			t.Error(plan, cut)
		}
	}
	if h := ring(); !gale.ProveOut(h, 7, plan) || !sameHall(h, ring()) {
		t.Error("the hall was changed:", h)
	}
}

// The same arguments give the same results, also where several would do.
func TestNoHiddenState(t *testing.T) {
	d := newDice(8)
	for range 50 {
		h := d.largeHall()
		minutes, plan, _ := gale.Leave(h)
		cut, _ := gale.Stuck(h, 5)
		for range 3 {
			again, other, _ := gale.Leave(h)
			if again != minutes || !slices.EqualFunc(plan, other, slices.Equal[[]int]) {
				t.Error("Leave:", h)
			}
			if other, _ := gale.Stuck(h, 5); !slices.Equal(cut, other) {
				t.Error("Stuck:", h)
			}
		}
	}
}

// P1: any arguments; a panic would end the test.
func TestAnyArguments(t *testing.T) {
	d := newDice(9)
	number := func() int {
		return []int{lowest, lowest + 1, -1 << 32, -1, 0, 1, 2, 5, 60, 61, 1000, 1001, 1 << 32, highest - 1, highest}[d.Intn(15)]
	}
	numbers := func() []int {
		var l []int
		for range d.from(0, 4) * d.from(0, 3) {
			l = append(l, number())
		}
		return l
	}
	for range 20000 {
		a := goodArgs()
		a.stage, a.now, a.out, a.minutes = number(), number(), number(), number()
		if d.Intn(2) == 0 {
			a.limits, a.worst = numbers(), numbers()
		}
		for range d.from(0, 3) {
			d.spoil(&a, number)
		}
		callAll(a, numbers)
	}
	callAll(args{}, numbers)
}

// spoil sets something to some number.
func (d dice) spoil(a *args, number func() int) {
	switch d.Intn(12) {
	case 0:
		a.l = append(a.l, forecast("a", to(number(), number()), to(number(), number())))
	case 1:
		a.l = a.l[:d.Intn(len(a.l)+1)]
	case 2:
		a.readings = append(a.readings, reading(number(), number(), number()))
	case 3:
		a.tests = append(a.tests, canvas.Test{Soil: number(), Depth: number(), Force: number(), Held: true})
	case 4:
		a.t = append(a.t, canvas.Head{Area: number(), Bears: number(), Guys: []canvas.Guy{{X: number(), Y: number(), Depth: number()}}})
	case 5:
		a.s.Base = append(a.s.Base, canvas.Vector{X: number(), Y: number()})
	case 6:
		a.s.Levels = append(a.s.Levels, gale.Level{Upto: number(), Push: number()})
	case 7:
		a.s.Stages = append(a.s.Stages, gale.Stage{Cover: number(), Minutes: number()})
	case 8:
		a.s.Open = number()
	case 9:
		a.h.People = append(a.h.People, number())
	case 10:
		a.h.Ways = append(a.h.Ways, way(number(), number(), number(), number()))
	case 11:
		a.s.Stages, a.h.People = a.s.Stages[:d.Intn(2)], a.h.People[:d.Intn(2)]
	}
}

func callAll(a args, numbers func() []int) {
	gale.CheckForecasts(a.l)
	gale.Strikes(a.l, a.readings)
	gale.Worst(a.l, a.readings)
	gale.CheckSite(a.s)
	gale.Reefed(a.t, a.s, a.stage)
	gale.Limits(a.tests, a.t, a.s)
	gale.Plan(a.s, a.limits, a.worst, a.now, a.out)
	gale.Plan(a.s, a.limits, a.worst, 0, 5)
	gale.CheckHall(a.h)
	gale.Leave(a.h)
	gale.ProveOut(a.h, a.minutes, [][]int{numbers(), numbers()})
	gale.ProveOut(a.h, 2, [][]int{append(numbers(), 1, 1)[:2], append(numbers(), 1, 1)[:2]})
	gale.Stuck(a.h, a.minutes)
	gale.Stuck(a.h, 5)
	gale.ProveStuck(a.h, a.minutes, numbers())
	gale.ProveStuck(a.h, 5, append([]int{6}, numbers()...))
}
