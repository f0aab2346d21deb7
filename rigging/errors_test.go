package rigging_test

import (
	"slices"
	"testing"

	"bigtop/api"
	"bigtop/rigging"
)

// args are what calls are made of; a defect spoils some of them.
type args struct {
	r                  rigging.Rig
	pulls              []int
	at                 rigging.Place
	kind               uint8
	gear               []rigging.Gear
	log                []rigging.Entry
	number, day, hours int
}

type defect struct {
	name  string
	want  api.Errno
	spoil func(*args)
}

// goodArgs are a rig that holds, and gear that is stale.
func goodArgs() args {
	gear, log := winch()
	return args{r: lightShow(), pulls: []int{150, 60}, at: on(0, 25), gear: gear, log: log, day: 7, hours: 1}
}

// wrongArgs are a rig with a part that may be over, and a hanger that may be slack.
func wrongArgs() args {
	a := goodArgs()
	a.r.Loads[1] = load(on(0, 0), rigging.Still, 60, 2000)
	return a
}

func rigDefect() defect {
	return defect{"a rig that is not valid", api.ErrArg, func(a *args) { a.r.Factors[2] = 999 }}
}

func outOfRange(name string, spoil func(*args)) defect { return defect{name, api.ErrRange, spoil} }

// logDefects each leave room for those behind them.
func logDefects() []defect {
	return []defect{
		{"too many gears", api.ErrLimit, func(a *args) {
			a.gear = append(a.gear, slices.Repeat([]rigging.Gear{{Days: 1, Hours: 1}}, api.MaxGear)...)
		}},
		{"too many entries", api.ErrLimit, func(a *args) {
			a.log = append(a.log, slices.Repeat([]rigging.Entry{entry(7, 0, 1)}, api.MaxNotes)...)
		}},
		{"a gear that is not as described", api.ErrArg, func(a *args) { a.gear = append(a.gear, rigging.Gear{}) }},
		{"an entry that is not as described", api.ErrArg, func(a *args) { a.log[1].Hours = 25 }},
		{"days that fall", api.ErrArg, func(a *args) { a.log[0].Day = 7 }},
	}
}

func noDay() []defect {
	return []defect{
		outOfRange("a day below 0", func(a *args) { a.day = -1 }),
		outOfRange("a day too late", func(a *args) { a.day = api.MaxDay + 1 }),
	}
}

// call has the good arguments for it; zero tells whether all results beside the error are zero values.
type call struct {
	name    string
	good    func() args
	run     func(args) (zero bool, e api.Errno)
	defects []defect
}

func rigCalls() []call {
	return []call{
		{"CheckRig", goodArgs, func(a args) (bool, api.Errno) { return true, rigging.CheckRig(a.r) }, []defect{rigDefect()}},
		{"Bears", goodArgs, func(a args) (bool, api.Errno) {
			points, hangers, e := rigging.Bears(a.r, a.pulls)
			return points == nil && hangers == nil, e
		}, []defect{rigDefect(),
			outOfRange("a pull too few", func(a *args) { a.pulls = a.pulls[:1] }),
			outOfRange("a pull that is too great", func(a *args) { a.pulls[1] = 61 })}},
		{"Ranges", goodArgs, func(a args) (bool, api.Errno) {
			points, hangers, e := rigging.Ranges(a.r)
			return points == nil && hangers == nil, e
		}, []defect{rigDefect()}},
		{"Over", wrongArgs, func(a args) (bool, api.Errno) {
			part, pulls, e := rigging.Over(a.r)
			return part == rigging.Part{} && pulls == nil, e
		}, []defect{rigDefect(), {"nothing is over", api.ErrNone, func(a *args) { a.r.Loads = nil }}}},
		{"Slack", wrongArgs, func(a args) (bool, api.Errno) {
			part, pulls, e := rigging.Slack(a.r)
			return part == rigging.Part{} && pulls == nil, e
		}, []defect{rigDefect(), {"nothing is slack", api.ErrNone, func(a *args) { a.r.Loads = nil }}}},
		{"Room", goodArgs, func(a args) (bool, api.Errno) {
			n, e := rigging.Room(a.r, a.at, a.kind)
			return n == 0, e
		}, []defect{rigDefect(),
			outOfRange("no such place", func(a *args) { a.at = on(0, 61) }),
			outOfRange("no such kind", func(a *args) { a.kind = 3 }),
			{"too many loads", api.ErrLimit, func(a *args) {
				a.r = loaded(a.r, slices.Repeat([]rigging.Load{load(point(0), 0, 0, 0)}, api.MaxLoads-2)...)
			}},
			{"a part may be over", api.ErrFail, func(a *args) { a.r.Points[0] = 109 }},
			{"a hanger may be slack", api.ErrFail, func(a *args) { a.r.Loads[1].Hi = 2000; a.r.Points[0] = 9999; a.r.Beams[0].Strength = 9999 }}}},
	}
}

func logCalls() []call {
	return []call{
		{"CheckLog", goodArgs, func(a args) (bool, api.Errno) { return true, rigging.CheckLog(a.gear, a.log) }, logDefects()},
		{"Stale", goodArgs, func(a args) (bool, api.Errno) {
			l, e := rigging.Stale(a.gear, a.log, a.day)
			return l == nil, e
		}, slices.Concat(logDefects(), noDay())},
		{"Until", goodArgs, func(a args) (bool, api.Errno) {
			n, e := rigging.Until(a.gear, a.log, a.number, a.day, a.hours)
			return n == 0, e
		}, slices.Concat(logDefects(), noDay(), []defect{
			outOfRange("a gear below 0", func(a *args) { a.number = -1 }),
			outOfRange("no such gear", func(a *args) { a.number = 1 }),
			outOfRange("hours below 0", func(a *args) { a.hours = -1 }),
			outOfRange("too many hours", func(a *args) { a.hours = 25 })})},
	}
}

// Rules R1 and R2, P3.1 to P3.6: each call gets each of its defects alone, and with all those that are examined later.
func TestErrors(t *testing.T) {
	for _, x := range append(rigCalls(), logCalls()...) {
		if zero, e := x.run(x.good()); e != api.OK || zero && x.name[:5] != "Check" {
			t.Error(x.name, "without defects:", zero, e)
		}
		for i, f := range x.defects {
			alone, late := x.good(), x.good()
			f.spoil(&alone)
			for k := len(x.defects) - 1; k >= i; k-- {
				if x.defects[k].want != f.want || k == i {
					x.defects[k].spoil(&late)
				}
			}
			for _, a := range []args{alone, late} {
				if zero, e := x.run(a); e != f.want || !zero {
					t.Error(x.name, f.name, e, zero)
				}
			}
		}
	}
}

// P3.6 and rule R5: the numbers of Stale and Until at their limits and beyond them.
func TestNumbersOfLogs(t *testing.T) {
	gear, log := winch()
	gear = append(gear, rigging.Gear{Days: 5, Hours: 5})
	for _, x := range []struct {
		name   string
		run    func(int) api.Errno
		lo, hi int
	}{
		{"day of Stale", func(n int) api.Errno { _, e := rigging.Stale(gear, log, n); return e }, 0, api.MaxDay},
		{"number of Until", func(n int) api.Errno { _, e := rigging.Until(gear, log, n, 5, 1); return e }, 0, 1},
		{"day of Until", func(n int) api.Errno { _, e := rigging.Until(gear, log, 0, n, 1); return e }, 0, api.MaxDay},
		{"hours of Until", func(n int) api.Errno { _, e := rigging.Until(gear, log, 0, 5, n); return e }, 0, 24},
	} {
		for n, want := range map[int]api.Errno{x.lo: api.OK, x.hi: api.OK, x.lo - 1: api.ErrRange, x.hi + 1: api.ErrRange, lowest: api.ErrRange, highest: api.ErrRange} {
			if e := x.run(n); e != want {
				t.Error(x.name, n, e)
			}
		}
	}
	if n, e := rigging.Until(nil, nil, 0, 5, 1); n != 0 || e != api.ErrRange {
		t.Error("Until of no gear:", n, e)
	}
}

// Rule R4: no call changes an argument, and results are new memory.
func TestMemory(t *testing.T) {
	a, w := goodArgs(), wrongArgs()
	spare := make([]rigging.Load, 2, 5)
	copy(spare, a.r.Loads)
	a.r.Loads = spare
	points, hangers, _ := rigging.Bears(a.r, a.pulls)
	ranges, both, _ := rigging.Ranges(a.r)
	_, over, _ := rigging.Over(w.r)
	_, slack, _ := rigging.Slack(w.r)
	rigging.Room(a.r, a.at, a.kind)
	stale, _ := rigging.Stale(a.gear, a.log, a.day)
	rigging.Until(a.gear, a.log, a.number, a.day, a.hours)
	for _, l := range [][]int{points, over, slack, stale} {
		l[0] = 77
		_ = append(l, 77)
	}
	hangers[0][0], ranges[0].Lo, both[0][0].Lo = 77, 77, 77
	if spare[:5][2] != (rigging.Load{}) {
		t.Error("a load was written behind those of the rig:", spare[:5])
	}
	for _, x := range [][2]args{{a, goodArgs()}, {w, wrongArgs()}} {
		if got, good := x[0], x[1]; !sameRig(got.r, good.r) || !slices.Equal(got.pulls, good.pulls) || !slices.Equal(got.gear, good.gear) || !slices.Equal(got.log, good.log) {
			t.Error("an argument was changed:", got)
		}
	}
}

// The same arguments give the same results.
func TestNoHiddenState(t *testing.T) {
	d := newDice(31)
	for range 50 {
		r, other := d.calm(5, 5), d.calm(5, 5)
		at, kind := d.place(r), uint8(d.Intn(3))
		p, pulls, e := rigging.Over(r)
		room, f := rigging.Room(r, at, kind)
		rigging.Over(other)
		rigging.Room(other, point(0), 0)
		if q, again, g := rigging.Over(r); p != q || !slices.Equal(pulls, again) || e != g {
			t.Error("Over:", r, p, q)
		}
		if n, g := rigging.Room(r, at, kind); n != room || f != g {
			t.Error("Room:", r, room, n)
		}
	}
}

// P1: any arguments; a panic would end the test.
func TestAnyArguments(t *testing.T) {
	d := newDice(32)
	number := func() int {
		return []int{lowest, lowest + 1, -1 << 32, -2, -1, 0, 1, 2, 10, 30, 60, 61, 1000, 1000001, 1 << 32, highest - 1, highest}[d.Intn(17)]
	}
	for range 20000 {
		a := goodArgs()
		a.at, a.kind = rigging.Place{Beam: number(), At: number()}, uint8(number())
		a.number, a.day, a.hours = number(), number(), number()
		for range d.from(0, 3) {
			d.spoil(&a, number)
		}
		callAll(a)
	}
	callAll(args{})
}

// spoil sets something to some number.
func (d dice) spoil(a *args, number func() int) {
	place := func() rigging.Place { return rigging.Place{Beam: number(), At: number()} }
	switch d.Intn(9) {
	case 0:
		a.r.Points = append(a.r.Points[:d.Intn(2)], number())
	case 1:
		a.r.Beams = append(a.r.Beams, beam(number(), number(), place(), place(), number(), number()))
	case 2:
		a.r.Beams = append(a.r.Beams, beam(0, 60, place(), place(), 0, 0))
	case 3:
		a.r.Factors[d.Intn(3)] = number()
	case 4:
		a.r.Loads = append(a.r.Loads, load(place(), uint8(number()), number(), number()))
	case 5:
		a.pulls = append(a.pulls[:d.Intn(2)], number())
	case 6:
		a.gear = append(a.gear, rigging.Gear{Days: number(), Hours: number()})
	case 7:
		a.log = append(a.log, rigging.Entry{Day: number(), Number: number(), Hours: number(), Checked: d.Intn(2) == 0})
	case 8:
		a.r.Beams = slices.Repeat(a.r.Beams, d.from(0, 14))
	}
}

func callAll(a args) {
	rigging.CheckRig(a.r)
	rigging.Bears(a.r, a.pulls)
	rigging.Ranges(a.r)
	rigging.Over(a.r)
	rigging.Slack(a.r)
	rigging.Room(a.r, a.at, a.kind)
	rigging.Room(a.r, on(0, 30), a.kind)
	rigging.CheckLog(a.gear, a.log)
	rigging.Stale(a.gear, a.log, a.day)
	rigging.Stale(a.gear, a.log, 5)
	rigging.Until(a.gear, a.log, a.number, a.day, a.hours)
	rigging.Until(a.gear, a.log, 0, 5, 1)
}
