package flight_test

import (
	"slices"
	"testing"

	"bigtop/api"
	"bigtop/flight"
)

func after(t *testing.T, f flight.Flyer, ticks int) flight.Box {
	t.Helper()
	b, e := flight.After(f, ticks)
	if e != api.OK {
		t.Fatal("After:", f, ticks, e)
	}
	return b
}

func loadOf(t *testing.T, f flight.Flight, ticks int) int {
	t.Helper()
	n, e := flight.Load(f, ticks)
	if e != api.OK {
		t.Fatal("Load:", f, ticks, e)
	}
	return n
}

// P4.2: each number of a flight at its limits and beyond them.
func TestCheckFlightNumbers(t *testing.T) {
	checkNumbers(t, leap, flight.CheckFlight, []number[flight.Flight]{
		{"x at its lowest", func(f *flight.Flight, n int) { f.Flyer.At.X.Lo = n }, -api.MaxSpan, 1000},
		{"x at its highest", func(f *flight.Flight, n int) { f.Flyer.At.X.Hi = n }, 0, api.MaxSpan},
		{"z at its lowest", func(f *flight.Flight, n int) { f.Flyer.At.Z.Lo = n }, -api.MaxSpan, 500000},
		{"z at its highest", func(f *flight.Flight, n int) { f.Flyer.At.Z.Hi = n }, 500000, api.MaxSpan},
		{"speed along at its lowest", func(f *flight.Flight, n int) { f.Flyer.Speed.X.Lo = n }, -api.MaxSpeed, 3000},
		{"speed along at its highest", func(f *flight.Flight, n int) { f.Flyer.Speed.X.Hi = n }, 3000, api.MaxSpeed},
		{"speed upwards at its lowest", func(f *flight.Flight, n int) { f.Flyer.Speed.Z.Lo = n }, -api.MaxSpeed, 2010},
		{"speed upwards at its highest", func(f *flight.Flight, n int) { f.Flyer.Speed.Z.Hi = n }, 2000, api.MaxSpeed},
		{"mass", func(f *flight.Flight, n int) { f.Flyer.Mass = n }, 1, api.MaxWeight},
		{"hands, x at its lowest", func(f *flight.Flight, n int) { f.Catcher.Cycle[0].X.Lo = n }, -api.MaxSpan, 116000},
		{"hands, x at its highest", func(f *flight.Flight, n int) { f.Catcher.Cycle[0].X.Hi = n }, 115000, api.MaxSpan},
		{"hands, z at its lowest", func(f *flight.Flight, n int) { f.Catcher.Cycle[0].Z.Lo = n }, -api.MaxSpan, 503000},
		{"hands, z at its highest", func(f *flight.Flight, n int) { f.Catcher.Cycle[0].Z.Hi = n }, 501000, api.MaxSpan},
		{"reach", func(f *flight.Flight, n int) { f.Catcher.Reach = n }, 0, api.MaxSpan},
		{"soft", func(f *flight.Flight, n int) { f.Catcher.Soft = n }, 1, api.MaxSoft},
		{"bears", func(f *flight.Flight, n int) { f.Catcher.Bears = n }, 0, api.MaxBears},
		{"least", func(f *flight.Flight, n int) { f.Least = n }, 0, 50},
		{"most", func(f *flight.Flight, n int) { f.Most = n }, 30, api.MaxAir},
	})
}

// P4.2: boxes of a single point, and at both ends of all that may be, are valid; cycles have a box to MaxCycle of them.
func TestCheckFlightShapes(t *testing.T) {
	whole := to(-api.MaxSpan, api.MaxSpan)
	cycle := func(n int) func(*flight.Flight) {
		return func(f *flight.Flight) { f.Catcher.Cycle = slices.Repeat(f.Catcher.Cycle, n) }
	}
	last := func(b flight.Box) func(*flight.Flight) {
		return func(f *flight.Flight) { f.Catcher.Cycle = append(slices.Repeat(f.Catcher.Cycle, 9), b) }
	}
	for _, x := range []struct {
		name  string
		spoil func(*flight.Flight)
		want  api.Errno
	}{
		{"as it is", func(*flight.Flight) {}, api.OK},
		{"a single point", func(f *flight.Flight) { f.Flyer.At, f.Flyer.Speed = spot(5, 5), spot(5, 5) }, api.OK},
		{"anywhere", func(f *flight.Flight) { f.Flyer.At = box(whole, whole) }, api.OK},
		{"as low as can be", func(f *flight.Flight) { f.Flyer.At = spot(-api.MaxSpan, -api.MaxSpan) }, api.OK},
		{"Least equal to Most", func(f *flight.Flight) { f.Least, f.Most = 40, 40 }, api.OK},
		{"at once", func(f *flight.Flight) { f.Least, f.Most = 0, 0 }, api.OK},
		{"as late as can be", func(f *flight.Flight) { f.Least, f.Most = api.MaxAir, api.MaxAir }, api.OK},
		{"Least above Most", func(f *flight.Flight) { f.Least, f.Most = 41, 40 }, api.ErrArg},
		{"no hands", func(f *flight.Flight) { f.Catcher.Cycle = nil }, api.ErrArg},
		{"no hands in a list", func(f *flight.Flight) { f.Catcher.Cycle = []flight.Box{} }, api.ErrArg},
		{"a long cycle", cycle(api.MaxCycle), api.OK},
		{"one box more", cycle(api.MaxCycle + 1), api.ErrArg},
		{"hands anywhere", last(box(whole, whole)), api.OK},
		{"last hands without an x", last(box(to(1, 0), just(0))), api.ErrArg},
		{"last hands without a z", last(box(just(0), to(1, 0))), api.ErrArg},
		{"last hands too far away", last(spot(api.MaxSpan+1, 0)), api.ErrArg},
		{"last hands too low", last(spot(0, -api.MaxSpan-1)), api.ErrArg},
		{"nobody", func(f *flight.Flight) { *f = flight.Flight{} }, api.ErrArg},
	} {
		f := leap()
		x.spoil(&f)
		if e := flight.CheckFlight(f); e != x.want {
			t.Error(x.name, e)
		}
	}
}

// P4.2: the chapter's examples, speeds below 0, and the greatest numbers.
func TestAfter(t *testing.T) {
	thrown := flight.Flyer{At: box(to(-10, 20), to(-30, 40)), Speed: box(to(-7, -5), to(-100, 3)), Mass: 1}
	whole, fast := to(-api.MaxSpan, api.MaxSpan), to(-api.MaxSpeed, api.MaxSpeed)
	wild := flight.Flyer{At: box(whole, whole), Speed: box(fast, fast), Mass: api.MaxWeight}
	for _, x := range []struct {
		f     flight.Flyer
		ticks int
		want  flight.Box
	}{
		{flyer(), 0, box(to(0, 1000), just(500000))},
		{flyer(), 40, box(to(120000, 121000), to(501600, 502000))},
		{flyer(), api.MaxAir, box(to(900000, 901000), to(-3310000, -3307000))},
		{thrown, 0, thrown.At},
		{thrown, 1, box(to(-17, 15), to(-179, -6))},
		{thrown, 10, box(to(-80, -30), to(-5930, -4830))},
		{wild, api.MaxAir, box(to(-13000000, 13000000), to(-17410000, 8590000))},
	} {
		if b := after(t, x.f, x.ticks); b != x.want {
			t.Error("After:", x, b)
		}
	}
}

// P4.2: one part of the load is the catcher's share of the fall, the other one what stops the flyer.
func TestLoad(t *testing.T) {
	with := func(speed flight.Box, mass, soft int) flight.Flight {
		f := leap()
		f.Flyer.Speed, f.Flyer.Mass, f.Catcher.Soft = speed, mass, soft
		return f
	}
	for _, x := range []struct {
		name  string
		f     flight.Flight
		ticks int
		want  int
	}{
		{"the chapter's example", leap(), 40, 23880},
		{"before Least", leap(), 0, 23880},
		{"along and downwards alike fast", leap(), 51, 23880},
		{"faster downwards than along", leap(), 60, 29160},
		{"without a speed", with(spot(0, 0), 60, 10), 0, 5880},
		{"without a speed, fallen", with(spot(0, 0), 60, 100), 100, 60 * (98 + 98)},
		{"rounded up before it is multiplied", with(spot(1, 0), 7, 10), 0, 7 * 99},
		{"nothing to round", with(spot(10, 0), 7, 10), 0, 7 * 99},
		{"just one more to round", with(spot(11, 0), 7, 10), 0, 7 * 100},
		{"a rest that is almost whole", with(spot(19, 0), 7, 10), 0, 7 * 100},
		{"soft for a single tick", with(spot(11, 0), 7, 1), 0, 7 * 109},
		{"backwards", with(spot(-500, 0), 1, 10), 0, 148},
		{"backwards at most", with(box(to(-500, 400), just(0)), 1, 10), 0, 148},
		{"forwards at most", with(box(to(-400, 500), just(0)), 1, 10), 0, 148},
		{"upwards", with(spot(0, 598), 1, 10), 1, 148},
		{"upwards at most", with(box(just(0), to(-400, 500)), 1, 10), 0, 148},
		{"downwards at most", with(box(just(0), to(-500, 400)), 1, 10), 0, 148},
		{"downwards, faster", with(spot(0, -402), 1, 10), 1, 148},
		{"at the top", with(spot(0, 980), 1, 10), 10, 98},
		{"the greatest", with(spot(0, -api.MaxSpeed), api.MaxWeight, 1), api.MaxAir, 200 * (98 + 39400)},
	} {
		if n := loadOf(t, x.f, x.ticks); n != x.want {
			t.Error(x.name, n)
		}
	}
	many := leap()
	many.Catcher.Cycle = slices.Repeat(many.Catcher.Cycle, api.MaxCycle)
	if n := loadOf(t, many, api.MaxAir); n != 60*(98+2740) {
		t.Error("a long cycle:", n)
	}
}

// P4.2, by all choices.
func TestAfterAndLoadByDefinition(t *testing.T) {
	d := newDice(1)
	for range 300 {
		f := d.flight()
		for _, ticks := range []int{0, 1, d.from(2, 20), d.from(21, api.MaxAir-1), api.MaxAir} {
			if b, want := after(t, f.Flyer, ticks), boxAfter(f.Flyer, ticks); b != want {
				t.Error("After:", f.Flyer, ticks, b, want)
			}
			if n, want := loadOf(t, f, ticks), loadAfter(f, ticks); n != want {
				t.Error("Load:", f, ticks, n, want)
			}
		}
	}
}
