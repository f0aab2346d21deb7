package flight_test

import (
	"slices"
	"testing"

	"bigtop/api"
	"bigtop/flight"
)

func catches(t *testing.T, f flight.Flight, release int) []int {
	t.Helper()
	l, e := flight.Catches(f, release)
	if e != api.OK {
		t.Fatal("Catches:", f, release, e)
	}
	return l
}

// P4.3: the chapter's example, and each bound of it.
func TestCatches(t *testing.T) {
	for _, x := range []struct {
		name    string
		set     func(*flight.Flight)
		release int
		want    []int
	}{
		{"the chapter's example", func(*flight.Flight) {}, 100, []int{138, 139, 140}},
		{"the first release", func(*flight.Flight) {}, 0, []int{38, 39, 40}},
		{"the last release", func(*flight.Flight) {}, api.MaxTick, []int{6038, 6039, 6040}},
		{"from the first one on", func(f *flight.Flight) { f.Least = 38 }, 100, []int{138, 139, 140}},
		{"behind the first one", func(f *flight.Flight) { f.Least = 39 }, 100, []int{139, 140}},
		{"up to the last one", func(f *flight.Flight) { f.Most = 40 }, 100, []int{138, 139, 140}},
		{"before the last one", func(f *flight.Flight) { f.Most = 39 }, 100, []int{138, 139}},
		{"Least equal to Most", func(f *flight.Flight) { f.Least, f.Most = 40, 40 }, 100, []int{140}},
		{"Least equal to Most, too late", func(f *flight.Flight) { f.Least, f.Most = 41, 41 }, 100, nil},
		{"from Least 0 to MaxAir", func(f *flight.Flight) { f.Least, f.Most = 0, api.MaxAir }, 100, []int{138, 139, 140}},
		{"just too little reach", func(f *flight.Flight) { f.Catcher.Reach = 5999 }, 100, []int{138, 139}},
		{"just enough reach downwards", func(f *flight.Flight) { f.Catcher.Reach = 4624 }, 100, []int{138, 139}},
		{"just too little reach downwards", func(f *flight.Flight) { f.Catcher.Reach = 4623 }, 100, []int{139}},
		{"just enough reach for one", func(f *flight.Flight) { f.Catcher.Reach = 3000 }, 100, []int{139}},
		{"just too little reach for one", func(f *flight.Flight) { f.Catcher.Reach = 2999 }, 100, nil},
		{"all are in reach", func(f *flight.Flight) { f.Catcher.Reach = api.MaxSpan; f.Least = 48 }, 100, []int{148, 149, 150}},
		{"it is just borne", func(f *flight.Flight) { f.Catcher.Bears = 23880 }, 100, []int{138, 139, 140}},
		{"it is not borne", func(f *flight.Flight) { f.Catcher.Bears = 23879 }, 100, nil},
		{"nothing is borne", func(f *flight.Flight) { f.Catcher.Bears = 0 }, 100, nil},
	} {
		f := leap()
		x.set(&f)
		if l := catches(t, f, x.release); !slices.Equal(l, x.want) {
			t.Error(x.name, l)
		}
	}
}

// P4.3: a flyer who hangs about 0, and hands that are just in reach, or one beyond it, at one of the four sides.
func TestReach(t *testing.T) {
	for _, x := range []struct {
		name      string
		at, hands flight.Box
		reach     int
	}{
		{"the same point", spot(7, 7), spot(7, 7), 0},
		{"in front", spot(0, 0), spot(9, 3), 9},
		{"behind", spot(0, 0), spot(-9, 3), 9},
		{"above", spot(0, 0), spot(3, 9), 9},
		{"below", spot(0, 0), spot(3, -9), 9},
		{"aslant: each way counts by itself", spot(0, 0), spot(9, 9), 9},
		{"two ranges in front of each other", box(to(0, 4), just(0)), box(to(6, 9), just(0)), 9},
		{"two ranges behind each other", box(to(6, 9), just(0)), box(to(0, 4), just(0)), 9},
		{"two ranges that meet", box(to(0, 4), just(0)), box(to(2, 3), just(0)), 3},
		{"the same range", box(to(0, 4), just(0)), box(to(0, 4), just(0)), 4},
		{"a range above another one", box(just(0), to(0, 4)), box(just(0), to(6, 9)), 9},
		{"a range below another one", box(just(0), to(6, 9)), box(just(0), to(0, 4)), 9},
		{"as wide as can be", box(to(-5000000, 0), just(0)), box(to(0, 5000000), just(0)), api.MaxSpan},
	} {
		f := drop()
		f.Flyer.At, f.Catcher.Cycle, f.Catcher.Reach = x.at, []flight.Box{x.hands}, x.reach
		if l := catches(t, f, 5); !slices.Equal(l, []int{5}) {
			t.Error(x.name, l)
		}
		f.Catcher.Reach--
		if l, e := flight.Catches(f, 5); x.reach > 0 && (len(l) > 0 || e != api.OK) {
			t.Error(x.name, "with less reach:", l, e)
		}
	}
	whole := to(-api.MaxSpan, api.MaxSpan)
	f := drop()
	f.Flyer.At, f.Catcher.Reach = spot(-api.MaxSpan, 0), api.MaxSpan
	f.Catcher.Cycle = []flight.Box{spot(api.MaxSpan, 0), box(whole, whole), spot(0, api.MaxSpan)}
	for release, want := range [][]int{nil, nil, {2}} {
		if l := catches(t, f, release); !slices.Equal(l, want) {
			t.Error("the ends of the tent:", release, l)
		}
	}
}

// P4.3: hands are at the box of the tick of the catch, not at that of the release.
func TestCatchesInCycle(t *testing.T) {
	for _, x := range []struct {
		name    string
		text    string
		wait    int
		release int
		want    []int
	}{
		{"at once", "..x", 0, 2, []int{2}},
		{"at once, too early", "..x", 0, 1, nil},
		{"behind the end of the cycle", "..x", 0, 302, []int{302}},
		{"the last release", "x..", 0, api.MaxTick, []int{api.MaxTick}},
		{"a tick later", "..x", 1, 1, []int{2}},
		{"over the end of the cycle", "x..", 1, 2, []int{3}},
		{"over the end of the cycle, far behind", "x..", 1, 302, []int{303}},
		{"many cycles later", "x..", 100, 2, []int{102}},
		{"many cycles later, too early", "x..", 100, 1, nil},
		{"behind the last release", "x......", 300, api.MaxTick, []int{6300}},
	} {
		f := beat(x.text)
		f.Catcher.Reach = 0
		// So that the flyer, who falls, is where the hands are at a single tick.
		for i := range f.Catcher.Cycle {
			f.Catcher.Cycle[i].Z = just(-49 * x.wait * x.wait)
		}
		if l := catches(t, lasting(f, api.MaxAir), x.release); !slices.Equal(l, x.want) {
			t.Error(x.name, l)
		}
	}
	long := lasting(beat("x"), 3)
	long.Catcher.Cycle = append(slices.Repeat([]flight.Box{spot(1, 0)}, api.MaxCycle-1), spot(0, -49))
	for release, want := range map[int][]int{597: nil, 598: {599}, 599: nil, 1198: {1199}, 5998: {5999}} {
		if l := catches(t, long, release); !slices.Equal(l, want) {
			t.Error("a long cycle:", release, l)
		}
	}
}

// P4.3: a flyer who may be caught on the way up, and again on the way down; and where the fall is slow enough.
func TestCatchesAroundTheTop(t *testing.T) {
	f := lasting(drop(), 30)
	f.Flyer.Speed = spot(0, 980)
	f.Catcher.Cycle, f.Catcher.Reach = []flight.Box{spot(0, 4655)}, 49
	if l := catches(t, f, 3); !slices.Equal(l, []int{11, 15}) {
		t.Error("on both ways:", l)
	}
	f.Catcher.Reach, f.Catcher.Bears = 4655, 98+3*98
	if l := catches(t, f, 3); !slices.Equal(l, []int{10, 11, 12, 13, 14, 15, 16}) {
		t.Error("while slow:", l)
	}
}

// P4.3, by its definition.
func TestCatchesByDefinition(t *testing.T) {
	d := newDice(2)
	found := 0
	for range 500 {
		f := d.flight()
		for range 5 {
			release := d.from(0, 30)
			want := sureTicks(f, release)
			if l := catches(t, f, release); !slices.Equal(l, want) {
				t.Error("Catches:", f, release, l, want)
			}
			found += len(want)
		}
	}
	if found < 500 {
		t.Error("hardly anybody is caught:", found)
	}
}

// P4.7: any choice, and any point of the hands.
func TestSurelyCaught(t *testing.T) {
	d := newDice(3)
	for range 300 {
		f := d.flight()
		release := d.from(0, 30)
		for _, n := range catches(t, f, release) {
			hands := handsAt(f, n)
			for _, c := range choices(f.Flyer) {
				x, z := c.after(n - release)
				for _, hx := range numbers(hands.X) {
					if size(x-hx) > f.Catcher.Reach {
						t.Fatal("missed in X:", f, release, n, c, hx)
					}
				}
				for _, hz := range numbers(hands.Z) {
					if size(z-hz) > f.Catcher.Reach {
						t.Fatal("missed in Z:", f, release, n, c, hz)
					}
				}
			}
		}
	}
}

// P4.9
func TestCycleLater(t *testing.T) {
	d := newDice(4)
	for range 500 {
		f := d.flight()
		cycle := len(f.Catcher.Cycle)
		release := d.from(0, 30)
		l := catches(t, f, release)
		for _, times := range []int{1, 2, 500} {
			for i := range l {
				l[i] += times * cycle
			}
			if later := catches(t, f, release+times*cycle); !slices.Equal(l, later) {
				t.Error("later:", f, release, times, l, later)
			}
			for i := range l {
				l[i] -= times * cycle
			}
		}
	}
}

// P4.11
func TestSureHand(t *testing.T) {
	d := newDice(5)
	for range 500 {
		f := d.flight()
		surer := copied(f)
		surer.Catcher.Reach += d.from(0, 50)
		surer.Catcher.Bears += d.from(0, 50)
		surer.Flyer.At, surer.Flyer.Speed = d.partOf(f.Flyer.At), d.partOf(f.Flyer.Speed)
		for i, b := range f.Catcher.Cycle {
			surer.Catcher.Cycle[i] = d.partOf(b)
		}
		for release := range 20 {
			l := catches(t, surer, release)
			for _, n := range catches(t, f, release) {
				if !slices.Contains(l, n) {
					t.Error("lost:", f, surer, release, n, l)
				}
			}
		}
	}
}
