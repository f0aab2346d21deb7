package flight_test

import (
	"testing"

	"bigtop/api"
	"bigtop/flight"
)

func over(x flight.Range, height int) flight.Net { return flight.Net{X: x, Height: height} }

func landing(t *testing.T, f flight.Flyer, n flight.Net) flight.Range {
	t.Helper()
	r, e := flight.Landing(f, n)
	if e != api.OK {
		t.Fatal("Landing:", f, n, e)
	}
	return r
}

func takes(t *testing.T, f flight.Flyer, n flight.Net) bool {
	t.Helper()
	is, e := flight.Takes(f, n)
	if e != api.OK {
		t.Fatal("Takes:", f, n, e)
	}
	return is
}

func falling(z, speed flight.Range) flight.Flyer {
	return flight.Flyer{At: box(just(0), z), Speed: box(just(0), speed), Mass: 1}
}

// P4.5: the chapter's example, flyers who are at once at the net, and those who never come to it.
func TestLanding(t *testing.T) {
	end := -49 * api.MaxAir * api.MaxAir
	for _, x := range []struct {
		name string
		f    flight.Flyer
		net  flight.Net
		want flight.Range
		e    api.Errno
	}{
		{"the chapter's example", flyer(), over(to(300000, 600000), 0), just(124), api.OK},
		{"after 0 ticks", falling(just(0), just(0)), over(just(0), 0), just(0), api.OK},
		{"after 1 tick", falling(just(1), just(0)), over(just(0), 0), just(1), api.OK},
		{"just after 1 tick", falling(just(49), just(0)), over(just(0), 0), just(1), api.OK},
		{"just after 2 ticks", falling(just(50), just(0)), over(just(0), 0), just(2), api.OK},
		{"from below, upwards", falling(just(-1), just(500)), over(just(0), 0), just(0), api.OK},
		{"some from below, upwards", falling(to(-1, 1), just(98)), over(just(0), 0), to(0, 3), api.OK},
		{"thrown down, or not", falling(just(100), to(-51, 0)), over(just(0), 0), to(1, 2), api.OK},
		{"from two heights", falling(to(49, 4900), just(0)), over(just(0), 0), to(1, 10), api.OK},
		{"to a net high up", falling(to(49, 4900), just(0)), over(just(0), 4851), to(0, 1), api.OK},
		{"to a net far below", falling(just(0), just(0)), over(just(0), -4900), just(10), api.OK},
		{"just at the end", falling(just(0), just(0)), over(just(0), end), just(api.MaxAir), api.OK},
		{"just not", falling(just(1), just(0)), over(just(0), end), flight.Range{}, api.ErrNone},
		{"not all of them", falling(to(0, 1), just(0)), over(just(0), end), flight.Range{}, api.ErrNone},
		{"some of them at once, but not all", falling(to(-api.MaxSpan, api.MaxSpan), just(0)), over(just(0), 0), flight.Range{}, api.ErrNone},
		{"never", falling(just(api.MaxSpan), just(api.MaxSpeed)), over(just(0), -api.MaxSpan), flight.Range{}, api.ErrNone},
	} {
		if r, e := flight.Landing(x.f, x.net); r != x.want || e != x.e {
			t.Error(x.name, r, e)
		}
		if is, e := flight.Takes(x.f, x.net); is != (x.e == api.OK) && x.net.X == just(0) || e != api.OK {
			t.Error("Takes:", x.name, is, e)
		}
	}
}

// P4.5: all boxes from the first tick to the last one count, and none beside them.
func TestTakes(t *testing.T) {
	slow := flyer()
	slow.Speed.Z = to(0, 2000)
	back := slow
	back.Speed.X = to(-3000, -2000)
	wide := flyer()
	wide.Speed.X = to(-10, 20)
	for _, x := range []struct {
		name string
		f    flight.Flyer
		x    flight.Range
		want bool
	}{
		{"the chapter's example", flyer(), to(300000, 600000), true},
		{"just wide enough", flyer(), to(372000, 373000), true},
		{"too narrow in front", flyer(), to(372000, 372999), false},
		{"too narrow behind", flyer(), to(372001, 373000), false},
		{"too narrow on both sides", flyer(), to(372001, 372999), false},
		{"elsewhere", flyer(), to(0, 1000), false},
		{"just wide enough for 102 to 124 ticks", slow, to(306000, 373000), true},
		{"too narrow in front, for the last tick", slow, to(306000, 372999), false},
		{"too narrow behind, for the first tick", slow, to(306001, 373000), false},
		{"just wide enough, backwards", back, to(-372000, -203000), true},
		{"too narrow for the last tick, backwards", back, to(-371999, -203000), false},
		{"too narrow for the first tick, backwards", back, to(-372000, -203001), false},
		{"just wide enough for both ways", wide, to(-1240, 3480), true},
		{"too narrow for one way", wide, to(-1240, 3479), false},
		{"too narrow for the other way", wide, to(-1239, 3480), false},
		{"all of the tent", wide, to(-api.MaxSpan, api.MaxSpan), true},
	} {
		if is := takes(t, x.f, over(x.x, 0)); is != x.want {
			t.Error(x.name, is)
		}
	}
	// The net ends before the flyer does.
	f := flyer()
	f.At.X, f.Speed.X = just(api.MaxSpan), just(1)
	if takes(t, f, over(to(-api.MaxSpan, api.MaxSpan), 0)) {
		t.Error("behind the end of the tent")
	}
}

// P4.5 and rule R5: a net's numbers at their limits and beyond them.
func TestNetNumbers(t *testing.T) {
	good := func() flight.Net { return over(to(1, 2), 500000) }
	for _, check := range []func(flight.Net) api.Errno{
		func(n flight.Net) api.Errno { _, e := flight.Takes(flyer(), n); return e },
		func(n flight.Net) api.Errno {
			if _, e := flight.Landing(flyer(), n); e != api.ErrNone {
				return e
			}
			return api.OK
		},
	} {
		checkNumbers(t, good, check, []number[flight.Net]{
			{"x at its lowest", func(n *flight.Net, x int) { n.X.Lo = x }, -api.MaxSpan, 2},
			{"x at its highest", func(n *flight.Net, x int) { n.X.Hi = x }, 1, api.MaxSpan},
			{"height", func(n *flight.Net, z int) { n.Height = z }, -api.MaxSpan, api.MaxSpan},
		})
	}
}

// firstAtNet is the first tick at which the flyer of a choice is not above the net.
func firstAtNet(c choice, n flight.Net) (ticks, x int, found bool) {
	for t := range api.MaxAir + 1 {
		if x, z := c.after(t); z <= n.Height {
			return t, x, true
		}
	}
	return 0, 0, false
}

// P4.5 and P4.10: with any choice; and some choice comes to the net at the first tick, and some at the last one.
func TestNeverBesideTheNet(t *testing.T) {
	d := newDice(21)
	taken := 0
	for range 1000 {
		f := d.flyer()
		n := over(just(0), d.from(-3000, 300))
		r := landing(t, f, n)
		n.X = d.near(boxAfter(f, d.from(r.Lo, r.Hi)).X.Lo-d.from(-5, 40), 60)
		n.X.Hi += d.from(0, 100)
		is := takes(t, f, n)
		first, last := false, false
		for _, c := range choices(f) {
			ticks, x, found := firstAtNet(c, n)
			if !found || ticks < r.Lo || ticks > r.Hi {
				t.Fatal("not in Landing:", f, n, c, r, ticks, found)
			}
			if is && (x < n.X.Lo || x > n.X.Hi) {
				t.Fatal("beside the net:", f, n, c, x)
			}
			first, last = first || ticks == r.Lo, last || ticks == r.Hi
		}
		if !first || !last {
			t.Error("Landing is too wide:", f, n, r)
		}
		want := true
		for ticks := r.Lo; ticks <= r.Hi; ticks++ {
			b := boxAfter(f, ticks)
			want = want && n.X.Lo <= b.X.Lo && b.X.Hi <= n.X.Hi
		}
		if is != want {
			t.Error("Takes:", f, n, r, is)
		}
		if is {
			taken++
		}
	}
	if taken < 100 || taken > 900 {
		t.Error("hardly anything to tell:", taken)
	}
}
