package rigging_test

import (
	"slices"
	"testing"

	"bigtop/api"
	"bigtop/rigging"
)

// P3.1
func TestCheckRigNumbers(t *testing.T) {
	good := func() rigging.Rig {
		r := bars(2, beam(0, 60, point(0), point(1), 5, 5), beam(0, 30, on(0, 10), point(0), 5, 5))
		return loaded(r, load(on(1, 20), rigging.Moving, 0, api.MaxBear), load(point(1), rigging.Still, 0, 0))
	}
	checkNumbers(t, good, rigging.CheckRig, []number[rigging.Rig]{
		{"point", func(r *rigging.Rig, n int) { r.Points[1] = n }, 0, api.MaxBear},
		{"weight", func(r *rigging.Rig, n int) { r.Beams[1].Weight = n }, 0, api.MaxBear},
		{"strength", func(r *rigging.Rig, n int) { r.Beams[0].Strength = n }, 0, api.MaxBear},
		{"the hanger A on a beam", func(r *rigging.Rig, n int) { r.Beams[1].OnA.Beam = n }, 0, 0},
		{"the hanger A at a notch", func(r *rigging.Rig, n int) { r.Beams[1].OnA.At = n }, 0, 60},
		{"the hanger B at a point", func(r *rigging.Rig, n int) { r.Beams[1].OnB.At = n }, 0, 1},
		{"the hanger B at a notch", func(r *rigging.Rig, n int) { r.Beams[1].OnB = on(0, n) }, 0, 60},
		{"the hanger A at a point", func(r *rigging.Rig, n int) { r.Beams[0].OnA = point(n) }, 0, 1},
		{"factor of what is still", func(r *rigging.Rig, n int) { r.Factors[0] = n }, 1000, api.MaxFactor},
		{"factor of what moves", func(r *rigging.Rig, n int) { r.Factors[1] = n }, 1000, api.MaxFactor},
		{"factor of people", func(r *rigging.Rig, n int) { r.Factors[2] = n }, 1000, api.MaxFactor},
		{"load on a beam", func(r *rigging.Rig, n int) { r.Loads[0].At.Beam = n }, 0, 1},
		{"load at a notch", func(r *rigging.Rig, n int) { r.Loads[0].At.At = n }, 0, 60},
		{"load at a point", func(r *rigging.Rig, n int) { r.Loads[1].At.At = n }, 0, 1},
		{"least force", func(r *rigging.Rig, n int) { r.Loads[0].Lo = n }, 0, api.MaxBear},
		{"greatest force", func(r *rigging.Rig, n int) { r.Loads[1].Hi = n }, 0, api.MaxBear},
	})
}

// P3.1: each notch and each distance of the hangers.
func TestCheckRigNotches(t *testing.T) {
	spans := []int{10, 12, 15, 20, 30, 60}
	for a := -2; a <= 62; a++ {
		for b := -2; b <= 62; b++ {
			want := api.ErrArg
			if a >= 0 && b <= 60 && slices.Contains(spans, b-a) {
				want = api.OK
			}
			if e := rigging.CheckRig(bars(1, beam(a, b, point(0), point(0), 0, 0))); e != want {
				t.Error(a, b, e)
			}
		}
	}
	for _, x := range [][2]int{{lowest, lowest + 10}, {highest - 10, highest}, {lowest, highest}, {-5, 5}, {55, 65}, {1 << 62, -1<<63 + 1<<62 + 10}} {
		if e := rigging.CheckRig(bars(1, beam(x[0], x[1], point(0), point(0), 0, 0))); e != api.ErrArg {
			t.Error(x, e)
		}
	}
}

// P3.1
func TestCheckRigShapes(t *testing.T) {
	rig := func(points, beams, loads int) rigging.Rig {
		r := bars(points, slices.Repeat([]rigging.Beam{beam(0, 60, point(0), point(0), 0, 0)}, beams)...)
		return loaded(r, slices.Repeat([]rigging.Load{load(point(0), rigging.Still, 0, 0)}, loads)...)
	}
	kind := func(n uint8) rigging.Rig { return loaded(rig(1, 0, 0), load(point(0), n, 0, 0)) }
	forces := func(lo, hi int) rigging.Rig { return loaded(rig(1, 0, 0), load(point(0), 0, lo, hi)) }
	at := func(p rigging.Place) rigging.Rig { return loaded(rig(3, 2, 0), load(p, 0, 0, 0)) }
	// hung is a third beam behind two that hang at points.
	hung := func(a, b rigging.Place) rigging.Rig {
		r := rig(3, 2, 0)
		r.Beams = append(r.Beams, beam(0, 60, a, b, 0, 0))
		return r
	}
	for _, x := range []struct {
		name string
		r    rigging.Rig
		want api.Errno
	}{
		{"the chapter's", show(), api.OK},
		{"nothing", rigging.Rig{}, api.ErrArg},
		{"no points", rig(0, 0, 0), api.ErrArg},
		{"a point alone", rig(1, 0, 0), api.OK},
		{"as many points as there may be", rig(api.MaxPoints, 0, 0), api.OK},
		{"one point more", rig(api.MaxPoints+1, 0, 0), api.ErrArg},
		{"as many beams as there may be", rig(1, api.MaxBeams, 0), api.OK},
		{"one beam more", rig(1, api.MaxBeams+1, 0), api.ErrArg},
		{"far too many beams", rig(1, 100, 0), api.ErrArg},
		{"as many loads as there may be", rig(1, 0, api.MaxLoads), api.OK},
		{"one load more", rig(1, 0, api.MaxLoads+1), api.ErrArg},
		{"a load of people", kind(2), api.OK},
		{"a load of no kind", kind(3), api.ErrArg},
		{"a load of the last number of a kind", kind(255), api.ErrArg},
		{"a load that is known", forces(7, 7), api.OK},
		{"a load whose forces fall", forces(8, 7), api.ErrArg},
		{"a load at the last point", at(point(2)), api.OK},
		{"a load beyond the last point", at(point(3)), api.ErrArg},
		{"a load ahead of the first point", at(point(-1)), api.ErrArg},
		{"a load on the last beam", at(on(1, 0)), api.OK},
		{"a load on no beam", at(on(2, 0)), api.ErrArg},
		{"a load at the beam -2", at(on(-2, 0)), api.ErrArg},
		{"hung on the first beam", hung(on(0, 60), on(0, 0)), api.OK},
		{"hung on the beam before it", hung(on(0, 60), on(1, 0)), api.OK},
		{"hung on itself by A", hung(on(2, 60), on(1, 0)), api.ErrArg},
		{"hung on itself by B", hung(on(0, 60), on(2, 0)), api.ErrArg},
		{"hung beyond a notch by A", hung(on(0, 61), on(1, 0)), api.ErrArg},
		{"hung beyond a notch by B", hung(on(0, 60), on(1, -1)), api.ErrArg},
		{"hung beyond the points by A", hung(point(3), point(2)), api.ErrArg},
		{"hung beyond the points by B", hung(point(2), point(3)), api.ErrArg},
	} {
		if e := rigging.CheckRig(x.r); e != x.want {
			t.Error(x.name, e)
		}
	}
}

// P3.1: the depth is at most 3, whichever hanger makes it.
func TestCheckRigDepth(t *testing.T) {
	for n, want := range []api.Errno{api.OK, api.OK, api.OK, api.OK, api.ErrArg, api.ErrArg} {
		if e := rigging.CheckRig(stack(n)); e != want {
			t.Error("depth", n, e)
		}
	}
	for _, x := range []struct {
		name string
		a, b rigging.Place
		want api.Errno
	}{
		{"A is too deep", on(2, 0), point(0), api.ErrArg},
		{"B is too deep", point(0), on(2, 0), api.ErrArg},
		{"one is deep, the other one deeper", on(0, 0), on(1, 0), api.OK},
		{"one is deeper, the other one deep", on(1, 60), on(0, 0), api.OK},
		{"both are at a point", point(0), point(0), api.OK},
	} {
		r := stack(3)
		r.Beams = append(r.Beams, beam(10, 20, x.a, x.b, 0, 0))
		if e := rigging.CheckRig(r); e != x.want {
			t.Error(x.name, e)
		}
	}
}

// P3.1 and P3.2: the chapter's examples.
func TestChaptersForces(t *testing.T) {
	p, h, e := rigging.Bears(show(), []int{600, 60})
	if !slices.Equal(p, []int{23760000, 138240000}) || !slices.Equal(h, [][2]int{{23760000, 138240000}}) || e != api.OK {
		t.Error(p, h, e)
	}
	q, i, e := rigging.Ranges(show())
	want := [2]rigging.Range{to(110, 110), to(140, 640)}
	if !slices.Equal(q, want[:]) || !slices.Equal(i, [][2]rigging.Range{want}) || e != api.OK {
		t.Error(q, i, e)
	}
}

// P3.1 and P3.2, rule R3
func TestWithoutBeamsOrLoads(t *testing.T) {
	for _, r := range []rigging.Rig{bars(2), {Points: []int{0, 5}, Beams: []rigging.Beam{}, Factors: [3]int{1000, 1000, 1000}, Loads: []rigging.Load{}}} {
		for _, pulls := range [][]int{nil, {}} {
			p, h, e := rigging.Bears(r, pulls)
			if !slices.Equal(p, []int{0, 0}) || len(h) != 0 || e != api.OK {
				t.Error(p, h, e)
			}
		}
		q, i, e := rigging.Ranges(r)
		if !slices.Equal(q, []rigging.Range{{}, {}}) || len(i) != 0 || e != api.OK {
			t.Error(q, i, e)
		}
	}
	r := loaded(bars(2), load(point(1), rigging.Moving, 3, 7), load(point(1), rigging.Still, 1, 2))
	if p, h, e := rigging.Bears(r, []int{11, 2}); !slices.Equal(p, newtons(0, 13)) || len(h) != 0 || e != api.OK {
		t.Error("loads at a point:", p, h, e)
	}
	if p, _, e := rigging.Ranges(r); !slices.Equal(p, []rigging.Range{to(0, 0), to(4, 13)}) || e != api.OK {
		t.Error("ranges of loads at a point:", p, e)
	}
	if p, h, e := rigging.Bears(bars(2, beam(30, 60, point(1), point(0), 8, 0)), nil); !slices.Equal(p, newtons(0, 8)) || !slices.Equal(h, [][2]int{{8 * grain, 0}}) || e != api.OK {
		t.Error("a beam without loads:", p, h, e)
	}
}

// P3.1 and P3.2: what hangs outside of the hangers lifts the one on the other side, and so may a beam.
func TestForcesBelowZero(t *testing.T) {
	r := bars(2, beam(10, 20, point(0), point(1), 0, 0))
	for _, x := range []struct{ notch, onA, onB int }{
		{0, 2, -1}, {10, 1, 0}, {20, 0, 1}, {30, -1, 2}, {60, -4, 5}, {15, 0, 0},
	} {
		l := loaded(r, load(on(0, x.notch), rigging.Still, 0, 1000))
		want := newtons(1000*x.onA, 1000*x.onB)
		if x.notch == 15 {
			want = newtons(500, 500)
		}
		p, h, e := rigging.Bears(l, []int{1000})
		if !slices.Equal(p, want) || !slices.Equal(h, [][2]int{{want[0], want[1]}}) || e != api.OK {
			t.Error(x, p, h, e)
		}
		q, _, _ := rigging.Ranges(l)
		for i, n := range want {
			if q[i] != (rigging.Range{Lo: min(0, n), Hi: max(0, n)}) {
				t.Error(x, q)
			}
		}
	}
	// The weight alone pulls outside, and a hanger that pulls upwards lifts what it hangs at.
	r = bars(3, beam(0, 60, point(0), point(1), 0, 0), beam(40, 60, on(0, 0), point(2), 20, 0))
	if p, h, e := rigging.Bears(r, nil); !slices.Equal(p, newtons(30, 0, -10)) || !slices.Equal(h, [][2]int{{30 * grain, 0}, {30 * grain, -10 * grain}}) || e != api.OK {
		t.Error("a weight outside:", p, h, e)
	}
	r = bars(3, beam(0, 60, point(0), point(1), 0, 0), beam(40, 60, point(2), on(0, 60), 20, 0))
	if p, h, e := rigging.Bears(r, nil); !slices.Equal(p, newtons(0, -10, 30)) || !slices.Equal(h, [][2]int{{0, -10 * grain}, {30 * grain, -10 * grain}}) || e != api.OK {
		t.Error("a beam that is lifted:", p, h, e)
	}
}

// P3.1 and P3.2: a factor counts for Hi alone, is that of the kind, and is rounded up.
func TestFactors(t *testing.T) {
	r := bars(1)
	r.Factors = [3]int{1000, 1001, 20000}
	for _, x := range []struct {
		kind        uint8
		lo, hi, top int
	}{
		{rigging.Still, 5, 5, 5}, {rigging.Still, 0, 0, 0}, {rigging.Still, 0, api.MaxBear, api.MaxBear},
		{rigging.Moving, 0, 0, 0}, {rigging.Moving, 1, 1, 2}, {rigging.Moving, 999, 999, 1000}, {rigging.Moving, 5, 1000, 1001},
		{rigging.Moving, 0, 1001, 1003}, {rigging.Moving, 5, 1999, 2001}, {rigging.Moving, 5, 2000, 2002}, {rigging.People, 3, 3, 60},
		{rigging.People, api.MaxBear, api.MaxBear, 20 * api.MaxBear},
	} {
		l := loaded(r, load(point(0), x.kind, x.lo, x.hi))
		if q, _, e := rigging.Ranges(l); !slices.Equal(q, []rigging.Range{to(x.lo, x.top)}) || e != api.OK {
			t.Error(x, q, e)
		}
		for n, want := range map[int]api.Errno{x.lo: api.OK, x.top: api.OK, x.lo - 1: api.ErrRange, x.top + 1: api.ErrRange, lowest: api.ErrRange, highest: api.ErrRange} {
			p, h, e := rigging.Bears(l, []int{n})
			if e != want || e == api.OK && p[0] != n*grain || e != api.OK && (p != nil || h != nil) {
				t.Error(x, n, p, h, e)
			}
		}
	}
}

// P3.1: there are as many pulls as loads, and each one is within the range of its own load.
func TestPulls(t *testing.T) {
	r := loaded(bars(1), load(point(0), rigging.Still, 5, 6), load(point(0), rigging.Still, 7, 8), load(point(0), rigging.Moving, 1, 2))
	for _, x := range []struct {
		pulls []int
		want  api.Errno
	}{
		{[]int{5, 7, 1}, api.OK}, {[]int{6, 8, 3}, api.OK}, {nil, api.ErrRange}, {[]int{5, 7}, api.ErrRange}, {[]int{5, 7, 1, 0}, api.ErrRange},
		{[]int{4, 7, 1}, api.ErrRange}, {[]int{7, 7, 1}, api.ErrRange}, {[]int{5, 6, 1}, api.ErrRange}, {[]int{5, 9, 1}, api.ErrRange},
		{[]int{5, 7, 0}, api.ErrRange}, {[]int{5, 7, 4}, api.ErrRange},
	} {
		if _, _, e := rigging.Bears(r, x.pulls); e != x.want {
			t.Error(x, e)
		}
	}
}

// P3.1 and P3.2: whole grains behind three beams of the narrowest hangers, with all that may pull.
func TestGreatestForces(t *testing.T) {
	r := rigging.Rig{Points: []int{0, 0}, Factors: [3]int{api.MaxFactor, api.MaxFactor, api.MaxFactor}}
	for i := range api.MaxBeams {
		b := beam(0, 10, point(0), point(1), api.MaxBear, 0)
		if i > 0 {
			b.OnA, b.OnB = on(min(i, 2)-1, 60), on(min(i, 2)-1, 0)
		}
		r.Beams = append(r.Beams, b)
	}
	for i := range api.MaxLoads {
		r.Loads = append(r.Loads, load(on(api.MaxBeams-1-i%9, 60), rigging.People, 0, api.MaxBear))
	}
	checkForces(t, r, tops(r))
	for n := range 6 {
		r.Loads[n].Lo = api.MaxBear
		r.Loads[n].At.At = 7
		checkForces(t, r, tops(r))
	}
	for i := range r.Beams {
		r.Beams[i].A, r.Beams[i].B = 48, 60
	}
	checkForces(t, r, tops(r))
}

// checkForces compares what is borne, and its range, with the chapter's words.
func checkForces(t *testing.T, r rigging.Rig, pulls []int) {
	t.Helper()
	p, h, e := rigging.Bears(r, pulls)
	q, i, f := rigging.Ranges(r)
	if e != api.OK || f != api.OK || len(p) != len(r.Points) || len(q) != len(r.Points) || len(h) != len(r.Beams) || len(i) != len(r.Beams) {
		t.Fatal(r, p, h, e, q, i, f)
	}
	least := make([]int, len(r.Loads))
	for k, x := range parts(r) {
		if n := inOrder(p, h)[k]; n != inGrains(t, borne(r, x, pulls)) {
			t.Error("Bears:", r, pulls, x, n)
		}
		low, high := slices.Clone(least), slices.Clone(least)
		for n, l := range r.Loads {
			low[n], high[n] = l.Lo, tops(r)[n]
			if sign(r, x, n) < 0 {
				low[n], high[n] = high[n], low[n]
			}
		}
		want := rigging.Range{Lo: inGrains(t, borne(r, x, low)), Hi: inGrains(t, borne(r, x, high))}
		if n := inOrder(q, i)[k]; n != want {
			t.Error("Ranges:", r, x, n, want)
		}
	}
}

// P3.1 and P3.2
func TestForcesByDefinition(t *testing.T) {
	d := newDice(1)
	for range 300 {
		r := d.rig(6, 6)
		checkForces(t, r, d.pulls(r))
	}
	for range 10 {
		r := d.rig(api.MaxBeams, api.MaxLoads)
		checkForces(t, r, d.pulls(r))
	}
}

// P3.7
func TestAllIsBorne(t *testing.T) {
	d := newDice(2)
	for range 500 {
		r := d.rig(api.MaxBeams, api.MaxLoads)
		pulls := d.pulls(r)
		p, _, e := rigging.Bears(r, pulls)
		all := 0
		for _, n := range pulls {
			all += n * grain
		}
		for _, b := range r.Beams {
			all += b.Weight * grain
		}
		for _, n := range p {
			all -= n
		}
		if all != 0 || e != api.OK {
			t.Error(r, pulls, p, all, e)
		}
	}
}

// P3.8
func TestLevers(t *testing.T) {
	d := newDice(3)
	for range 500 {
		r := d.rig(6, 6)
		for i := range r.Loads {
			r.Loads[i].Lo = 0
		}
		one, none := d.pulls(r), make([]int, len(r.Loads))
		var other, both []int
		for i, n := range tops(r) {
			other = append(other, d.from(0, n-one[i]))
			both = append(both, one[i]+other[i])
		}
		_, a, _ := rigging.Bears(r, one)
		_, b, _ := rigging.Bears(r, other)
		_, c, _ := rigging.Bears(r, both)
		_, z, e := rigging.Bears(r, none)
		for i := range r.Beams {
			for k := range 2 {
				if a[i][k]+b[i][k] != c[i][k]+z[i][k] || e != api.OK {
					t.Error(r, one, other, i, k, a[i], b[i], c[i], z[i])
				}
			}
		}
	}
}

// P3.8
func TestLoadInTheMiddle(t *testing.T) {
	d := newDice(4)
	for range 500 {
		r := d.rig(6, 6)
		_, before, _ := rigging.Bears(r, tops(r))
		for i, b := range r.Beams {
			if (b.A+b.B)%2 != 0 {
				continue
			}
			x := loaded(r, load(on(i, (b.A+b.B)/2), rigging.Still, 0, 500))
			_, h, e := rigging.Bears(x, append(tops(r), 500))
			if e != api.OK || h[i][0]-before[i][0] != 250*grain || h[i][1]-before[i][1] != 250*grain {
				t.Error(x, i, before[i], h[i], e)
			}
		}
	}
}

// P3.9
func TestEnclosed(t *testing.T) {
	d := newDice(5)
	for range 200 {
		r := d.rig(5, 5)
		q, i, _ := rigging.Ranges(r)
		ranges := inOrder(q, i)
		low, high := make([]bool, len(ranges)), make([]bool, len(ranges))
		for _, pulls := range append(corners(r), d.pulls(r), d.pulls(r), d.pulls(r)) {
			p, h, e := rigging.Bears(r, pulls)
			if e != api.OK {
				t.Fatal(r, pulls, e)
			}
			for k, n := range inOrder(p, h) {
				if n < ranges[k].Lo || n > ranges[k].Hi {
					t.Error(r, pulls, k, n, ranges[k])
				}
				low[k], high[k] = low[k] || n == ranges[k].Lo, high[k] || n == ranges[k].Hi
			}
		}
		if slices.Contains(low, false) || slices.Contains(high, false) {
			t.Error("an end is not borne:", r, ranges)
		}
	}
}

// P3.12
func TestHeavier(t *testing.T) {
	d := newDice(6)
	for range 500 {
		r := d.calm(6, 6)
		q, i, _ := rigging.Ranges(r)
		x := copied(r)
		x.Factors[d.Intn(3)] += d.from(0, 500)
		for k := range x.Loads {
			x.Loads[k].Hi += d.from(0, 50) * d.Intn(2)
		}
		for k := range x.Beams {
			x.Beams[k].Weight += d.from(0, 50) * d.Intn(2)
		}
		p, h, e := rigging.Ranges(x)
		for k, n := range inOrder(p, h) {
			if n.Hi < inOrder(q, i)[k].Hi || e != api.OK {
				t.Error(r, x, k, n, e)
			}
		}
	}
}
