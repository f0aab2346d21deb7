package rigging_test

import (
	"slices"
	"testing"

	"bigtop/api"
	"bigtop/rigging"
)

// slackShow is the rig of the chapter's example of Slack.
func slackShow() rigging.Rig {
	r := show()
	r.Loads[1].Lo, r.Loads[1].Hi = 200, 200
	r.Loads[0].Lo, r.Loads[0].Hi = 0, 0
	return r
}

// lightShow is the rig of the chapter's example of Room.
func lightShow() rigging.Rig {
	r := show()
	r.Loads[0].Hi = 100
	return r
}

// P3.3: the chapter's examples.
func TestChaptersLimits(t *testing.T) {
	if p, pulls, e := rigging.Over(show()); p != pointPart(1) || !slices.Equal(pulls, []int{600, 60}) || e != api.OK {
		t.Error("Over:", p, pulls, e)
	}
	if p, pulls, e := rigging.Slack(show()); p != (rigging.Part{}) || pulls != nil || e != api.ErrNone {
		t.Error("Slack:", p, pulls, e)
	}
	if p, pulls, e := rigging.Slack(slackShow()); p != hanger(0, 1) || !slices.Equal(pulls, []int{0, 200}) || e != api.OK {
		t.Error("Slack:", p, pulls, e)
	}
	if n, e := rigging.Room(lightShow(), on(0, 25), rigging.Still); n != 520 || e != api.OK {
		t.Error("Room:", n, e)
	}
}

// P3.3: all points come first, then the hangers, beam by beam, A ahead of B; a limit may just be met.
func TestOverInOrder(t *testing.T) {
	good := func() rigging.Rig {
		r := bars(3, beam(0, 60, point(0), point(1), 40, 1020), beam(0, 60, point(2), point(1), 40, 1020))
		r.Points = []int{1020, 2040, 1020}
		return loaded(r, load(on(0, 30), rigging.People, 0, 1000), load(on(1, 30), rigging.People, 0, 1000))
	}
	if p, pulls, e := rigging.Over(good()); p != (rigging.Part{}) || pulls != nil || e != api.ErrNone {
		t.Error("limits that are just met:", p, pulls, e)
	}
	lower := []struct {
		set  func(*rigging.Rig)
		want rigging.Part
		with []int
	}{
		{func(r *rigging.Rig) { r.Points[0] = 1019 }, pointPart(0), []int{2000, 0}},
		{func(r *rigging.Rig) { r.Points[1] = 2039 }, pointPart(1), []int{2000, 2000}},
		{func(r *rigging.Rig) { r.Points[2] = 1019 }, pointPart(2), []int{0, 2000}},
		{func(r *rigging.Rig) { r.Beams[0].Strength = 1019 }, hanger(0, 0), []int{2000, 0}},
		{func(r *rigging.Rig) { r.Beams[1].Strength = 1019 }, hanger(1, 0), []int{0, 2000}},
	}
	for i, x := range lower {
		alone, late := good(), good()
		x.set(&alone)
		for _, y := range lower[i:] {
			y.set(&late)
		}
		for _, r := range []rigging.Rig{alone, late} {
			if p, pulls, e := rigging.Over(r); p != x.want || !slices.Equal(pulls, x.with) || e != api.OK {
				t.Error(r, p, pulls, e)
			}
		}
	}
	// B alone: a load that is 1 newton nearer to it.
	r := good()
	r.Loads[0].At.At = 31
	r.Points = []int{9999, 9999, 9999}
	if p, pulls, e := rigging.Over(r); p != hanger(0, 1) || !slices.Equal(pulls, []int{2000, 0}) || e != api.OK {
		t.Error("the hanger B:", p, pulls, e)
	}
}

// P3.3: a part of a grain counts too.
func TestOverByLessThanANewton(t *testing.T) {
	r := loaded(bars(1, beam(0, 60, point(0), point(0), 0, 5)), load(on(0, 59), rigging.Still, 5, 5))
	if p, _, e := rigging.Over(r); p != (rigging.Part{}) || e != api.ErrNone {
		t.Error("5 times 59/60:", p, e)
	}
	r.Loads = append(r.Loads, load(on(0, 5), rigging.Still, 1, 1))
	if p, _, e := rigging.Over(r); p != (rigging.Part{}) || e != api.ErrNone {
		t.Error("5 times 59/60, and 1 times 5/60:", p, e)
	}
	r.Loads[1].At.At = 6
	if p, pulls, e := rigging.Over(r); p != hanger(0, 1) || !slices.Equal(pulls, []int{5, 1}) || e != api.OK {
		t.Error("5 times 59/60, and 1 times 6/60:", p, pulls, e)
	}
}

// fine has a load that gives the hanger B of its first beam one grain a newton, one that takes two grains from it, and two others that pull at its hangers.
func fine(up, down, onA, onB int) rigging.Rig {
	beams := []rigging.Beam{
		beam(0, 60, point(0), point(1), 0, 5), beam(0, 60, point(0), on(0, 1), 0, 9),
		beam(0, 60, point(0), on(1, 1), 0, 9), beam(1, 31, point(0), on(1, 1), 0, 9),
	}
	still := func(at rigging.Place, n int) rigging.Load { return load(at, rigging.Still, n, n) }
	return loaded(bars(2, beams...), load(on(2, 1), rigging.Still, 0, up), still(on(3, 0), down), still(on(0, 0), onA), still(on(0, 60), onB))
}

// P3.2 and P3.3: a single grain is not rounded away.
func TestSingleGrain(t *testing.T) {
	if q, _, e := rigging.Ranges(fine(3, 0, 0, 0)); q[1] != (rigging.Range{Hi: 3}) || e != api.OK {
		t.Error("Ranges:", q, e)
	}
	if q, _, e := rigging.Ranges(fine(3, 4, 0, 0)); q[1] != (rigging.Range{Lo: -8, Hi: -5}) || e != api.OK {
		t.Error("Ranges below 0:", q, e)
	}
	r := fine(1, 1, 1, 0)
	for up, want := range []rigging.Part{hanger(0, 1), hanger(0, 1), hanger(3, 1)} {
		r.Loads[0].Lo, r.Loads[0].Hi = up, up
		if p, pulls, e := rigging.Slack(r); p != want || !slices.Equal(pulls, []int{up, 1, 1, 0}) || e != api.OK {
			t.Error("Slack:", up, p, pulls, e)
		}
	}
	if p, pulls, e := rigging.Over(fine(1, 0, 0, 5)); p != hanger(0, 1) || !slices.Equal(pulls, []int{1, 0, 0, 5}) || e != api.OK {
		t.Error("a grain too much:", p, pulls, e)
	}
	if p, pulls, e := rigging.Over(fine(0, 0, 0, 5)); p != (rigging.Part{}) || pulls != nil || e != api.ErrNone {
		t.Error("no grain too much:", p, pulls, e)
	}
}

// P3.3: what gives a part nothing pulls with its least force, also where two ways cancel each other.
func TestWitnessOfNothingGiven(t *testing.T) {
	r := loaded(bars(3, beam(20, 40, point(0), point(1), 0, 100), beam(0, 60, on(0, 10), on(0, 30), 0, api.MaxBear)),
		load(on(0, 20), rigging.Still, 3, 9), load(point(2), rigging.Still, 4, 9), load(on(1, 30), rigging.Still, 5, 9), load(on(0, 40), rigging.Moving, 100, 101),
		load(on(1, 0), rigging.Still, 6, 8))
	if p, pulls, e := rigging.Over(r); p != hanger(0, 1) || !slices.Equal(pulls, []int{3, 4, 5, 152, 6}) || e != api.OK {
		t.Error("Over:", p, pulls, e)
	}
	r.Loads[3].Lo = 3
	if p, pulls, e := rigging.Slack(r); p != hanger(0, 1) || !slices.Equal(pulls, []int{3, 4, 5, 3, 8}) || e != api.OK {
		t.Error("Slack:", p, pulls, e)
	}
}

// P3.3: hangers alone may be slack, and not where they bear just nothing.
func TestSlackInOrder(t *testing.T) {
	two := func(first, second int) rigging.Rig {
		r := bars(2, beam(20, 40, point(0), point(1), 0, api.MaxBear), beam(20, 40, point(0), point(1), 0, api.MaxBear))
		return loaded(r, load(on(0, first), rigging.Moving, 0, 100), load(on(1, second), rigging.Moving, 0, 100))
	}
	for _, x := range []struct {
		r     rigging.Rig
		want  rigging.Part
		pulls []int
		e     api.Errno
	}{
		{two(20, 40), rigging.Part{}, nil, api.ErrNone},
		{two(41, 19), hanger(0, 0), []int{150, 0}, api.OK},
		{two(19, 41), hanger(0, 1), []int{150, 0}, api.OK},
		{two(30, 41), hanger(1, 0), []int{0, 150}, api.OK},
		{two(20, 19), hanger(1, 1), []int{0, 150}, api.OK},
		// The point 2 bears less than nothing, by a hanger that is not the first one.
		{bars(3, beam(0, 60, point(0), point(1), 0, 9), beam(40, 60, on(0, 0), point(2), 20, 9)), hanger(1, 1), nil, api.OK},
		{bars(2), rigging.Part{}, nil, api.ErrNone},
		{loaded(bars(1), load(point(0), 0, 0, 5)), rigging.Part{}, nil, api.ErrNone},
	} {
		if p, pulls, e := rigging.Slack(x.r); p != x.want || !slices.Equal(pulls, x.pulls) || e != x.e {
			t.Error(x.r, p, pulls, e)
		}
	}
}

// P3.3 and P3.10: the first part by all corners of the loads, and its witness by what each load gives.
func TestFirstPartsByDefinition(t *testing.T) {
	d := newDice(11)
	seen := map[api.Errno]int{}
	for range 600 {
		r := d.rig(4, 5)
		wantOver, wantSlack := firstWrong(t, r)
		p, pulls, e := rigging.Over(r)
		checkFirst(t, r, wantOver, p, pulls, e, 1)
		seen[e]++
		q, least, f := rigging.Slack(r)
		checkFirst(t, r, wantSlack, q, least, f, -1)
		seen[10+f]++
		if e == api.OK && force(t, r, p, pulls) <= limit(r, p)*grain || f == api.OK && force(t, r, q, least) >= 0 {
			t.Error("no witness:", r, p, pulls, q, least)
		}
	}
	for _, e := range []api.Errno{api.OK, api.ErrNone, 10 + api.OK, 10 + api.ErrNone} {
		if seen[e] < 60 {
			t.Error("too few", e, seen)
		}
	}
}

// firstWrong tries all corners; the result is nil where no part is over, or slack.
func firstWrong(t *testing.T, r rigging.Rig) (over, slack *rigging.Part) {
	all := parts(r)
	isOver, isSlack := make([]bool, len(all)), make([]bool, len(all))
	for _, pulls := range corners(r) {
		p, h, e := rigging.Bears(r, pulls)
		if e != api.OK {
			t.Fatal(r, pulls, e)
		}
		for i, n := range inOrder(p, h) {
			isOver[i] = isOver[i] || n > limit(r, all[i])*grain
			isSlack[i] = isSlack[i] || n < 0 && isHanger(all[i])
		}
	}
	if i := slices.Index(isOver, true); i >= 0 {
		over = &all[i]
	}
	if i := slices.Index(isSlack, true); i >= 0 {
		slack = &all[i]
	}
	return over, slack
}

func checkFirst(t *testing.T, r rigging.Rig, want *rigging.Part, p rigging.Part, pulls []int, e api.Errno, way int) {
	t.Helper()
	if want == nil {
		if p != (rigging.Part{}) || pulls != nil || e != api.ErrNone {
			t.Error("there is none:", r, p, pulls, e)
		}
		return
	}
	var with []int
	for i, l := range r.Loads {
		with = append(with, l.Lo)
		if sign(r, *want, i)*way > 0 {
			with[i] = tops(r)[i]
		}
	}
	if p != *want || !slices.Equal(pulls, with) || e != api.OK {
		t.Error(r, "wanted", *want, with, "got", p, pulls, e)
	}
}

func force(t *testing.T, r rigging.Rig, p rigging.Part, pulls []int) int {
	t.Helper()
	points, hangers, e := rigging.Bears(r, pulls)
	if e != api.OK {
		t.Fatal(r, pulls, e)
	}
	return inOrder(points, hangers)[slices.Index(parts(r), p)]
}

// P3.4
func TestRoom(t *testing.T) {
	weak := func(n int) rigging.Rig {
		r := bars(2, beam(10, 40, point(0), point(1), 0, api.MaxBear))
		r.Points[0] = n
		r.Factors = [3]int{1000, 1001, 1500}
		return r
	}
	held := loaded(weak(5000), load(on(0, 10), rigging.Still, 30, 5000))
	for _, x := range []struct {
		name string
		r    rigging.Rig
		at   rigging.Place
		kind uint8
		want int
	}{
		{"half of it", weak(520), on(0, 25), rigging.Still, 1040},
		{"all of it", weak(520), on(0, 10), rigging.Still, 520},
		{"at the point", weak(520), point(0), rigging.Still, 520},
		{"at the other point", weak(520), point(1), rigging.Still, api.MaxBear},
		{"nothing, with a limit for another one", weak(0), on(0, 40), rigging.Still, api.MaxBear},
		{"two thirds", weak(520), point(0), rigging.People, 346},
		{"two thirds, just met", weak(519), point(0), rigging.People, 346},
		{"two thirds, not met", weak(518), point(0), rigging.People, 345},
		{"rounded up at once", weak(1), point(0), rigging.Moving, 0},
		{"rounded up once", weak(2), point(0), rigging.Moving, 1},
		{"rounded up to 1001", weak(1001), point(0), rigging.Moving, 1000},
		{"rounded up to 1002", weak(1002), point(0), rigging.Moving, 1000},
		{"rounded up to 1003", weak(1003), point(0), rigging.Moving, 1001},
		{"all that may be", weak(api.MaxBear), point(0), rigging.Still, api.MaxBear},
		{"one less than may be", weak(api.MaxBear - 1), point(0), rigging.Still, api.MaxBear - 1},
		{"more than a load may be", bars(2, beam(10, 40, point(0), point(1), 0, api.MaxBear)), on(0, 25), rigging.Still, api.MaxBear},
		{"a factor of all that may be", weak(api.MaxBear), point(0), rigging.People, 666666},
		{"no room", weak(0), point(0), rigging.Still, 0},
		{"a point without beams", bars(3), point(2), rigging.Moving, 666666},
		{"slack at once", weak(5000), on(0, 41), rigging.Still, 0},
		{"slack after 30 newtons a notch", held, on(0, 41), rigging.Still, 900},
		{"slack after 30 newtons a notch, twice as far", held, on(0, 42), rigging.Still, 450},
		{"slack after 30 newtons a notch, with a factor", held, on(0, 41), rigging.People, 600},
		{"just not over", loaded(bars(1), load(point(0), rigging.Moving, 0, 666666)), point(0), rigging.Still, 1},
		{"full, and slack on the other side at once", held, on(0, 9), rigging.Still, 0},
		{"full", held, on(0, 11), rigging.Still, 0},
	} {
		if n, e := rigging.Room(x.r, x.at, x.kind); n != x.want || e != api.OK {
			t.Error(x.name, n, e)
		}
	}
}

// P3.4: the hangers have limits too, and the load that is put up may relieve others.
func TestRoomOfHangers(t *testing.T) {
	r := bars(2, beam(20, 40, point(0), point(1), 0, 100))
	r.Points[1] = 70
	for notch, want := range map[int]int{20: 100, 21: 105, 30: 140, 34: 100, 40: 70, 19: 0, 41: 0} {
		if n, e := rigging.Room(r, on(0, notch), rigging.Still); n != want || e != api.OK {
			t.Error(notch, n, e)
		}
	}
	r.Loads = []rigging.Load{load(on(0, 30), rigging.Still, 100, 100)}
	for notch, want := range map[int]int{10: 33, 0: 25, 30: 40, 50: 13, 60: 10} {
		if n, e := rigging.Room(r, on(0, notch), rigging.Still); n != want || e != api.OK {
			t.Error("with a load in the middle:", notch, n, e)
		}
	}
}

// P3.4: there is room for one load less than the most there may be, and the table of errors.
func TestRoomErrors(t *testing.T) {
	r := bars(1, beam(0, 60, point(0), point(0), 0, api.MaxBear))
	r.Loads = slices.Repeat([]rigging.Load{load(on(0, 30), rigging.Still, 0, 1)}, api.MaxLoads-1)
	if n, e := rigging.Room(r, on(0, 30), rigging.Still); n != api.MaxBear-api.MaxLoads+1 || e != api.OK {
		t.Error("one load less than the most:", n, e)
	}
	r.Loads = append(r.Loads, r.Loads[0])
	over, slack := copied(r), copied(r)
	over.Points[0] = 1
	slack.Beams[0] = beam(50, 60, point(0), point(0), 9, 9)
	for _, x := range []struct {
		name string
		r    rigging.Rig
		at   rigging.Place
		kind uint8
		want api.Errno
	}{
		{"as many loads as there may be", r, on(0, 30), rigging.Still, api.ErrLimit},
		{"as many loads, and over", over, on(0, 30), rigging.Still, api.ErrLimit},
		{"no kind", r, on(0, 30), 3, api.ErrRange},
		{"no notch", r, on(0, 61), rigging.Still, api.ErrRange},
		{"a notch below 0", r, on(0, -1), rigging.Still, api.ErrRange},
		{"no beam", r, on(1, 30), rigging.Still, api.ErrRange},
		{"a beam below -1", r, on(-2, 0), rigging.Still, api.ErrRange},
		{"the lowest beam", r, on(lowest, 0), rigging.Still, api.ErrRange},
		{"no point", r, point(1), rigging.Still, api.ErrRange},
		{"the highest point", r, point(highest), rigging.Still, api.ErrRange},
		{"not valid", rigging.Rig{}, point(0), 3, api.ErrArg},
		{"over", loaded(bars(1), load(point(0), rigging.Moving, 0, 666667)), point(0), rigging.Still, api.ErrFail},
		{"another part is over", rigging.Rig{Points: []int{9, 9}, Factors: r.Factors, Loads: []rigging.Load{load(point(0), 0, 0, 10)}}, point(1), rigging.Still, api.ErrFail},
		{"slack", slackShow(), point(0), rigging.Still, api.ErrFail},
		{"slack where the load would help", slackShow(), on(0, 40), rigging.Still, api.ErrFail},
		{"the loads gone, slack by its weight", rigging.Rig{Points: slack.Points, Beams: slack.Beams, Factors: slack.Factors}, point(0), rigging.Still, api.ErrFail},
	} {
		if n, e := rigging.Room(x.r, x.at, x.kind); e != x.want || n != 0 {
			t.Error(x.name, n, e)
		}
	}
}

// P3.11: by all corners of the loads, with the one that is put up.
func TestRoomByDefinition(t *testing.T) {
	d := newDice(12)
	found, full := 0, 0
	for range 3000 {
		r := d.calm(4, 3)
		for i := range r.Points {
			r.Points[i] = min(r.Points[i]*10, api.MaxBear)
		}
		for i := range r.Beams {
			r.Beams[i].Strength *= 10
		}
		at, kind := d.place(r), uint8(d.Intn(3))
		over, slack := firstWrong(t, r)
		n, e := rigging.Room(r, at, kind)
		if over != nil || slack != nil {
			if n != 0 || e != api.ErrFail {
				t.Error("as it is:", r, n, e)
			}
			continue
		}
		if e != api.OK || n < 0 || n > api.MaxBear {
			t.Fatal(r, at, kind, n, e)
		}
		found++
		over, slack = firstWrong(t, loaded(r, load(at, kind, 0, n)))
		if over != nil || slack != nil {
			t.Error("too much:", r, at, kind, n)
		}
		if n == api.MaxBear {
			full++
			continue
		}
		over, slack = firstWrong(t, loaded(r, load(at, kind, 0, n+1)))
		if over == nil && slack == nil {
			t.Error("too little:", r, at, kind, n)
		}
	}
	if found < 300 {
		t.Error("too few rigs are as they should be:", found, full)
	}
}

// P3.10 and P3: if Over has none, no part is over with any pulls, and likewise for Slack.
func TestNoneIsWrong(t *testing.T) {
	d := newDice(13)
	safe := 0
	for range 3000 {
		r := d.calm(5, 5)
		_, _, over := rigging.Over(r)
		_, _, slack := rigging.Slack(r)
		if over != api.ErrNone || slack != api.ErrNone {
			continue
		}
		safe++
		for range 20 {
			pulls := d.pulls(r)
			p, h, e := rigging.Bears(r, pulls)
			for i, n := range inOrder(p, h) {
				part := parts(r)[i]
				if n > limit(r, part)*grain || n < 0 && isHanger(part) || e != api.OK {
					t.Error(r, pulls, part, n, e)
				}
			}
		}
	}
	if safe < 300 {
		t.Error("too few rigs are safe:", safe)
	}
}
