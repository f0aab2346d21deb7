package canvas_test

import (
	"slices"
	"testing"

	"bigtop/api"
	"bigtop/canvas"
)

// P1.6
func TestWeakest(t *testing.T) {
	both := append(cross(), head(200, at(1000, 0), at(0, 1000), at(-1000, 0), at(0, -1000))...)
	round := []canvas.Vector{at(560, 560), at(-560, 560), at(0, -560)}
	for _, x := range []struct {
		name         string
		tent         canvas.Tent
		wind         []canvas.Vector
		head, corner int
	}{
		{"the chapter's", cross(), []canvas.Vector{at(100, 0), at(500, 600)}, 0, 1},
		{"it stands", cross(), round, -1, -1},
		{"the first corner", cross(), []canvas.Vector{at(0, 0), at(561, 0), at(10000, 0)}, 0, 1},
		{"the first head", both, []canvas.Vector{at(0, 300), at(0, 600)}, 0, 1},
		{"the second head", both, []canvas.Vector{at(280, 280), at(0, -281), at(0, 282)}, 1, 1},
		{"both stand", both, []canvas.Vector{at(280, 280), at(0, -280)}, -1, -1},
		{"no guys", canvas.Tent{{}, {Area: 1}}, []canvas.Vector{at(0, 0), at(-3, 4)}, 1, 1},
		{"no guys, no area", canvas.Tent{{}}, []canvas.Vector{at(-10000, 10000)}, -1, -1},
		{"as many corners as there may be", cross(), append(make([]canvas.Vector, api.MaxCorners-1), at(0, 561)), 0, api.MaxCorners - 1},
	} {
		i, k, way, e := canvas.Weakest(tests(), x.tent, x.wind)
		if i != x.head || k != x.corner || e != api.OK {
			t.Error(x.name, i, k, way, e)
		}
		if i < 0 && way != at(0, 0) || i >= 0 && !canvas.ProveWeak(tests(), x.tent, i, x.wind[k], way) {
			t.Error(x.name, way)
		}
	}
}

// P1.6: the first head and corner, against each head and corner by itself.
func TestWeakestIsFirst(t *testing.T) {
	d := newDice(6)
	for range 1000 {
		l, _, _ := d.tests()
		tent := d.tent(5)
		wind := d.wind(l, tent)
		head, corner := -1, -1
	search:
		for i := range tent {
			for k, push := range wind {
				if _, e := canvas.Balanced(l, tent, i, push); e != api.OK {
					head, corner = i, k
					break search
				}
			}
		}
		i, k, way, e := canvas.Weakest(l, tent, wind)
		if i != head || k != corner || e != api.OK || i >= 0 && !canvas.ProveWeak(l, tent, i, wind[k], way) {
			t.Error(l, tent, wind, i, k, way, e, "is not", head, corner)
		}
	}
}

// P1.7
func TestReach(t *testing.T) {
	big := head(1000, at(1000, 0), at(0, 1000))
	for _, x := range []struct {
		name string
		l    []canvas.Test
		tent canvas.Tent
		way  canvas.Vector
		want int
	}{
		{"the chapter's", tests(), cross(), at(1, 0), 560},
		{"the chapter's aslant", tests(), cross(), at(3, 4), 140},
		{"downwards", tests(), cross(), at(-10, -10), 56},
		{"rounded down", tests(), cross(), at(-561, 3), 0},
		{"the longest direction", tests(), cross(), at(10000, -10000), 0},
		{"no area", tests(), head(0), at(10000, -10000), api.MaxPush},
		{"no guys", tests(), head(1), at(0, 1), 0},
		{"ends at MaxPush", firm(), head(1, at(-100, 0)), at(1, 0), api.MaxPush},
		{"would end just above MaxPush", firm(), head(100, at(-5000, 0), at(-5000, 0), at(-1, 0)), at(1, 0), api.MaxPush},
		{"ends just below MaxPush", firm(), head(100, at(-5000, 0), at(-4999, 0)), at(1, 0), api.MaxPush - 1},
		{"guys on the other side", tests(), big, at(1, 1), 0},
		{"a large area", tests(), big, at(-1, -1), 56},
		{"guys on a line", firm(), head(100, at(-30, -40), at(-30, -40)), at(3, 4), 20},
		{"beside guys on a line", firm(), head(100, at(-30, -40), at(-30, -40)), at(4, 3), 0},
		{"a soil that was not tested", nil, cross(), at(1, 0), 0},
	} {
		if k, e := canvas.Reach(x.l, x.tent, 0, x.way); k != x.want || e != api.OK {
			t.Error(x.name, k, e)
		}
	}
	tent := append(cross(), head(200, at(0, -1000))...)
	if k, e := canvas.Reach(tests(), tent, 1, at(0, 1)); k != 280 || e != api.OK {
		t.Error("the second head:", k, e)
	}
}

// P1.7
func TestSpares(t *testing.T) {
	two := head(100, at(-1000, 0), at(-1000, 0))
	for _, x := range []struct {
		name string
		tent canvas.Tent
		wind []canvas.Vector
		want [][2]int
	}{
		{"the chapter's", cross(), []canvas.Vector{at(100, 0), at(0, 100)}, [][2]int{{0, 0}, {0, 1}}},
		{"no wind", cross(), []canvas.Vector{{}}, [][2]int{{0, 0}, {0, 1}, {0, 2}, {0, 3}}},
		{"all are needed", cross(), []canvas.Vector{at(1, 1), at(-1, -1)}, nil},
		{"either", two, []canvas.Vector{at(560, 0)}, [][2]int{{0, 0}, {0, 1}}},
		{"neither", two, []canvas.Vector{at(561, 0)}, nil},
		{"several heads", append(append(cross(), canvas.Head{}), cross()...), []canvas.Vector{at(-560, 0), at(0, 560), at(-560, 560)},
			[][2]int{{0, 1}, {0, 2}, {2, 1}, {2, 2}}},
		{"no guys", canvas.Tent{{}}, []canvas.Vector{at(5, 5)}, nil},
	} {
		if s, e := canvas.Spares(tests(), x.tent, x.wind); e != api.OK || !slices.Equal(s, x.want) {
			t.Error(x.name, s, e)
		}
	}
	if s, e := canvas.Spares(tests(), two, []canvas.Vector{at(0, 0), at(1121, 0)}); e != api.ErrNone || s != nil {
		t.Error("a tent that does not stand:", s, e)
	}
}

// standing makes tents that stand in a wind, and enough of them.
func standing(t *testing.T, seed int64, check func(dice, []canvas.Test, canvas.Tent, []canvas.Vector)) {
	t.Helper()
	d, seen := newDice(seed), 0
	for range 2000 {
		l, _, _ := d.tests()
		tent := d.tent(5)
		if wind := d.wind(l, tent); stands(t, l, tent, wind...) {
			seen++
			check(d, l, tent, wind)
		}
	}
	if seen < 500 {
		t.Error("only", seen, "tents stood")
	}
}

// P1.10
func TestAnyWind(t *testing.T) {
	standing(t, 7, func(d dice, l []canvas.Test, tent canvas.Tent, wind []canvas.Vector) {
		for i, a := range wind {
			if len(wind) > 1 && !stands(t, l, tent, slices.Delete(slices.Clone(wind), i, i+1)...) {
				t.Error("a corner fewer:", l, tent, wind, i)
			}
			for _, b := range wind[:i] {
				x, y := a.X+b.X, a.Y+b.Y
				if x%2 == 0 && y%2 == 0 && !stands(t, l, tent, at(x/2, y/2)) {
					t.Error("the mean:", l, tent, a, b)
				}
			}
		}
	})
}

// P1.11
func TestLessIsSafer(t *testing.T) {
	standing(t, 8, func(d dice, l []canvas.Test, tent canvas.Tent, wind []canvas.Vector) {
		i := d.Intn(len(tent))
		less := copied(tent)
		less[i].Area = d.from(0, less[i].Area)
		if !stands(t, l, less, wind...) {
			t.Error("a lesser area:", l, tent, wind, i)
		}
		more := copied(tent)
		if n := len(more[i].Guys); n < api.MaxGuys {
			more[i].Guys = slices.Insert(more[i].Guys, d.from(0, n), d.guy())
		}
		if !stands(t, l, more, wind...) {
			t.Error("one more guy:", l, tent, wind, more)
		}
		for k := range tent[i].Guys {
			deep := copied(tent)
			deep[i].Guys[k].Depth = d.from(deep[i].Guys[k].Depth, api.MaxDepth)
			if !stands(t, l, deep, wind...) {
				t.Error("a deeper stake:", l, tent, wind, deep)
			}
		}
	})
}

func (d dice) guy() canvas.Guy {
	way := d.way(5)
	return canvas.Guy{X: way.X, Y: way.Y, Soil: d.from(0, 4), Depth: d.from(1, api.MaxDepth)}
}

// P1.12
func TestReachIsGreatest(t *testing.T) {
	d := newDice(9)
	for i := range 3000 {
		l, _, _ := d.tests()
		tent := canvas.Tent{d.head([]int{3, 50, api.MaxPull}[i%3])}
		tent[0].Area = d.from(0, []int{30, api.MaxArea}[i%2])
		way := d.way([]int{1, 3, 40}[i%3])
		k, e := canvas.Reach(l, tent, 0, way)
		if e != api.OK || k < 0 || k > api.MaxPush {
			t.Fatal(l, tent, way, k, e)
		}
		far := api.MaxPush / max(way.X, -way.X, way.Y, -way.Y) // farther is no push
		for _, n := range []int{0, 1, d.from(0, k), k - 1, k, k + 1, k + 2, d.from(k, api.MaxPush)} {
			if n < 0 || n > far {
				continue
			}
			_, e := canvas.Balanced(l, tent, 0, at(n*way.X, n*way.Y))
			if n <= k && e != api.OK || n > k && e != api.ErrNone {
				t.Error(l, tent, way, k, "but", n, e)
			}
		}
	}
}

// P1.13
func TestSparesByThemselves(t *testing.T) {
	d, seen := newDice(10), 0
	for range 2000 {
		l, _, _ := d.tests()
		tent := d.tent(5)
		wind := d.wind(l, tent)
		spares, e := canvas.Spares(l, tent, wind)
		if !stands(t, l, tent, wind...) {
			if e != api.ErrNone || spares != nil {
				t.Error("it does not stand:", l, tent, wind, spares, e)
			}
			continue
		}
		var want [][2]int
		for i, h := range tent {
			for k := range h.Guys {
				if stands(t, l, without(tent, i, k), wind...) {
					want = append(want, [2]int{i, k})
				} else {
					seen++
				}
			}
		}
		if e != api.OK || !slices.Equal(spares, want) {
			t.Error(l, tent, wind, spares, e, "is not", want)
		}
	}
	if seen < 500 {
		t.Error("only", seen, "guys were needed")
	}
}
