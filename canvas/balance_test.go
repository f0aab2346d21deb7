package canvas_test

import (
	"testing"

	"bigtop/api"
	"bigtop/canvas"
)

// P1.5
func TestBalanced(t *testing.T) {
	strong := head(1000, at(5000, 5000), at(-5000, 5000), at(0, -5000))
	for _, x := range []struct {
		name  string
		l     []canvas.Test
		tent  canvas.Tent
		push  canvas.Vector
		holds bool
	}{
		{"the chapter's", tests(), cross(), at(-300, 100), true},
		{"the chapter's that is too strong", tests(), cross(), at(600, 0), false},
		{"no wind", tests(), cross(), at(0, 0), true},
		{"all that one bears", tests(), cross(), at(560, 0), true},
		{"one more", tests(), cross(), at(561, 0), false},
		{"all that two bear", tests(), cross(), at(-560, 560), true},
		{"one more than two bear", tests(), cross(), at(-560, 561), false},
		{"no guys, no wind", nil, head(100), at(0, 0), true},
		{"no guys, some wind", nil, head(100), at(0, 1), false},
		{"no guys, no area", nil, head(0), at(-10000, 10000), true},
		{"guys that bear nothing", nil, cross(), at(1, 0), false},
		{"guys that bear nothing, no wind", nil, cross(), at(0, 0), true},
		{"one guy", firm(), head(100, at(30, 40)), at(-15, -20), true},
		{"one guy, just so", firm(), head(100, at(30, 40)), at(-30, -40), true},
		{"one guy, too much", firm(), head(100, at(30, 40)), at(-33, -44), false},
		{"one guy, the other way", firm(), head(100, at(30, 40)), at(3, 4), false},
		{"one guy, beside its line", firm(), head(100, at(30, 40)), at(-15, -21), false},
		{"two guys on a line", firm(), head(100, at(30, 40), at(-3, -4)), at(3, 4), true},
		{"two guys on a line, too much", firm(), head(100, at(30, 40), at(-3, -4)), at(6, 8), false},
		{"two guys on a line, together", firm(), head(100, at(30, 40), at(3, 4)), at(-33, -44), true},
		{"a guy that bears nothing beside one that does", append(firm(), canvas.Test{Soil: 1, Depth: 1, Force: 1}),
			canvas.Tent{{Area: 100, Guys: []canvas.Guy{guy(10, 0), {Y: 10, Soil: 1, Depth: 1}}}}, at(-5, -5), false},
		{"eight guys", firm(), head(100, at(1, 0), at(1, 1), at(0, 1), at(-1, 1), at(-1, 0), at(-1, -1), at(0, -1), at(1, -1)), at(3, 1), true},
		{"eight guys, too much", firm(), head(100, at(1, 0), at(1, 1), at(0, 1), at(-1, 1), at(-1, 0), at(-1, -1), at(0, -1), at(1, -1)), at(3, 2), false},
		{"the greatest area of two forces", firm(), strong, at(3, -7), true},
		{"the strongest push", firm(), strong, at(10000, -10000), false},
	} {
		b, e := canvas.Balanced(x.l, x.tent, 0, x.push)
		if x.holds && (e != api.OK || !canvas.ProveBalance(x.l, x.tent, 0, x.push, b)) {
			t.Error(x.name, b, e)
		}
		if !x.holds && (e != api.ErrNone || b.Whole != 0 || b.Parts != nil) {
			t.Error(x.name, b, e)
		}
	}
}

// P1.5
func TestProveBalance(t *testing.T) {
	for _, x := range []struct {
		name  string
		whole int
		parts []int
		want  bool
	}{
		{"the chapter's", 56, []int{30, 0, 0, 10}, true},
		{"twice that", 112, []int{60, 0, 0, 20}, true},
		{"with two that help less", 56, []int{56, 46, 26, 56}, true},
		{"wrong in x", 56, []int{31, 0, 0, 10}, false},
		{"wrong in y", 56, []int{30, 0, 0, 9}, false},
		{"the other way", 56, []int{0, 10, 30, 0}, false},
		{"a part above the whole", 56, []int{57, 0, 27, 10}, false},
		{"a part below 0", 56, []int{29, 0, -1, 10}, false},
		{"too few parts", 56, []int{30, 0, 0}, false},
		{"too many parts", 56, []int{30, 0, 0, 10, 0}, false},
		{"no whole", 0, []int{0, 0, 0, 0}, false},
		{"a whole below 0", -56, []int{-30, 0, 0, -10}, false},
		{"the greatest numbers", most, []int{most, most, most, most}, false},
		{"nothing", 0, nil, false},
	} {
		if canvas.ProveBalance(tests(), cross(), 0, at(-300, 100), canvas.Balance{Whole: x.whole, Parts: x.parts}) != x.want {
			t.Error(x.name)
		}
	}
}

// P1.5: a whole at its limit, and sums near those of an int.
func TestProveBalanceLimits(t *testing.T) {
	for whole, want := range map[int]bool{1: true, api.MaxWhole: true, api.MaxWhole + 1: false, most: false, 0: false, least: false} {
		if canvas.ProveBalance(nil, head(0), 0, at(5, 5), canvas.Balance{Whole: whole}) != want {
			t.Error("whole", whole)
		}
	}
	one := at(5000, 5000)
	eight := head(1000, one, one, one, one, one, one, one, one)
	all := func(n int) (l []int) {
		for range api.MaxGuys {
			l = append(l, n)
		}
		return l
	}
	for _, x := range []struct {
		push        canvas.Vector
		whole, part int
		want        bool
	}{
		{at(-4000, -4000), api.MaxWhole, api.MaxWhole, true},
		{at(-2000, -2000), api.MaxWhole, api.MaxWhole / 2, true},
		{at(4000, 4000), api.MaxWhole, api.MaxWhole, false},
		{at(-10000, -10000), api.MaxWhole, api.MaxWhole, false},
		{at(10000, 10000), api.MaxWhole, api.MaxWhole, false},
		// Eight times 500000 times this part is 0 in 64 bits.
		{at(0, 0), 1 << 60, 1 << 60, false},
	} {
		if canvas.ProveBalance(firm(), eight, 0, x.push, canvas.Balance{Whole: x.whole, Parts: all(x.part)}) != x.want {
			t.Error(x)
		}
	}
}

// P1.5, P1.6: what the first six arguments must be.
func TestProofsOfNothing(t *testing.T) {
	b := canvas.Balance{Whole: 56, Parts: []int{0, 0, 56, 0}}
	for _, x := range []struct {
		name string
		l    []canvas.Test
		tent canvas.Tent
		head int
		want bool
	}{
		{"all is well", tests(), cross(), 0, true},
		{"a test that is not valid", append(tests(), canvas.Test{}), cross(), 0, false},
		{"too many tests", make([]canvas.Test, api.MaxTests+1), cross(), 0, false},
		{"tests that clash in another soil", append(tests(), canvas.Test{Soil: 5, Depth: 1, Force: 1}, canvas.Test{Soil: 5, Depth: 1, Force: 1, Held: true}), cross(), 0, false},
		{"a tent that is not valid", tests(), append(cross(), canvas.Head{Area: -1}), 0, false},
		{"a head below", tests(), cross(), -1, false},
		{"a head above", tests(), cross(), 1, false},
	} {
		if canvas.ProveBalance(x.l, x.tent, x.head, at(560, 0), b) != x.want {
			t.Error("ProveBalance:", x.name)
		}
		if canvas.ProveWeak(x.l, x.tent, x.head, at(561, 0), at(1, 0)) != x.want {
			t.Error("ProveWeak:", x.name)
		}
	}
	for _, push := range []canvas.Vector{at(10001, 0), at(0, 10001), at(-10001, 0), at(0, -10001), at(least, most)} {
		if canvas.ProveBalance(nil, head(0), 0, push, canvas.Balance{Whole: 1}) || canvas.ProveWeak(tests(), cross(), 0, push, at(push.X/10001, push.Y/10001)) {
			t.Error("a push that is out of its range:", push)
		}
	}
	if !canvas.ProveBalance(nil, head(0), 0, at(10000, -10000), canvas.Balance{Whole: 1}) || !canvas.ProveWeak(tests(), cross(), 0, at(10000, -10000), at(1, -1)) {
		t.Error("a push at its limits")
	}
}

// P1.6
func TestProveWeak(t *testing.T) {
	for _, x := range []struct {
		name      string
		l         []canvas.Test
		tent      canvas.Tent
		push, way canvas.Vector
		want      bool
	}{
		{"the chapter's", tests(), cross(), at(600, 0), at(1, 0), true},
		{"one more than it bears", tests(), cross(), at(561, 0), at(1, 0), true},
		{"just what it bears", tests(), cross(), at(560, 0), at(1, 0), false},
		{"against the push", tests(), cross(), at(561, 0), at(-1, 0), false},
		{"across the push", tests(), cross(), at(561, 0), at(0, 1), false},
		{"aslant", tests(), cross(), at(400, 800), at(1, 2), true},
		{"aslant, what it bears", tests(), cross(), at(400, 640), at(1, 2), false},
		{"no direction", tests(), cross(), at(600, 0), at(0, 0), false},
		{"no guys", nil, head(1), at(0, -1), at(0, -1), true},
		{"no guys, across", nil, head(1), at(0, -1), at(1, 0), false},
		{"no area", nil, head(0), at(0, -1), at(0, -1), false},
		{"guys that pull along do not count", firm(), head(1, at(100, 0), at(0, 5000)), at(1, 0), at(1, 0), true},
		{"guys against each other", firm(), head(100, at(-1, 0), at(1, 0)), at(1, 0), at(1, 0), false},
		{"the longest direction", tests(), cross(), at(600, 0), at(api.MaxWay, -10), true},
		{"a longer direction", tests(), cross(), at(600, 0), at(api.MaxWay+1, 0), false},
		{"the longest direction down", tests(), cross(), at(0, -600), at(0, -api.MaxWay), true},
		{"a longer direction down", tests(), cross(), at(0, -600), at(0, -api.MaxWay-1), false},
		{"the greatest numbers", firm(), head(1000, at(-5000, -5000)), at(10000, 10000), at(api.MaxWay, api.MaxWay), true},
		{"a direction of no range", tests(), cross(), at(600, 0), at(most, least), false},
	} {
		if canvas.ProveWeak(x.l, x.tent, 0, x.push, x.way) != x.want {
			t.Error(x.name)
		}
	}
}

// P1.5, P1.6: the head that is meant is the one that is looked at.
func TestSecondHead(t *testing.T) {
	tent := append(head(100, at(1, 0)), cross()...)
	b, e := canvas.Balanced(tests(), tent, 1, at(0, 300))
	if e != api.OK || !canvas.ProveBalance(tests(), tent, 1, at(0, 300), b) || canvas.ProveWeak(tests(), tent, 1, at(0, 300), at(0, 1)) {
		t.Error("the second head:", b, e)
	}
	if b, e := canvas.Balanced(tests(), tent, 0, at(0, 300)); e != api.ErrNone || !canvas.ProveWeak(tests(), tent, 0, at(0, 300), at(0, 1)) {
		t.Error("the first head:", b, e)
	}
}

// P1.9, with a check of balances in numbers of any size.
func TestOneOfBoth(t *testing.T) {
	d := newDice(5)
	for i := range 4000 {
		l, _, _ := d.tests()
		limit := []int{3, 20, 300, api.MaxPull}[i%4]
		tent := canvas.Tent{d.head(limit)}
		if i%8 > 5 {
			tent[0].Area = d.from(900, api.MaxArea)
		}
		push := d.vector(min(api.MaxPush, limit))
		if i%3 > 0 { // just inside, or just outside
			way := d.way(3)
			k, e := canvas.Reach(l, tent, 0, way)
			if e != api.OK {
				t.Fatal(l, tent, way, e)
			}
			k = min(k+i%3-1, api.MaxPush/3)
			push = at(way.X*k, way.Y*k)
		}
		oneOfBoth(t, d, l, tent, push)
	}
}

func oneOfBoth(t *testing.T, d dice, l []canvas.Test, tent canvas.Tent, push canvas.Vector) {
	t.Helper()
	parts, _ := canvas.Parts(l, tent)
	b, e := canvas.Balanced(l, tent, 0, push)
	i, k, weak, f := canvas.Weakest(l, tent, []canvas.Vector{push})
	switch {
	case e == api.OK:
		if !canvas.ProveBalance(l, tent, 0, push, b) || !balances(parts[0], tent[0], push, b) {
			t.Error("no balance:", l, tent, push, b)
		}
		if i != -1 || k != -1 || weak != at(0, 0) || f != api.OK {
			t.Error("both:", l, tent, push, b, i, k, weak, f)
		}
		for k := range b.Parts {
			b.Parts[k] += d.from(-1, 1)
			if canvas.ProveBalance(l, tent, 0, push, b) != balances(parts[0], tent[0], push, b) {
				t.Error("a changed balance:", l, tent, push, b)
			}
		}
		for range 20 {
			if way := d.vector(10); canvas.ProveWeak(l, tent, 0, push, way) {
				t.Error("both:", l, tent, push, b, way)
			}
		}
	case e == api.ErrNone:
		if i != 0 || k != 0 || f != api.OK || !canvas.ProveWeak(l, tent, 0, push, weak) {
			t.Error("neither:", l, tent, push, weak, f)
		}
	default:
		t.Error(l, tent, push, e)
	}
}
