package canvas_test

import (
	"testing"

	"bigtop/api"
	"bigtop/canvas"
)

// P1.1
func TestCheckTests(t *testing.T) {
	good := canvas.Test{Soil: 3, Depth: 10, Force: 10, Held: true}
	for _, x := range []struct {
		name string
		set  func(*canvas.Test, int)
		lo   int
		hi   int
	}{
		{"soil", func(x *canvas.Test, n int) { x.Soil = n }, 0, api.MaxSoils - 1},
		{"depth", func(x *canvas.Test, n int) { x.Depth = n }, 1, api.MaxDepth},
		{"force", func(x *canvas.Test, n int) { x.Force = n }, 1, api.MaxPull},
	} {
		for _, n := range []int{x.lo, x.hi, x.lo - 1, x.hi + 1, least, most} {
			want := api.ErrArg
			if n == x.lo || n == x.hi {
				want = api.OK
			}
			one := good
			x.set(&one, n)
			if e := canvas.CheckTests([]canvas.Test{good, one}); e != want {
				t.Error(x.name, n, e)
			}
		}
	}
}

// P1.1
func TestCheckTestsCounts(t *testing.T) {
	if e := canvas.CheckTests(nil); e != api.OK {
		t.Error("no tests:", e)
	}
	many := make([]canvas.Test, api.MaxTests+1)
	if e := canvas.CheckTests(many); e != api.ErrLimit {
		t.Error("too many tests, not valid either:", e)
	}
	for i := range many {
		many[i] = canvas.Test{Depth: 1, Force: 1, Held: true}
	}
	if e := canvas.CheckTests(many); e != api.ErrLimit {
		t.Error("too many tests:", e)
	}
	if e := canvas.CheckTests(many[:api.MaxTests]); e != api.OK {
		t.Error("as many tests as there may be:", e)
	}
	many[api.MaxTests-1].Force = 0
	if e := canvas.CheckTests(many[:api.MaxTests]); e != api.ErrArg {
		t.Error("the last test is not valid:", e)
	}
}

// P1.1
func TestClash(t *testing.T) {
	held := func(soil, depth, force int) canvas.Test {
		return canvas.Test{Soil: soil, Depth: depth, Force: force, Held: true}
	}
	broke := func(soil, depth, force int) canvas.Test {
		return canvas.Test{Soil: soil, Depth: depth, Force: force}
	}
	for _, x := range []struct {
		name string
		l    []canvas.Test
		i, k int
		e    api.Errno
	}{
		{"the chapter's", append(tests(), broke(0, 400, 320)), 0, 2, api.OK},
		{"just none", append(tests(), broke(0, 400, 321)), 0, 0, api.ErrNone},
		{"no tests", nil, 0, 0, api.ErrNone},
		{"all held", []canvas.Test{held(0, 1, 5000), held(0, 3000, 1)}, 0, 0, api.ErrNone},
		{"all broke", []canvas.Test{broke(0, 1, 5000), broke(0, 3000, 1)}, 0, 0, api.ErrNone},
		{"other soils", []canvas.Test{held(1, 1, 5), broke(2, 1, 5)}, 0, 0, api.ErrNone},
		{"the same pull", []canvas.Test{broke(9, 2, 3), held(9, 2, 3)}, 1, 0, api.OK},
		{"the first that held", []canvas.Test{broke(1, 10, 10), held(1, 10, 9), held(1, 10, 12), held(1, 10, 11)}, 2, 0, api.OK},
		{"the first that broke", []canvas.Test{held(1, 10, 10), broke(2, 10, 1), broke(1, 10, 11), broke(1, 20, 19), broke(1, 20, 18)}, 0, 3, api.OK},
		{"the first pair by what held", []canvas.Test{broke(0, 5, 5), broke(1, 5, 5), held(1, 5, 5), held(0, 5, 5)}, 2, 1, api.OK},
		{"at the limits", []canvas.Test{held(0, 3000, 5000), broke(0, 3000, 5000)}, 0, 1, api.OK},
	} {
		if i, k, e := canvas.Clash(x.l); i != x.i || k != x.k || e != x.e {
			t.Error(x.name, i, k, e)
		}
	}
}

// P1.2
func TestHolds(t *testing.T) {
	two := []canvas.Test{{Soil: 1, Depth: 300, Force: 100, Held: true}, {Soil: 1, Depth: 400, Force: 150, Held: true},
		{Soil: 1, Depth: 200, Force: 90}, {Soil: 1, Depth: 100, Force: 60}}
	top := []canvas.Test{{Depth: 1, Force: 4000, Held: true}, {Depth: 1, Force: 5000}}
	for _, x := range []struct {
		name        string
		l           []canvas.Test
		soil, depth int
		want        canvas.Range
	}{
		{"the chapter's", tests(), 0, 700, canvas.Range{Lo: 560, Hi: 839}},
		{"a soil that was not tested", tests(), 1, 700, canvas.Range{Lo: 0, Hi: api.MaxHold}},
		{"no tests", nil, 9, 3000, canvas.Range{Lo: 0, Hi: api.MaxHold}},
		{"a depth of one", tests(), 0, 1, canvas.Range{Lo: 0, Hi: 1}},
		{"rounded", tests(), 0, 701, canvas.Range{Lo: 560, Hi: 841}},
		{"the greatest and the least", two, 1, 1000, canvas.Range{Lo: 375, Hi: 449}},
		{"at the limit", top, 0, 2500, canvas.Range{Lo: api.MaxHold, Hi: api.MaxHold}},
		{"just below the limit", top, 0, 2000, canvas.Range{Lo: 8000000, Hi: api.MaxHold - 1}},
		{"a Lo above MaxHold", firm(), 0, 3000, canvas.Range{Lo: 15000000, Hi: api.MaxHold}},
		{"nothing", []canvas.Test{{Depth: 3000, Force: 1}}, 0, 3000, canvas.Range{}},
	} {
		if r, e := canvas.Holds(x.l, x.soil, x.depth); r != x.want || e != api.OK {
			t.Error(x.name, r, e)
		}
	}
}

// P1.2
func TestDeep(t *testing.T) {
	last := []canvas.Test{{Soil: 2, Depth: 3000, Force: 4999, Held: true}, {Soil: 3, Depth: 7, Force: 3}}
	for _, x := range []struct {
		name        string
		l           []canvas.Test
		soil, force int
		want        int
		e           api.Errno
	}{
		{"the chapter's", tests(), 0, 900, 1125, api.OK},
		{"just above", tests(), 0, 801, 1002, api.OK},
		{"no force", tests(), 0, 0, 1, api.OK},
		{"no force without tests", nil, 5, 0, 1, api.OK},
		{"a force without tests", nil, 5, 1, 0, api.ErrNone},
		{"only broke", last, 3, 1, 0, api.ErrNone},
		{"the last depth", last, 2, 4999, 3000, api.OK},
		{"beyond the last depth", last, 2, 5000, 0, api.ErrNone},
		{"the greatest force", firm(), 0, 5000, 1, api.OK},
		{"the best of two", append(firm(), tests()[0]), 0, 4000, 1, api.OK},
	} {
		if d, e := canvas.Deep(x.l, x.soil, x.force); d != x.want || e != x.e {
			t.Error(x.name, d, e)
		}
	}
}

// P1.2: the least depth, against a search through all of them.
func TestDeepIsLeast(t *testing.T) {
	d := newDice(1)
	for range 300 {
		l, _, _ := d.tests()
		soil, force := d.from(0, 4), d.from(0, 200)
		want := 1
		for ; want <= api.MaxDepth; want++ {
			if r, _ := canvas.Holds(l, soil, want); r.Lo >= force {
				break
			}
		}
		depth, e := canvas.Deep(l, soil, force)
		if want > api.MaxDepth && (e != api.ErrNone || depth != 0) || want <= api.MaxDepth && depth != want {
			t.Error(l, soil, force, depth, e, "is not", want)
		}
	}
}

// P1.8
func TestWhateverRate(t *testing.T) {
	d := newDice(2)
	for range 3000 {
		l, over, under := d.tests()
		soil, depth := d.from(0, 4), d.from(1, api.MaxDepth)
		r, e := canvas.Holds(l, soil, depth)
		held := over[soil] * depth
		if e != api.OK || r.Lo*under[soil] > held || min(api.MaxHold, held/under[soil]) > r.Hi {
			t.Error("a rate that agrees:", l, soil, depth, over[soil], under[soil], r, e)
		}
		if len(l) == 0 {
			continue
		}
		if less, _ := canvas.Holds(l[1:], soil, depth); less.Lo > r.Lo || less.Hi < r.Hi {
			t.Error("one more test:", l, soil, depth, less, r)
		}
	}
}

// P1.8: some rate that agrees holds just Lo, and some other one just Hi, as a clash is all that keeps rates from agreeing.
func TestRangeIsTight(t *testing.T) {
	d := newDice(3)
	for range 1000 {
		l, _, _ := d.tests()
		depth := d.from(1, 2000)
		r, _ := canvas.Holds(l, 0, depth)
		for force := max(1, r.Lo-1); force <= min(r.Hi+1, r.Lo+3, api.MaxPull); force++ {
			one := canvas.Test{Depth: depth, Force: force, Held: true}
			_, _, high := canvas.Clash(append(l[:len(l):len(l)], one))
			one.Held = false
			_, _, low := canvas.Clash(append(l[:len(l):len(l)], one))
			if (high == api.OK) != (force > r.Hi) || (low == api.OK) != (force <= r.Lo) {
				t.Error(l, depth, force, r, high, low)
			}
		}
	}
}
