package wagon_test

import (
	"slices"
	"testing"

	"bigtop/api"
	"bigtop/wagon"
)

// P5.1: each number of a lorry at its limits and beyond them.
func TestCheckLorryNumbers(t *testing.T) {
	checkNumbers(t, lorry, wagon.CheckLorry, []number[wagon.Lorry]{
		{"the first room", func(l *wagon.Lorry, n int) { l.Lanes[0] = n }, 1, api.MaxRoom},
		{"the last room", func(l *wagon.Lorry, n int) { l.Lanes[1] = n }, 1, api.MaxRoom},
		{"height", func(l *wagon.Lorry, n int) { l.Height = n }, 1, api.MaxHigh},
		{"carries", func(l *wagon.Lorry, n int) { l.Carries = n }, 0, api.MaxHeavy},
		{"empty", func(l *wagon.Lorry, n int) { l.Empty = n }, 0, api.MaxHeavy},
		{"rear", func(l *wagon.Lorry, n int) { l.Rear = n }, 1, api.MaxRear},
		{"axle", func(l *wagon.Lorry, n int) { l.Axle = n }, 0, api.MaxHeavy},
		{"deck", func(l *wagon.Lorry, n int) { l.Deck = n }, 0, api.MaxDeck},
	})
}

// P5.1: lorries with a lane, with MaxLanes, with none and with one too many.
func TestCheckLorryLanes(t *testing.T) {
	for n, want := range map[int]api.Errno{0: api.ErrArg, 1: api.OK, 2: api.OK, api.MaxLanes: api.OK, api.MaxLanes + 1: api.ErrArg, 1000: api.ErrArg} {
		if e := wagon.CheckLorry(lanes(slices.Repeat(list(1), n)...)); e != want {
			t.Error("lanes:", n, e)
		}
	}
	if e := wagon.CheckLorry(lanes([]int{}...)); e != api.ErrArg {
		t.Error("an empty list of lanes:", e)
	}
	six := lanes(1, 1, 1, 1, 1, 0)
	if e := wagon.CheckLorry(six); e != api.ErrArg {
		t.Error("a last lane without room:", e)
	}
}

// P5.1 and P5.2: each number of a thing at its limits and beyond them.
func TestThingNumbers(t *testing.T) {
	wide := wagon.Lorry{Lanes: list(api.MaxRoom, api.MaxRoom), Height: api.MaxHigh, Carries: api.MaxHeavy, Rear: 1}
	two := func() []wagon.Thing { return []wagon.Thing{{Long: 1, High: 1}, {Long: 2, High: 1}} }
	l := []number[[]wagon.Thing]{
		{"long", func(l *[]wagon.Thing, n int) { (*l)[1].Long = n }, 1, api.MaxRoom},
		{"high", func(l *[]wagon.Thing, n int) { (*l)[1].High = n }, 1, api.MaxHigh},
		{"mass", func(l *[]wagon.Thing, n int) { (*l)[1].Mass = n }, 0, api.MaxHeavy},
		{"need", func(l *[]wagon.Thing, n int) { (*l)[1].Need = n }, 0, api.MaxOrder},
		{"need of the first one", func(l *[]wagon.Thing, n int) { (*l)[0].Need = n }, 0, api.MaxOrder},
	}
	told := func(is bool) api.Errno {
		if is {
			return api.OK
		}
		return api.ErrArg
	}
	apart := in(list(0), list(1))
	for _, check := range []func([]wagon.Thing) api.Errno{
		func(l []wagon.Thing) api.Errno { return told(wagon.Right(wide, l, apart)) },
		func(l []wagon.Thing) api.Errno { return told(wagon.Loadable(wide, l, apart)) },
		func(l []wagon.Thing) api.Errno { _, e := wagon.Pack(wide, l); return e },
		func(l []wagon.Thing) api.Errno { _, e := wagon.Load(wide, l); return e },
		func(l []wagon.Thing) api.Errno { _, e := wagon.Climb(l); return e },
		func(l []wagon.Thing) api.Errno { _, _, _, e := wagon.Axles(wide, l, apart); return e },
		func(l []wagon.Thing) api.Errno { _, e := wagon.Stops(wide, l, apart, nil); return e },
		func(l []wagon.Thing) api.Errno { _, e := wagon.Fill([]wagon.Lorry{wide}, l); return e },
	} {
		checkNumbers(t, two, check, l)
	}
}

// P5.1: packings that are right, loadable, or not, for one reason each.
func TestRight(t *testing.T) {
	small := func(set func(*wagon.Lorry)) wagon.Lorry {
		l := lorry()
		set(&l)
		return l
	}
	good := in(list(0, 1), list(2, 3))
	for _, x := range []struct {
		name            string
		lorry           wagon.Lorry
		things          []wagon.Thing
		packing         [][]int
		right, loadable bool
	}{
		{"the chapter's example", lorry(), things(), good, true, true},
		{"another one", lorry(), things(), in(list(2, 1), list(0, 3)), true, false},
		{"one that just fills a lane", lanes(60, 40), things(), good, true, true},
		{"one too long for the first lane", lanes(59, 50), things(), good, false, false},
		{"one too long for the last lane", lanes(60, 39), things(), good, false, false},
		{"the longer lane behind", lanes(40, 60), things(), good, false, false},
		{"as high as the lorry", small(func(l *wagon.Lorry) { l.Height = 30 }), things(), good, true, true},
		{"higher than the lorry", small(func(l *wagon.Lorry) { l.Height = 29 }), things(), good, false, false},
		{"just carried", small(func(l *wagon.Lorry) { l.Carries = 650 }), things(), good, true, true},
		{"too heavy", small(func(l *wagon.Lorry) { l.Carries = 649 }), things(), good, false, false},
		{"in the way", lorry(), things(), in(list(1, 0), list(2, 3)), false, false},
		{"in the way in the last lane", lorry(), things(), in(list(0, 1), list(3, 2)), false, false},
		{"in the way, not as the next one", lanes(60, 60), needed(3, 3, 5, 1), in(list(0, 1, 2), list(3)), false, false},
		{"needed together", lorry(), needed(4, 4, 4), in(list(0, 1, 2), nil), true, true},
		{"needed together, in any order", lorry(), needed(4, 4, 4), in(nil, list(2, 0, 1)), true, false},
		{"right, but not loadable", lorry(), needed(1, 2), in(list(1, 0), nil), true, false},
		{"not loadable in the last lane", lorry(), needed(1, 2, 3), in(list(2), list(1, 0)), true, false},
		{"a lane too few", lorry(), things()[:2], in(list(0, 1)), false, false},
		{"a lane too many", lorry(), things(), in(list(0, 1), list(2, 3), nil), false, false},
		{"no lanes", lorry(), nil, nil, false, false},
		{"a thing twice in a lane", lorry(), row(1, 1), in(list(0, 1, 1), nil), false, false},
		{"a thing twice in two lanes", lorry(), row(1, 1), in(list(0, 1), list(1)), false, false},
		{"a thing twice, and another one missing", lorry(), row(1, 1), in(list(0), list(0)), false, false},
		{"a thing missing", lorry(), row(1, 1), in(list(0), nil), false, false},
		{"all things missing", lorry(), row(1, 1), in(nil, nil), false, false},
		{"a number that is none", lorry(), row(1, 1), in(list(0, 1), list(2)), false, false},
		{"a number that is none, instead of one", lorry(), row(1, 1), in(list(0), list(2)), false, false},
		{"a number below 0", lorry(), row(1, 1), in(list(-1), list(0, 1)), false, false},
		{"a number far below 0", lorry(), row(1, 1), in(list(lowest), list(0, 1)), false, false},
		{"a number far too large", lorry(), row(1, 1), in(list(0, 1, highest), nil), false, false},
		{"no things", lorry(), nil, in(nil, nil), true, true},
		{"no things in lists", lorry(), []wagon.Thing{}, in(list(), list()), true, true},
		{"no things, and a number", lorry(), nil, in(list(0), nil), false, false},
		{"no things for a lorry that carries nothing", small(func(l *wagon.Lorry) { l.Carries = 0 }), nil, in(nil, nil), true, true},
		{"MaxThings things", lorry(), equally(14), in(countTo(14), nil), true, true},
		{"one more", lorry(), equally(15), in(countTo(15), nil), false, false},
		{"a lane", lanes(10), row(4, 6), in(list(0, 1)), true, true},
		{"MaxLanes lanes", lanes(1, 1, 1, 1, 1, 1), row(1, 1, 1, 1, 1, 1), in(list(5), list(4), list(3), list(2), list(1), list(0)), true, true},
		{"a lane too many for a lorry", lanes(1, 1, 1, 1, 1, 1, 1), nil, in(nil, nil, nil, nil, nil, nil, nil), false, false},
		{"a lorry that is not valid", small(func(l *wagon.Lorry) { l.Rear = 0 }), things(), good, false, false},
	} {
		if is := wagon.Right(x.lorry, x.things, x.packing); is != x.right {
			t.Error("Right:", x.name, is)
		}
		if is := wagon.Loadable(x.lorry, x.things, x.packing); is != x.loadable {
			t.Error("Loadable:", x.name, is)
		}
	}
}

// P5.1, by the words of the chapter: packings of all kinds, most of them spoilt a little.
func TestRightByDefinition(t *testing.T) {
	d := newDice(1)
	right, loadable := 0, 0
	for range 20000 {
		l := d.things(d.from(0, 6))
		by := d.lorryFor(l, d.from(1, 3))
		p := make([][]int, len(by.Lanes))
		for i := range l {
			lane := d.Intn(len(p))
			p[lane] = append(p[lane], i)
		}
		if d.Intn(2) == 0 {
			for _, lane := range p {
				slices.SortFunc(lane, func(a, b int) int { return l[b].Need - l[a].Need })
			}
		}
		if lane := d.Intn(len(p)); d.Intn(8) == 0 && len(p[lane]) > 0 {
			p[lane][d.Intn(len(p[lane]))] = d.from(-1, len(l))
		}
		want, loads := isRight(by, l, p), isLoadable(by, l, p)
		if is := wagon.Right(by, l, p); is != want {
			t.Error("Right:", by, l, p, is)
		}
		if is := wagon.Loadable(by, l, p); is != loads {
			t.Error("Loadable:", by, l, p, is)
		}
		if want {
			right++
		}
		if loads {
			loadable++
		}
	}
	if right < 1000 || loadable < 500 {
		t.Error("hardly any are right:", right, loadable)
	}
}

// P5.2: the chapter's example, and each reason for another lane.
func TestPack(t *testing.T) {
	twice := needed(3, 1, 3, 2, 1)
	for _, x := range []struct {
		name         string
		lorry        wagon.Lorry
		things       []wagon.Thing
		pack, loaded [][]int // nil: there is none
	}{
		{"the chapter's example", lorry(), things(), in(list(0, 1), list(2, 3)), in(list(0, 1), list(2, 3))},
		{"no things", lorry(), nil, in(nil, nil), in(nil, nil)},
		{"no things for a lane", lanes(1), nil, in(nil), in(nil)},
		{"all in the least lane", lorry(), row(20, 20, 20), in(list(0, 1, 2), nil), in(list(0, 1, 2), nil)},
		{"as long as a lane", lorry(), row(60, 50), in(list(0), list(1)), in(list(0), list(1))},
		{"longer than a lane", lorry(), row(61), nil, nil},
		{"one more than fits", lorry(), row(60, 50, 1), nil, nil},
		{"the first one has to go behind", lorry(), row(50, 60), in(list(1), list(0)), in(list(1), list(0))},
		{"the first one makes room for later ones", lorry(), row(20, 25, 25, 40), in(list(0, 3), list(1, 2)), in(list(0, 3), list(1, 2))},
		{"by falling need, and rising number", lanes(9), twice, in(list(0, 2, 3, 1, 4)), nil},
		{"in the way of each other", lorry(), needed(1, 2), in(list(1, 0), nil), in(list(0), list(1))},
		{"needed together", lorry(), needed(7, 7, 7), in(list(0, 1, 2), nil), in(list(0, 1, 2), nil)},
		{"three that climb", lorry(), needed(1, 2, 3), in(list(2, 1, 0), nil), nil},
		{"three that climb, and three lanes", lanes(3, 3, 3), needed(0, 500, api.MaxOrder), in(list(2, 1, 0), nil, nil), in(list(0), list(1), list(2))},
		{"down and up", lorry(), needed(5, 3, 4, 2), in(list(0, 2, 1, 3), nil), in(list(0, 1, 3), list(2))},
		{"room, and the way of a later one", lanes(3, 2), needed(5, 4, 5, 3, 5), in(list(0, 2, 1), list(4, 3)), in(list(0, 1, 3), list(2, 4))},
		{"MaxLanes lanes", lanes(1, 2, 3, 4, 5, 6), row(6, 5, 4, 3, 2, 1), in(list(5), list(4), list(3), list(2), list(1), list(0)), in(list(5), list(4), list(3), list(2), list(1), list(0))},
		{"MaxThings things", lanes(7, 7), equally(14), in(countTo(7), list(7, 8, 9, 10, 11, 12, 13)), in(countTo(7), list(7, 8, 9, 10, 11, 12, 13))},
	} {
		p, e := wagon.Pack(x.lorry, x.things)
		checkFound(t, "Pack: "+x.name, p, e, x.pack)
		p, e = wagon.Load(x.lorry, x.things)
		checkFound(t, "Load: "+x.name, p, e, x.loaded)
	}
}

func checkFound(t *testing.T, name string, p [][]int, e api.Errno, want [][]int) {
	t.Helper()
	found := api.OK
	if want == nil {
		found = api.ErrNone
	}
	if !samePacking(p, want) || e != found {
		t.Error(name, p, e)
	}
}

// P5.2: a thing as high as the lorry, and one higher; masses that it just carries, and one more.
func TestPackHighAndHeavy(t *testing.T) {
	for _, set := range []func(*wagon.Lorry, int){
		func(l *wagon.Lorry, less int) { l.Height = 30 - less },
		func(l *wagon.Lorry, less int) { l.Carries = 650 - less },
	} {
		fits, tooSmall := lorry(), lorry()
		set(&fits, 0)
		set(&tooSmall, 1)
		for _, call := range []func(wagon.Lorry, []wagon.Thing) ([][]int, api.Errno){wagon.Pack, wagon.Load} {
			p, e := call(fits, things())
			checkFound(t, "just", p, e, in(list(0, 1), list(2, 3)))
			p, e = call(tooSmall, things())
			checkFound(t, "too small", p, e, nil)
		}
	}
}

// P5.2, P5.7 and P5.8, by the definitions: all packings are tried, in their order.
func TestPackByDefinition(t *testing.T) {
	d := newDice(2)
	packed, loaded, none := 0, 0, 0
	for range 3000 {
		l := d.things(d.from(0, 6))
		by := d.lorryFor(l, d.from(1, 3))
		p, e := wagon.Pack(by, l)
		checkFound(t, "Pack", p, e, firstRight(by, l))
		if e == api.OK {
			packed++
			checkOff(t, l, p)
		} else {
			none++
		}
		p, e = wagon.Load(by, l)
		checkFound(t, "Load", p, e, firstLoadable(by, l))
		if e == api.OK {
			loaded++
			checkOff(t, l, p)
		}
	}
	if packed < 1000 || loaded < 500 || none < 500 {
		t.Error("too few of a kind:", packed, loaded, none)
	}
}

// checkOff takes the things off in the order of their Needs, each time from the door of a lane.
func checkOff(t *testing.T, things []wagon.Thing, packing [][]int) {
	t.Helper()
	left := slices.Clone(packing)
	need := func(lane []int) int { return things[lane[len(lane)-1]].Need }
	last := 0
	for range slices.Concat(packing...) {
		next := -1
		for i, lane := range left {
			if len(lane) > 0 && (next < 0 || need(lane) < need(left[next])) {
				next = i
			}
		}
		n := need(left[next])
		if n < last {
			t.Error("in the way:", things, packing)
			return
		}
		last = n
		left[next] = left[next][:len(left[next])-1]
	}
}

// firstByHand looks for the first lanes, thing by thing, without a memory of what failed.
func firstByHand(rooms []int, things []wagon.Thing, ordered bool, needs []int) []int {
	if len(things) == 0 {
		return []int{}
	}
	for lane, room := range rooms {
		if things[0].Long > room || ordered && things[0].Need > needs[lane] {
			continue
		}
		left, doors := slices.Clone(rooms), slices.Clone(needs)
		left[lane] -= things[0].Long
		doors[lane] = things[0].Need
		if l := firstByHand(left, things[1:], ordered, doors); l != nil {
			return append(list(lane), l...)
		}
	}
	return nil
}

func placesOf(p [][]int, things int) []int {
	l := make([]int, things)
	for lane, row := range p {
		for _, i := range row {
			l[i] = lane
		}
	}
	return l
}

// P5.2 and P5.8: many things that hardly fit, in many lanes.
func TestPackTight(t *testing.T) {
	d := newDice(3)
	found := map[bool]int{}
	for range 400 {
		l := d.things(d.from(8, 10))
		by := d.lorryFor(l, d.from(3, 4))
		by.Height, by.Carries = 20, 1000
		for _, ordered := range []bool{false, true} {
			call := wagon.Pack
			if ordered {
				call = wagon.Load
				for i := range l {
					l[i].Need = l[i].Need/2 + 3 - i/3
				}
			}
			want := firstByHand(by.Lanes, l, ordered, list(1000, 1000, 1000, 1000))
			p, e := call(by, l)
			switch {
			case want == nil:
				checkFound(t, "tight", p, e, nil)
			case e != api.OK || !isRight(by, l, p) || !slices.Equal(placesOf(p, len(l)), want):
				t.Error("tight:", ordered, by, l, p, e, want)
			default:
				found[ordered]++
			}
		}
	}
	if found[false] < 50 || found[true] < 50 {
		t.Error("hardly any fit:", found)
	}
}

// P5.2: MaxThings things and MaxLanes lanes, with and without a packing, in little time.
func TestPackMany(t *testing.T) {
	l := row(107, 107, 107, 108, 104, 107, 105, 108, 103, 108, 103, 103, 105, 105)
	if p, e := wagon.Pack(lanes(231, 256, 304, 302, 247, 326), l); e != api.ErrNone || len(p) != 0 {
		t.Error("lanes for thirteen:", p, e)
	}
	want := in(list(0, 1), list(2, 3), list(4, 5), list(6, 7), list(8, 9), list(10, 11, 12, 13))
	p, e := wagon.Pack(lanes(231, 256, 304, 302, 247, 426), l)
	if !samePacking(p, want) || e != api.OK {
		t.Error("lanes for fourteen:", p, e)
	}
	climbing := lanes(slices.Repeat(list(500), api.MaxLanes)...)
	for i := range l {
		l[i].Need = i % 7
	}
	if p, e := wagon.Load(climbing, l); e != api.ErrNone || len(p) != 0 {
		t.Error("seven that climb:", p, e)
	}
	l[6].Need, l[13].Need = 5, 5
	want = in(list(0, 7), list(1, 8), list(2, 9), list(3, 10), list(4, 11), list(5, 6, 12, 13))
	if p, e := wagon.Load(climbing, l); e != api.OK || !samePacking(p, want) {
		t.Error("six that climb:", p, e)
	}
}
