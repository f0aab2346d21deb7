package wagon_test

import (
	"math/big"
	"slices"
	"testing"

	"bigtop/api"
	"bigtop/wagon"
)

// P5.4: the chapter's example, moments with and without a rest, and axles at their limits.
func TestAxles(t *testing.T) {
	heavy := func(masses ...int) []wagon.Thing {
		var l []wagon.Thing
		for _, m := range masses {
			l = append(l, wagon.Thing{Long: 10, High: 1, Mass: m})
		}
		return l
	}
	with := func(empty, rear, axle int) wagon.Lorry {
		l := lanes(60, 50)
		l.Empty, l.Rear, l.Axle = empty, rear, axle
		return l
	}
	for _, x := range []struct {
		name        string
		lorry       wagon.Lorry
		things      []wagon.Thing
		packing     [][]int
		front, rear int
		holds       bool
	}{
		{"the chapter's example", lorry(), things(), in(list(0, 1), list(2, 3)), 750, 700, true},
		{"nothing, and an even Empty", with(800, 100, 400), nil, in(nil, nil), 400, 400, true},
		{"nothing, and an odd Empty", with(801, 100, 401), nil, in(nil, nil), 400, 401, true},
		{"nothing, and an odd Empty, too weak", with(801, 100, 400), nil, in(nil, nil), 400, 401, false},
		{"an Empty of 1", with(1, 100, 1), nil, in(nil, nil), 0, 1, true},
		{"an Empty of 0", with(0, 100, 0), nil, in(nil, nil), 0, 0, true},
		{"a moment that divides", with(0, 100, 100), heavy(100), in(list(0), nil), 90, 10, true},
		{"a moment with a rest", with(0, 100, 100), heavy(101), in(list(0), nil), 90, 11, true},
		{"a moment with the greatest rest", with(0, 999, 100), heavy(100), in(list(0), nil), 98, 2, true},
		{"half of the Empty by itself", with(1, 100, 100), heavy(101), in(list(0), nil), 90, 12, true},
		{"in the other lane", with(0, 100, 100), heavy(100), in(nil, list(0)), 90, 10, true},
		{"behind another one", with(0, 100, 100), heavy(0, 100), in(list(0, 1), nil), 70, 30, true},
		{"behind two others", with(0, 100, 100), heavy(0, 0, 100), in(list(1, 0, 2), nil), 50, 50, true},
		{"not behind one of another lane", with(0, 100, 100), heavy(0, 100), in(list(0), list(1)), 90, 10, true},
		{"the front axle at 0", with(0, 10, 100), heavy(100), in(list(0), nil), 0, 100, true},
		{"the front axle below 0", with(0, 9, 200), heavy(100), in(list(0), nil), -12, 112, false},
		{"all of a light thing behind", with(0, 100, 100000), []wagon.Thing{{Long: 60, High: 1}, {Long: 41, High: 1, Mass: 1}}, in(list(0), list(1)), 0, 1, true},
		{"the front axle just below 0", with(0, 40, 100000), []wagon.Thing{{Long: 41, High: 1, Mass: 1}}, in(list(0), nil), -1, 2, false},
		{"the front axle held up by the Empty", with(24, 9, 200), heavy(100), in(list(0), nil), 0, 124, true},
		{"the rear axle bears just Axle, the front axle more", with(800, 100, 410), heavy(100), in(list(0), nil), 490, 410, false},
		{"the front axle bears just Axle", with(800, 100, 490), heavy(100), in(list(0), nil), 490, 410, true},
		{"the front axle bears one more", with(800, 100, 489), heavy(100), in(list(0), nil), 490, 410, false},
		{"the rear axle, just", with(800, 11, 491), heavy(100), in(list(0), nil), 409, 491, true},
		{"the rear axle, one more", with(800, 11, 490), heavy(100), in(list(0), nil), 409, 491, false},
	} {
		front, rear, holds, e := wagon.Axles(x.lorry, x.things, x.packing)
		if front != x.front || rear != x.rear || holds != x.holds || e != api.OK {
			t.Error(x.name, front, rear, holds, e)
		}
	}
}

// P5.4 and rule R5: all at its greatest.
func TestAxlesAtTheirLimits(t *testing.T) {
	l := wagon.Lorry{Lanes: list(api.MaxRoom, api.MaxRoom), Height: api.MaxHigh, Carries: api.MaxHeavy, Empty: api.MaxHeavy, Rear: 1, Axle: api.MaxHeavy}
	whole := []wagon.Thing{{Long: 1999, High: 1}, {Long: 1, High: 1, Mass: api.MaxHeavy}}
	front, rear, holds, e := wagon.Axles(l, whole, in(nil, list(0, 1)))
	if front != -399750000 || rear != 399950000 || holds || e != api.OK {
		t.Error("a short lorry:", front, rear, holds, e)
	}
	l.Rear = api.MaxRear
	front, rear, holds, e = wagon.Axles(l, whole, in(nil, list(0, 1)))
	if front != 50025 || rear != 149975 || holds || e != api.OK {
		t.Error("a long lorry:", front, rear, holds, e)
	}
}

// rearByHand adds the fractions of all things, and rounds the sum up.
func rearByHand(l wagon.Lorry, things []wagon.Thing, packing [][]int) int {
	all := new(big.Rat)
	for _, lane := range packing {
		for at, i := range lane {
			middle := big.NewRat(int64(things[i].Long), 2)
			for _, a := range lane[:at] {
				middle.Add(middle, big.NewRat(int64(things[a].Long), 1))
			}
			part := big.NewRat(2*int64(things[i].Mass), int64(l.Rear))
			all.Add(all, part.Mul(part, middle))
		}
	}
	n := int(new(big.Int).Div(all.Num(), all.Denom()).Int64())
	if !all.IsInt() {
		n++
	}
	return n + l.Empty - l.Empty/2
}

// loadedLorry is a lorry that carries what a dice has packed into it.
func (d dice) loadedLorry() (wagon.Lorry, []wagon.Thing, [][]int) {
	for {
		l := d.things(d.from(0, 9))
		by := d.lorryFor(l, d.from(1, 4))
		if p, e := wagon.Pack(by, l); e == api.OK {
			return by, l, p
		}
	}
}

// P5.4 and P5.10, by the definitions; and a thing that becomes heavier.
func TestAxlesByDefinition(t *testing.T) {
	d := newDice(21)
	held := 0
	for range 1000 {
		by, l, p := d.loadedLorry()
		mass := by.Empty
		for _, x := range l {
			mass += x.Mass
		}
		want := rearByHand(by, l, p)
		front, rear, holds, e := wagon.Axles(by, l, p)
		if e != api.OK || rear != want || front+rear != mass || holds != (rear <= by.Axle && 0 <= front && front <= by.Axle) {
			t.Error("Axles:", by, l, p, front, rear, holds, e, want)
		}
		if holds {
			held++
		}
		if len(l) == 0 {
			continue
		}
		by.Carries += 50
		l[d.Intn(len(l))].Mass += d.from(0, 50)
		if _, more, _, e := wagon.Axles(by, l, p); e != api.OK || more < rear {
			t.Error("heavier, and lighter behind:", by, l, p, rear, more, e)
		}
	}
	if held < 100 {
		t.Error("hardly any hold:", held)
	}
}

func bridge(limit, clear int) wagon.Bridge { return wagon.Bridge{Limit: limit, Clear: clear} }

// P5.4: the chapter's example, no bridges, MaxBridges bridges, limits that are just kept, and an empty packing.
func TestStops(t *testing.T) {
	full := in(list(0, 1), list(2, 3))
	bare := lorry()
	bare.Empty, bare.Deck = 0, 0
	top := lorry()
	top.Height, top.Deck = api.MaxHigh, api.MaxDeck
	high := []wagon.Thing{{Long: 1, High: 7}, {Long: 1, High: api.MaxHigh}}
	for _, x := range []struct {
		name    string
		lorry   wagon.Lorry
		things  []wagon.Thing
		packing [][]int
		road    []wagon.Bridge
		want    []int
	}{
		{"the chapter's example", lorry(), things(), full, []wagon.Bridge{bridge(1500, 39), bridge(1400, 60), bridge(2000, 40)}, list(0, 1)},
		{"no bridges", lorry(), things(), full, nil, nil},
		{"just light enough", lorry(), things(), full, []wagon.Bridge{bridge(1450, 600)}, nil},
		{"too heavy", lorry(), things(), full, []wagon.Bridge{bridge(1449, 600)}, list(0)},
		{"just low enough", lorry(), things(), full, []wagon.Bridge{bridge(2000, 40)}, nil},
		{"too high", lorry(), things(), full, []wagon.Bridge{bridge(2000, 39)}, list(0)},
		{"too heavy and too high", lorry(), things(), full, []wagon.Bridge{bridge(0, 0), bridge(1449, 39)}, list(0, 1)},
		{"as high as can be", top, high, in(list(0, 1), nil), []wagon.Bridge{bridge(1000, 600), bridge(1000, 599)}, list(1)},
		{"the highest one stands in front", top, high, in(list(1, 0), nil), []wagon.Bridge{bridge(1000, 600), bridge(1000, 599)}, list(1)},
		{"empty", lorry(), nil, in(nil, nil), []wagon.Bridge{bridge(800, 10), bridge(799, 10), bridge(800, 9)}, list(1, 2)},
		{"empty, light and low", bare, nil, in(nil, nil), []wagon.Bridge{bridge(0, 0)}, nil},
		{"MaxBridges bridges", lorry(), things(), full, append(slices.Repeat([]wagon.Bridge{bridge(api.MaxTon, api.MaxClear)}, api.MaxBridges-1), bridge(1, 1)), list(29)},
		{"all of MaxBridges", lorry(), things(), full, make([]wagon.Bridge, api.MaxBridges), countTo(30)},
	} {
		if l, e := wagon.Stops(x.lorry, x.things, x.packing, x.road); !slices.Equal(l, x.want) || e != api.OK {
			t.Error(x.name, l, e)
		}
	}
}

// P5.4: each number of a bridge at its limits and beyond them.
func TestBridgeNumbers(t *testing.T) {
	road := func() []wagon.Bridge { return []wagon.Bridge{bridge(5, 5), bridge(5, 5)} }
	check := func(l []wagon.Bridge) api.Errno {
		_, e := wagon.Stops(lorry(), things(), in(list(0, 1), list(2, 3)), l)
		return e
	}
	checkNumbers(t, road, check, []number[[]wagon.Bridge]{
		{"limit", func(l *[]wagon.Bridge, n int) { (*l)[0].Limit = n }, 0, api.MaxTon},
		{"clear", func(l *[]wagon.Bridge, n int) { (*l)[0].Clear = n }, 0, api.MaxClear},
		{"limit of the last one", func(l *[]wagon.Bridge, n int) { (*l)[1].Limit = n }, 0, api.MaxTon},
		{"clear of the last one", func(l *[]wagon.Bridge, n int) { (*l)[1].Clear = n }, 0, api.MaxClear},
	})
}

// P5.4 and P5.11, by the definition of a bridge that stops; and one thing more, in any lane.
func TestStopsByDefinition(t *testing.T) {
	d := newDice(22)
	stopped := 0
	for range 1000 {
		by, l, p := d.loadedLorry()
		mass, high := by.Empty, by.Deck
		for _, x := range l {
			mass += x.Mass
			high = max(high, by.Deck+x.High)
		}
		var road []wagon.Bridge
		var want []int
		for i := range d.from(0, 9) {
			b := bridge(max(0, mass+d.from(-5, 20)), max(0, high+d.from(-3, 9)))
			road = append(road, b)
			if mass > b.Limit || high > b.Clear {
				want = append(want, i)
			}
		}
		got, e := wagon.Stops(by, l, p, road)
		if !slices.Equal(got, want) || e != api.OK {
			t.Error("Stops:", by, l, p, road, got, e, want)
		}
		stopped += len(want)
		more := append(slices.Clone(l), d.thing())
		for i := range by.Lanes {
			by.Lanes[i] += 12
		}
		by.Height, by.Carries = 25, 1000
		wider, e := wagon.Pack(by, more)
		if e != api.OK {
			t.Fatal("Pack of one more:", by, more, e)
		}
		still, _ := wagon.Stops(by, more, wider, road)
		for _, i := range got {
			if !slices.Contains(still, i) {
				t.Error("let through with one thing more:", by, more, road, got, still)
			}
		}
	}
	if stopped < 1000 {
		t.Error("hardly any stop:", stopped)
	}
}

func trip(t *testing.T, r wagon.Rules, hours int) int {
	t.Helper()
	n, e := wagon.Trip(r, hours)
	if e != api.OK {
		t.Fatal("Trip:", r, hours, e)
	}
	return n
}

func rules(drive, stint, pause, rest int) wagon.Rules {
	return wagon.Rules{Drive: drive, Stint: stint, Break: pause, Rest: rest}
}

// P5.6: the chapter's example, and trips that end at a break, at a shift's end, and one hour behind either.
func TestTrip(t *testing.T) {
	r := rules(9, 4, 1, 11)
	for hours, want := range map[int]int{
		0: 0, 1: 1, 3: 3, 4: 4, 5: 6, 8: 9, 9: 11, 10: 23, 13: 26, 14: 28, 18: 33, 19: 45,
		api.MaxJourney: 200 + 22*2 + 22*11,
	} {
		if n := trip(t, r, hours); n != want {
			t.Error("the chapter's rules:", hours, n)
		}
	}
	for _, x := range []struct {
		name        string
		rules       wagon.Rules
		hours, want int
	}{
		{"a shift that ends at a stint's end", rules(8, 4, 1, 11), 8, 9},
		{"an hour behind it", rules(8, 4, 1, 11), 9, 21},
		{"two such shifts", rules(8, 4, 1, 11), 16, 29},
		{"a stint as long as the shift", rules(9, 9, 8, 11), 9, 9},
		{"an hour behind a stint as long as the shift", rules(9, 9, 8, 11), 10, 21},
		{"stints of an hour", rules(3, 1, 2, 5), 3, 7},
		{"stints of an hour, and a shift more", rules(3, 1, 2, 5), 6, 19},
		{"shifts of an hour", rules(1, 1, 8, 24), 3, 51},
		{"breaks of no hours", rules(9, 4, 0, 11), 10, 21},
		{"rests of no hours", rules(9, 4, 1, 0), 10, 12},
		{"neither", rules(9, 4, 0, 0), 200, 200},
		{"a day's shift", rules(24, 24, 8, 24), 24, 24},
		{"behind a day's shift", rules(24, 24, 8, 24), 25, 49},
		{"the longest one", rules(1, 1, 8, 24), 200, 200 + 199*24},
	} {
		if n := trip(t, x.rules, x.hours); n != x.want {
			t.Error(x.name, n)
		}
	}
}

// P5.6: each number of the rules, and the hours, at their limits and beyond them.
func TestTripNumbers(t *testing.T) {
	check := func(r wagon.Rules) api.Errno { _, e := wagon.Trip(r, 10); return e }
	checkNumbers(t, func() wagon.Rules { return rules(9, 4, 1, 11) }, check, []number[wagon.Rules]{
		{"drive", func(r *wagon.Rules, n int) { r.Drive = n }, 4, api.MaxDrive},
		{"stint", func(r *wagon.Rules, n int) { r.Stint = n }, 1, 9},
		{"break", func(r *wagon.Rules, n int) { r.Break = n }, 0, api.MaxPause},
		{"rest", func(r *wagon.Rules, n int) { r.Rest = n }, 0, 24},
	})
	checkNumbers(t, func() wagon.Rules { return rules(1, 1, 0, 0) }, check, []number[wagon.Rules]{
		{"drive, with stints of an hour", func(r *wagon.Rules, n int) { r.Drive = n }, 1, api.MaxDrive},
		{"drive and stint", func(r *wagon.Rules, n int) { r.Drive, r.Stint = n, n }, 1, api.MaxDrive},
	})
	for n, want := range map[int]api.Errno{-1: api.ErrRange, 0: api.OK, 1: api.OK, api.MaxJourney: api.OK, api.MaxJourney + 1: api.ErrRange, lowest: api.ErrRange, highest: api.ErrRange} {
		if got, e := wagon.Trip(rules(9, 4, 1, 11), n); e != want || e != api.OK && got != 0 {
			t.Error("hours:", n, got, e)
		}
	}
}

// tripByHand drives hour by hour.
func tripByHand(r wagon.Rules, hours int) (took int) {
	shift, stint := 0, 0
	for range hours {
		switch {
		case shift == r.Drive:
			took += r.Rest
			shift, stint = 0, 0
		case stint == r.Stint:
			took += r.Break
			stint = 0
		}
		took++
		shift++
		stint++
	}
	return took
}

// P5.6 and P5.13: all short rules, hour by hour.
func TestTripByDefinition(t *testing.T) {
	for drive := 1; drive <= 9; drive++ {
		for stint := 1; stint <= drive; stint++ {
			for pause := range 4 {
				for rest := range 4 {
					checkTrips(t, rules(drive, stint, pause, rest))
				}
			}
		}
	}
}

func checkTrips(t *testing.T, r wagon.Rules) {
	t.Helper()
	before := -1
	for hours := range 40 {
		n := trip(t, r, hours)
		if want := tripByHand(r, hours); n != want {
			t.Error("Trip:", r, hours, n, want)
		}
		if n <= before || hours <= r.Stint && n != hours {
			t.Error("too short, or too long:", r, hours, before, n)
		}
		longer := rules(r.Drive, r.Stint, r.Break+1, r.Rest)
		rested := rules(r.Drive, r.Stint, r.Break, r.Rest+1)
		if trip(t, longer, hours) < n || trip(t, rested, hours) < n {
			t.Error("shorter with a longer break or rest:", r, hours)
		}
		before = n
	}
}
