package gale_test

import (
	"slices"
	"strings"
	"testing"

	"bigtop/api"
	"bigtop/gale"
)

// P2.1
func TestCheckForecasts(t *testing.T) {
	many := func(n int) (l []gale.Forecast) {
		for i := range n {
			l = append(l, forecast(string(rune('a'+i)), to(1, 2)))
		}
		return l
	}
	long := func(name string, hours int) gale.Forecast {
		return forecast(name, slices.Repeat([]gale.Range{to(3, 4)}, hours)...)
	}
	for _, x := range []struct {
		name string
		l    []gale.Forecast
		want api.Errno
	}{
		{"the chapter's", told(), api.OK},
		{"no forecasts", nil, api.ErrLimit},
		{"a list without forecasts", []gale.Forecast{}, api.ErrLimit},
		{"as many as there may be", many(api.MaxForecasts), api.OK},
		{"one more", many(api.MaxForecasts + 1), api.ErrLimit},
		{"as many hours as there may be", []gale.Forecast{long("a", api.MaxAhead), long("b", api.MaxAhead)}, api.OK},
		{"one hour more", []gale.Forecast{long("a", api.MaxAhead+1)}, api.ErrLimit},
		{"one hour more in a later one", []gale.Forecast{long("a", 1), long("b", api.MaxAhead+1)}, api.ErrLimit},
		{"no hours", []gale.Forecast{forecast("a")}, api.ErrArg},
		{"none have hours", []gale.Forecast{forecast("a"), forecast("b")}, api.ErrArg},
		{"a later one has no hours", []gale.Forecast{long("a", 1), forecast("b")}, api.ErrArg},
		{"fewer hours", []gale.Forecast{long("a", 3), long("b", 2)}, api.ErrArg},
		{"more hours", []gale.Forecast{long("a", 3), long("b", 3), long("c", 4)}, api.ErrArg},
		{"a range of one strength", []gale.Forecast{forecast("a", to(5, 5))}, api.OK},
		{"a range that is none", []gale.Forecast{forecast("a", to(1, 2), to(6, 5))}, api.ErrArg},
		{"a range that is none, later", []gale.Forecast{long("a", 1), forecast("b", to(6, 5))}, api.ErrArg},
		{"from 0 to the strongest", []gale.Forecast{forecast("a", to(0, 0), to(api.MaxStrength, api.MaxStrength), to(0, api.MaxStrength))}, api.OK},
		{"below 0", []gale.Forecast{forecast("a", to(-1, 0))}, api.ErrArg},
		{"above the strongest", []gale.Forecast{forecast("a", to(api.MaxStrength, api.MaxStrength+1))}, api.ErrArg},
		{"the greatest numbers", []gale.Forecast{forecast("a", to(lowest, highest))}, api.ErrArg},
		{"a name twice", []gale.Forecast{forecast("a", to(1, 2)), forecast("b", to(1, 2)), forecast("a", to(3, 4))}, api.ErrTwice},
		{"names that begin alike", []gale.Forecast{forecast("a", to(1, 2)), forecast("a1", to(1, 2)), forecast("a11", to(1, 2))}, api.OK},
	} {
		if e := gale.CheckForecasts(x.l); e != x.want {
			t.Error(x.name, e)
		}
	}
}

// P2.1, rule R10
func TestNames(t *testing.T) {
	for name, want := range map[string]api.Errno{
		"":  api.ErrName,
		"a": api.OK, "z": api.OK, "m0": api.OK, "a9z": api.OK,
		strings.Repeat("q", api.MaxName): api.OK, strings.Repeat("q", api.MaxName+1): api.ErrName,
		"0": api.ErrName, "9a": api.ErrName, "A": api.ErrName, "aB": api.ErrName, "a b": api.ErrName, "a_": api.ErrName,
		"`": api.ErrName, "{": api.ErrName, "a`": api.ErrName, "a{": api.ErrName, "a/": api.ErrName, "a:": api.ErrName,
		"é": api.ErrName, "aé": api.ErrName, "a\x00": api.ErrName, "a\xff": api.ErrName, " a": api.ErrName, "a\n": api.ErrName,
	} {
		if e := gale.CheckForecasts([]gale.Forecast{forecast("other", to(1, 2)), forecast(name, to(1, 2))}); e != want {
			t.Errorf("%q: %v", name, e)
		}
	}
}

// P2.1
func TestStrikesAndWorst(t *testing.T) {
	three := append(told(), forecast("squall", to(0, 100), to(45, 45)))
	for _, x := range []struct {
		name     string
		l        []gale.Forecast
		readings []gale.Reading
		left     []int
		strikes  []gale.Strike
		worst    []int
	}{
		{"the chapter's", told(), []gale.Reading{reading(0, 20, 24)}, []int{0}, []gale.Strike{{Forecast: 1}}, []int{30, 40}},
		{"no readings", told(), nil, []int{0, 1}, nil, []int{60, 90}},
		{"a list without readings", told(), []gale.Reading{}, []int{0, 1}, nil, []int{60, 90}},
		{"it touches from below", told(), []gale.Reading{reading(0, 20, 25)}, []int{0, 1}, nil, []int{60, 90}},
		{"it touches from above", told(), []gale.Reading{reading(0, 30, 70)}, []int{0, 1}, nil, []int{60, 90}},
		{"just above", told(), []gale.Reading{reading(0, 31, 70)}, []int{1}, []gale.Strike{{Forecast: 0}}, []int{60, 90}},
		{"inside", told(), []gale.Reading{reading(1, 30, 30)}, []int{0}, []gale.Strike{{Forecast: 1}}, []int{30, 40}},
		{"around", told(), []gale.Reading{reading(1, 0, api.MaxStrength)}, []int{0, 1}, nil, []int{60, 90}},
		{"of another hour", told(), []gale.Reading{reading(1, 85, 90)}, []int{1}, []gale.Strike{{Forecast: 0}}, []int{60, 90}},
		{"all are struck", told(), []gale.Reading{reading(0, 30, 30), reading(1, 45, 49)}, nil, []gale.Strike{{Forecast: 0, Reading: 1}, {Forecast: 1, Reading: 1}}, nil},
		{"the first reading of several", told(), []gale.Reading{reading(0, 28, 28), reading(1, 41, 55), reading(1, 60, 60), reading(0, 40, 40)}, []int{1}, []gale.Strike{{Forecast: 0, Reading: 1}}, []int{60, 90}},
		{"each by its own", three, []gale.Reading{reading(0, 0, 24), reading(0, 0, 9), reading(1, 44, 44)}, nil, []gale.Strike{{Forecast: 0, Reading: 1}, {Forecast: 1, Reading: 0}, {Forecast: 2, Reading: 2}}, nil},
		{"the second one is struck", three, []gale.Reading{reading(0, 7, 24)}, []int{0, 2}, []gale.Strike{{Forecast: 1}}, []int{100, 45}},
		{"the first and the last one are struck", three, []gale.Reading{reading(1, 50, 60)}, []int{1}, []gale.Strike{{Forecast: 0}, {Forecast: 2}}, []int{60, 90}},
		{"no wind at all", []gale.Forecast{forecast("a", to(0, 0))}, []gale.Reading{reading(0, 0, 0)}, []int{0}, nil, []int{0}},
	} {
		left, strikes, e := gale.Strikes(x.l, x.readings)
		if e != api.OK || !slices.Equal(left, x.left) || !slices.Equal(strikes, x.strikes) {
			t.Error(x.name, left, strikes, e)
		}
		want := api.OK
		if x.left == nil {
			want = api.ErrNone
		}
		if winds, e := gale.Worst(x.l, x.readings); e != want || !slices.Equal(winds, x.worst) {
			t.Error(x.name, winds, e)
		}
	}
}

// P2.1: readings at their limits, and one beyond.
func TestReadings(t *testing.T) {
	same := func(n int) []gale.Reading { return slices.Repeat([]gale.Reading{reading(0, 0, api.MaxStrength)}, n) }
	for _, x := range []struct {
		name     string
		readings []gale.Reading
		want     api.Errno
	}{
		{"as many as there may be", same(api.MaxReadings), api.OK},
		{"one more", same(api.MaxReadings + 1), api.ErrLimit},
		{"the last hour", []gale.Reading{reading(1, 0, api.MaxStrength)}, api.OK},
		{"an hour too late", []gale.Reading{reading(2, 0, 1)}, api.ErrRange},
		{"an hour too early", []gale.Reading{reading(-1, 0, 1)}, api.ErrRange},
		{"an hour that is far away", []gale.Reading{reading(highest, 0, 1), reading(lowest, 0, 1)}, api.ErrRange},
		{"a range that is none", []gale.Reading{reading(0, 5, 4)}, api.ErrArg},
		{"below 0", []gale.Reading{reading(0, -1, 5)}, api.ErrArg},
		{"above the strongest", []gale.Reading{reading(0, 5, api.MaxStrength+1)}, api.ErrArg},
		{"a bad range before a bad hour", []gale.Reading{reading(0, 5, 4), reading(2, 0, 1)}, api.ErrRange},
		{"a bad range among too many", append(same(api.MaxReadings), reading(9, 5, 4)), api.ErrLimit},
	} {
		if _, _, e := gale.Strikes(told(), x.readings); e != x.want {
			t.Error("Strikes:", x.name, e)
		}
		if _, e := gale.Worst(told(), x.readings); e != x.want {
			t.Error("Worst:", x.name, e)
		}
	}
}

// meets asks each strength by itself.
func meets(a, b gale.Range) bool {
	for n := a.Lo; n <= a.Hi; n++ {
		if b.Lo <= n && n <= b.Hi {
			return true
		}
	}
	return false
}

// P2.1, by its definitions.
func TestStrikesByDefinition(t *testing.T) {
	d := newDice(1)
	for range 3000 {
		l := d.forecasts(12)
		var readings []gale.Reading
		for range d.from(0, 4) {
			readings = append(readings, gale.Reading{Hour: d.Intn(len(l[0].Hours)), In: d.within(0, 12)})
		}
		var left []int
		var strikes []gale.Strike
		winds := make([]int, len(l[0].Hours))
	forecasts:
		for i, f := range l {
			for k, r := range readings {
				if !meets(f.Hours[r.Hour], r.In) {
					strikes = append(strikes, gale.Strike{Forecast: i, Reading: k})
					continue forecasts
				}
			}
			left = append(left, i)
			for hour, r := range f.Hours {
				winds[hour] = max(winds[hour], r.Hi)
			}
		}
		gotLeft, gotStrikes, e := gale.Strikes(l, readings)
		if e != api.OK || !slices.Equal(gotLeft, left) || !slices.Equal(gotStrikes, strikes) {
			t.Error(l, readings, gotLeft, gotStrikes, e)
		}
		got, e := gale.Worst(l, readings)
		if left == nil && (e != api.ErrNone || got != nil) || left != nil && (e != api.OK || !slices.Equal(got, winds)) {
			t.Error(l, readings, got, e)
		}
	}
}

// P2.6
func TestNeverStruck(t *testing.T) {
	d, struck := newDice(2), 0
	for range 1000 {
		l := d.forecasts(api.MaxStrength)
		truth := d.Intn(len(l))
		var winds []int
		for _, r := range l[truth].Hours {
			winds = append(winds, d.from(r.Lo, r.Hi))
		}
		var readings []gale.Reading
		before, _ := gale.Worst(l, nil)
		for range 6 {
			hour := d.Intn(len(winds))
			readings = append(readings, reading(hour, d.from(0, winds[hour]), d.from(winds[hour], api.MaxStrength)))
			left, strikes, e := gale.Strikes(l, readings)
			if e != api.OK || !slices.Contains(left, truth) {
				t.Fatal("the truth was struck:", l, truth, readings, left, e)
			}
			struck += len(strikes)
			now, e := gale.Worst(l, readings)
			if e != api.OK {
				t.Fatal(l, readings, e)
			}
			for i, n := range now {
				if winds[i] > n || n > before[i] {
					t.Error("hour", i, "of", l, readings, now, before, winds)
				}
			}
			before = now
		}
	}
	if struck < 1000 {
		t.Error("only", struck, "strikes")
	}
}
