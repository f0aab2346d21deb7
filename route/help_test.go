package route_test

import (
	"math/rand"
	"slices"
	"testing"

	"bigtop/api"
	"bigtop/route"
)

const (
	lowest  = -1 << 63
	highest = 1<<63 - 1
)

func to(lo, hi int) route.Range { return route.Range{Lo: lo, Hi: hi} }

func ranges(l ...route.Range) []route.Range { return l }

func stop(town, first, last int) route.Stop {
	return route.Stop{Town: town, First: first, Last: last}
}

func season(l ...route.Stop) []route.Stop { return l }

func fault(stop int, kind uint8) route.Fault { return route.Fault{Stop: stop, Kind: kind} }

// sameLegs has this leg between all towns.
func sameLegs(towns int, leg route.Leg) [][]route.Leg {
	var l [][]route.Leg
	for i := range towns {
		l = append(l, slices.Repeat([]route.Leg{leg}, towns))
		l[i][i] = route.Leg{}
	}
	return l
}

// tour is that of the chapter's examples.
func tour() route.Tour {
	return route.Tour{
		Days: 10, Shift: 8, Size: 50,
		Towns: []route.Town{
			{},
			{Open: ranges(to(0, 4)), Stay: to(1, 3), Pay: 100, Lot: 60, Rent: 10},
			{Open: ranges(to(2, 9)), Stay: to(2, 2), Pay: 150, Lot: 50, Rent: 20, Rivals: ranges(to(3, 3)), Cold: 1, Cut: 400},
			{Open: ranges(to(0, 9)), Stay: to(1, 10), Pay: 900, Lot: 40},
		},
		Legs: sameLegs(4, route.Leg{Hours: 9, Cost: 30}),
	}
}

// plain has so many towns that are always open and as good as each other, with legs that take nothing.
func plain(days, towns int) route.Tour {
	t := route.Tour{Days: days, Shift: 8, Towns: []route.Town{{}}, Legs: sameLegs(towns, route.Leg{})}
	for range towns - 1 {
		t.Towns = append(t.Towns, route.Town{Open: ranges(to(0, days-1)), Stay: to(1, 2), Pay: 10})
	}
	return t
}

// largest has as many days, towns and stops as there may be; the towns differ.
func largest() route.Tour {
	t := plain(api.MaxDays, api.MaxTowns)
	for i := range t.Towns[1:] {
		t.Towns[i+1].Stay = to(1, api.MaxStay)
		t.Towns[i+1].Pay = 1000 + 37*i
		t.Towns[i+1].Rivals = ranges(to(5*i, 5*i+3))
		t.Towns[i+1].Cut = 700
	}
	return t
}

func copyTour(t route.Tour) route.Tour {
	t.Towns = slices.Clone(t.Towns)
	for i, town := range t.Towns {
		t.Towns[i].Open, t.Towns[i].Rivals = slices.Clone(town.Open), slices.Clone(town.Rivals)
	}
	return withLegs(t, copyLegs(t.Legs))
}

func copyLegs(l [][]route.Leg) [][]route.Leg {
	l = slices.Clone(l)
	for i := range l {
		l[i] = slices.Clone(l[i])
	}
	return l
}

func withLegs(t route.Tour, l [][]route.Leg) route.Tour {
	t.Legs = l
	return t
}

func sameTour(a, b route.Tour) bool {
	sameTown := func(a, b route.Town) bool {
		return slices.Equal(a.Open, b.Open) && slices.Equal(a.Rivals, b.Rivals) && a.Stay == b.Stay && a.Pay == b.Pay && a.Lot == b.Lot && a.Rent == b.Rent && a.Cold == b.Cold && a.Cut == b.Cut
	}
	return a.Days == b.Days && a.Shift == b.Shift && a.Size == b.Size && slices.EqualFunc(a.Towns, b.Towns, sameTown) &&
		slices.EqualFunc(a.Legs, b.Legs, slices.Equal)
}

func sameTable(a, b [][]int) bool { return slices.EqualFunc(a, b, slices.Equal) }

func copyTable(l [][]int) [][]int {
	l = slices.Clone(l)
	for i := range l {
		l[i] = slices.Clone(l[i])
	}
	return l
}

// lostBy drives night by night: the first one loses no day.
func lostBy(t route.Tour, from, to int) int {
	nights := 0
	for hours := t.Legs[from][to].Hours; hours > 0; hours -= t.Shift {
		nights++
	}
	return max(nights-1, 0)
}

func dayBy(t route.Tour, town, day int) int {
	x := t.Towns[town]
	for _, r := range x.Rivals {
		for cold := r.Lo; cold <= r.Hi+x.Cold; cold++ {
			if cold == day {
				return x.Pay * (1000 - x.Cut) / 1000
			}
		}
	}
	return x.Pay
}

// ownFault is the first of the faults 1 to 4, told by the words of the chapter.
func ownFault(t route.Tour, s route.Stop) uint8 {
	if s.Town < 1 || s.Town >= len(t.Towns) {
		return route.Unknown
	}
	x := t.Towns[s.Town]
	if x.Lot < t.Size {
		return route.Small
	}
	if n := s.Last - s.First + 1; n < x.Stay.Lo || n > x.Stay.Hi {
		return route.Length
	}
	for _, r := range x.Open {
		if r.Lo <= s.First && s.Last <= r.Hi {
			return 0
		}
	}
	return route.Licence
}

// faultBy is the fault of the stop i, told by the words of the chapter; 0 is none.
func faultBy(t route.Tour, l []route.Stop, i int) uint8 {
	s := l[i]
	if kind := ownFault(t, s); kind != 0 {
		return kind
	}
	for _, earlier := range l[:i] {
		if earlier.Town == s.Town {
			return route.Twice
		}
	}
	if isEarly(t, l, i) {
		return route.Early
	}
	if i == len(l)-1 && s.Last+lostBy(t, s.Town, 0) > t.Days-1 {
		return route.Home
	}
	return 0
}

func isEarly(t route.Tour, l []route.Stop, i int) bool {
	s := l[i]
	if i == 0 {
		return s.First < lostBy(t, 0, s.Town)
	}
	before := l[i-1]
	if before.Town < 1 || before.Town >= len(t.Towns) {
		return false
	}
	return s.First < before.Last+1+lostBy(t, before.Town, s.Town)
}

func faultsBy(t route.Tour, l []route.Stop) (out []route.Fault) {
	for i := range l {
		if kind := faultBy(t, l, i); kind != 0 {
			out = append(out, fault(i, kind))
		}
	}
	return out
}

// gainBy is what a stop brings, less its rent.
func gainBy(t route.Tour, s route.Stop) (n int) {
	for day := s.First; day <= s.Last; day++ {
		n += dayBy(t, s.Town, day) - t.Towns[s.Town].Rent
	}
	return n
}

func profitBy(t route.Tour, l []route.Stop) (n int) {
	if len(l) == 0 {
		return 0
	}
	for i, s := range l {
		n += gainBy(t, s)
		if i > 0 {
			n -= t.Legs[l[i-1].Town][s.Town].Cost
		}
	}
	return n - t.Legs[0][l[0].Town].Cost - t.Legs[l[len(l)-1].Town][0].Cost
}

// ownStops are all stops that have none of the faults 1 to 4, in their order.
func ownStops(t route.Tour) (l []route.Stop) {
	for town := range t.Towns {
		for first := range t.Days {
			for last := range t.Days {
				if s := stop(town, first, last); ownFault(t, s) == 0 {
					l = append(l, s)
				}
			}
		}
	}
	return l
}

// rightSeasons calls use with all right seasons.
func rightSeasons(t route.Tour, use func([]route.Stop)) {
	stops := ownStops(t)
	var grow func([]route.Stop)
	grow = func(l []route.Stop) {
		if len(faultsBy(t, l)) == 0 {
			use(l)
		}
		for _, s := range stops {
			next := append(slices.Clone(l), s)
			if kind := faultBy(t, next, len(l)); kind == 0 || kind == route.Home {
				grow(next)
			}
		}
	}
	grow(nil)
}

func bestBy(t route.Tour) (most int) {
	rightSeasons(t, func(l []route.Stop) { most = max(most, profitBy(t, l)) })
	return most
}

// boundBy tries all loose seasons.
func boundBy(t route.Tour, fees []int) int {
	stops, most, all := ownStops(t), 0, 0
	for _, fee := range fees {
		all += fee
	}
	var grow func(l []route.Stop, fees int)
	grow = func(l []route.Stop, paid int) {
		if n := len(l); n == 0 || l[n-1].Last+lostBy(t, l[n-1].Town, 0) <= t.Days-1 {
			most = max(most, profitBy(t, l)-paid)
		}
		for _, s := range stops {
			next := append(slices.Clone(l), s)
			if (len(l) == 0 || l[len(l)-1].Town != s.Town) && !isEarly(t, next, len(l)) {
				grow(next, paid+fees[s.Town])
			}
		}
	}
	grow(nil, 0)
	return all + most
}

// limitBy is the greatest number that something asks of the number of the town for this day.
func limitBy(t route.Tour, fees []int, table [][]int, stops []route.Stop, town, day int) int {
	most := -api.MaxGold
	if town == 0 {
		most = max(most, 0)
	} else if lostBy(t, town, 0)+day-1 <= t.Days-1 {
		most = max(most, -t.Legs[town][0].Cost)
	}
	for _, s := range stops {
		if s.Town != town && s.First >= day+lostBy(t, town, s.Town) {
			most = max(most, gainBy(t, s)-t.Legs[town][s.Town].Cost-fees[s.Town]+table[s.Town][s.Last+1])
		}
	}
	return most
}

// asked are the numbers of a table that are limited, by town and day.
func asked(t route.Tour) (l [][2]int) {
	l = append(l, [2]int{0, 0})
	for town := 1; town < len(t.Towns); town++ {
		for day := 1; day <= t.Days; day++ {
			l = append(l, [2]int{town, day})
		}
	}
	return l
}

// tableBy raises numbers from the least ones on until nothing asks for more.
func tableBy(t route.Tour, fees []int) [][]int {
	var table [][]int
	for range t.Towns {
		table = append(table, slices.Repeat([]int{-api.MaxGold}, t.Days+1))
	}
	stops := ownStops(t)
	for raised := true; raised; {
		raised = false
		for _, x := range asked(t) {
			if n := limitBy(t, fees, table, stops, x[0], x[1]); n > table[x[0]][x[1]] {
				table[x[0]][x[1]], raised = n, true
			}
		}
	}
	return table
}

// showsBy reports whether the table shows the bound; table and fees have to be as described.
func showsBy(t route.Tour, fees []int, bound int, table [][]int) bool {
	stops := ownStops(t)
	for _, x := range asked(t) {
		if table[x[0]][x[1]] < limitBy(t, fees, table, stops, x[0], x[1]) {
			return false
		}
	}
	for _, fee := range fees {
		bound -= fee
	}
	return bound == table[0][0]
}

// replaceBy tries no stop and all stops in the place of the stop k; found is false if none of them makes a right season.
func replaceBy(t route.Tour, l []route.Stop, k int) (best []route.Stop, found bool) {
	others := [][]route.Stop{slices.Delete(slices.Clone(l), k, k+1)}
	for _, s := range ownStops(t) {
		if s.Town != l[k].Town {
			other := slices.Clone(l)
			other[k] = s
			others = append(others, other)
		}
	}
	for _, other := range others {
		if len(faultsBy(t, other)) == 0 && (!found || profitBy(t, other) > profitBy(t, best)) {
			best, found = other, true
		}
	}
	return best, found
}

// A dice makes things that are valid, from a seed.
type dice struct{ *rand.Rand }

func newDice(seed int64) dice { return dice{rand.New(rand.NewSource(seed))} }

func (d dice) from(lo, hi int) int { return lo + d.Intn(hi-lo+1) }

// one is a range of numbers from lo to hi.
func (d dice) one(lo, hi int) route.Range {
	a, b := d.from(lo, hi), d.from(lo, hi)
	return to(min(a, b), max(a, b))
}

func (d dice) open(days int) (l []route.Range) {
	next := 0
	for range d.from(1, api.MaxOpen) {
		if next < days {
			r := d.one(next, days-1)
			l, next = append(l, r), r.Hi+1
		}
	}
	return l
}

func (d dice) town(days int) route.Town {
	town := route.Town{Open: d.open(days), Stay: d.one(1, 4), Pay: d.from(0, 99), Lot: d.from(4, 20), Rent: d.from(0, 40), Cold: d.from(0, 3), Cut: d.from(0, 1000)}
	for range d.from(0, api.MaxRivals) {
		town.Rivals = append(town.Rivals, d.one(-3, min(days+1, api.MaxDays)))
	}
	return town
}

func (d dice) tour(days, towns int) route.Tour {
	t := route.Tour{Days: days, Shift: d.from(4, 10), Size: 5, Towns: []route.Town{{}}, Legs: sameLegs(towns, route.Leg{})}
	for range towns - 1 {
		t.Towns = append(t.Towns, d.town(days))
	}
	far, dear := d.from(1, 22), d.from(1, 40)
	for i, row := range t.Legs {
		for k := range row {
			if i != k {
				row[k] = route.Leg{Hours: d.from(0, far), Cost: d.from(0, dear)}
			}
		}
	}
	return t
}

// stop is sometimes one without a fault of its own.
func (d dice) stop(t route.Tour) route.Stop {
	if l := ownStops(t); len(l) > 0 && d.Intn(5) > 0 {
		return l[d.Intn(len(l))]
	}
	first := d.from(-2, t.Days)
	return stop(d.from(-1, len(t.Towns)), first, first+d.from(-1, 3))
}

func (d dice) fees(t route.Tour, most int) []int {
	fees := []int{0}
	for range t.Towns[1:] {
		fees = append(fees, d.from(0, most))
	}
	return fees
}

// number is one that may be from lo to hi.
type number[T any] struct {
	name   string
	set    func(*T, int)
	lo, hi int
}

// checkNumbers sets each number to its limits, to 0 and 1, and beyond its limits.
func checkNumbers[T any](t *testing.T, good func() T, check func(T) api.Errno, l []number[T]) {
	t.Helper()
	for _, x := range l {
		for _, n := range []int{x.lo, x.hi, 0, 1, x.lo - 1, x.hi + 1, lowest, highest} {
			want := api.ErrArg
			if x.lo <= n && n <= x.hi {
				want = api.OK
			}
			v := good()
			x.set(&v, n)
			if e := check(v); e != want {
				t.Error(x.name, n, e)
			}
		}
	}
}
