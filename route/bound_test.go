package route_test

import (
	"slices"
	"testing"

	"bigtop/api"
	"bigtop/route"
)

func noFees(x route.Tour) []int { return make([]int, len(x.Towns)) }

// P6.4: the chapter's example, and its least table, word by word.
func TestBoundExample(t *testing.T) {
	bound, table, e := route.Bound(tour(), noFees(tour()))
	if bound != 440 || e != api.OK || !sameTable(table, tableBy(tour(), noFees(tour()))) {
		t.Error(bound, table, e)
	}
	if !route.ProveBound(tour(), noFees(tour()), 440, table) {
		t.Error("its proof")
	}
}

// P6.4: seasons that come back to a town, and what fees do to them.
func TestLooseSeasons(t *testing.T) {
	x := plain(8, 3)
	x.Towns[1].Pay, x.Towns[2].Stay = 100, to(1, 1)
	// 1 on six days, in three stops, and 2 on two days between them.
	for _, c := range []struct{ one, two, want int }{
		{0, 0, 620},
		{10, 0, 600},
		{0, 7, 613},
		{220, 0, 230},
		{100, 10, 410},
		{api.MaxFee, 0, api.MaxFee + 10},
		{api.MaxFee, api.MaxFee, 2 * api.MaxFee},
	} {
		fees := []int{0, c.one, c.two}
		bound, table, e := route.Bound(x, fees)
		if bound != c.want || bound != boundBy(x, fees) || e != api.OK {
			t.Error(c, bound, boundBy(x, fees), e)
		}
		if !route.ProveBound(x, fees, bound, table) {
			t.Error("its proof:", c)
		}
	}
	// Only towns that follow each other have to differ: one town alone is not played twice.
	alone := plain(8, 2)
	if bound, _, e := route.Bound(alone, []int{0, 0}); bound != 20 || e != api.OK {
		t.Error("one town:", bound, e)
	}
	// More stops than a season may have.
	long := plain(api.MaxDays, 3)
	long.Towns[1].Stay, long.Towns[2].Stay = to(1, 1), to(1, 1)
	if bound, _, e := route.Bound(long, noFees(long)); bound != 600 || e != api.OK {
		t.Error("many stops:", bound, e)
	}
}

// P6.4: a table where little limits its numbers.
func TestLittleLimits(t *testing.T) {
	x := tour()
	x.Size = api.MaxLot
	bound, table, e := route.Bound(x, noFees(x))
	if bound != 0 || e != api.OK || len(table) != 4 || table[0][0] != 0 {
		t.Fatal(bound, table, e)
	}
	for town, row := range table {
		for day, n := range row {
			want := -api.MaxGold
			if town == 0 && day == 0 {
				want = 0
			}
			if town > 0 && 1 <= day && day <= 9 {
				want = -30
			}
			if n != want {
				t.Error(town, day, n)
			}
		}
	}
	// From 2 there is no way home, but what a stop there gains counts on from the least number there is.
	x = plain(4, 3)
	x.Legs[2][0].Hours, x.Legs[2][1].Hours = 200, 200
	_, table, _ = route.Bound(x, noFees(x))
	if want := -api.MaxGold; table[2][1] != want || table[2][4] != want {
		t.Error("no way home:", table)
	}
	x.Legs[1][0].Hours = 200
	_, table, _ = route.Bound(x, noFees(x))
	if want := 20 - api.MaxGold; table[1][1] != want || table[1][2] != want || table[1][3] != want-10 || table[1][4] != -api.MaxGold || table[0][0] != 0 {
		t.Error("no way home at all:", table)
	}
	if !sameTable(table, tableBy(x, noFees(x))) || !route.ProveBound(x, noFees(x), 0, table) {
		t.Error("their table:", table)
	}
}

// P6.4 and P6.9: the bound by all loose seasons, the least table by its words, and its proof.
func TestBoundOfAll(t *testing.T) {
	d := newDice(68)
	for range 400 {
		x := d.tour(d.from(1, 7), d.from(2, 4))
		for _, most := range []int{0, 40, 300} {
			fees := d.fees(x, most)
			bound, table, e := route.Bound(x, fees)
			if bound != boundBy(x, fees) || e != api.OK {
				t.Error("bound:", x, fees, bound, boundBy(x, fees), e)
			}
			if want := tableBy(x, fees); !sameTable(table, want) {
				t.Error("table:", x, fees, table, want)
			}
			if !route.ProveBound(x, fees, bound, table) {
				t.Error("proof:", x, fees, bound, table)
			}
		}
	}
}

// P6.4 and P6.9: longer tours with more towns.
func TestLargeTables(t *testing.T) {
	d := newDice(69)
	for i := range 12 {
		x := d.tour(d.from(15, 20), d.from(4, 6))
		if i == 0 {
			x = d.tour(api.MaxDays, 3)
		}
		fees := d.fees(x, 60)
		bound, table, e := route.Bound(x, fees)
		if want := tableBy(x, fees); !sameTable(table, want) || e != api.OK {
			t.Error(x, fees, table, want, e)
		}
		if !route.ProveBound(x, fees, bound, table) || route.ProveBound(x, fees, bound-1, table) {
			t.Error("proof:", x, fees, bound)
		}
	}
	x := largest()
	bound, table, e := route.Bound(x, slices.Concat([]int{0}, slices.Repeat([]int{api.MaxFee}, api.MaxTowns-1)))
	if bound != 8*api.MaxFee || e != api.OK || table[0][0] != 0 {
		t.Error("the greatest fees:", bound, e)
	}
}

// P6.5: what is accepted and what is not; numbers that nothing asks for may be any of a table.
func TestProveBound(t *testing.T) {
	x, fees := tour(), []int{0, 5, 6, 7}
	bound, table, _ := route.Bound(x, fees)
	for _, c := range []struct {
		name string
		want bool
		set  func(fees []int, bound *int, table *[][]int)
	}{
		{"as returned", true, func([]int, *int, *[][]int) {}},
		{"a bound one too little", false, func(_ []int, bound *int, _ *[][]int) { *bound-- }},
		{"a bound one too great", false, func(_ []int, bound *int, _ *[][]int) { *bound++ }},
		{"a very great bound", false, func(_ []int, bound *int, _ *[][]int) { *bound = highest }},
		{"a very low bound", false, func(_ []int, bound *int, _ *[][]int) { *bound = lowest }},
		{"more at the beginning", true, func(_ []int, bound *int, table *[][]int) { *bound += 3; (*table)[0][0] += 3 }},
		{"less at the beginning", false, func(_ []int, bound *int, table *[][]int) { *bound--; (*table)[0][0]-- }},
		{"MaxGold at the beginning", true, func(_ []int, bound *int, table *[][]int) {
			*bound, (*table)[0][0] = api.MaxGold+18, api.MaxGold
		}},
		{"more than that", false, func(_ []int, bound *int, table *[][]int) {
			*bound, (*table)[0][0] = api.MaxGold+19, api.MaxGold+1
		}},
		{"MaxGold for a day that is not asked", true, func(_ []int, _ *int, table *[][]int) { (*table)[0][1], (*table)[1][0] = api.MaxGold, api.MaxGold }},
		{"more for a day that is not asked", false, func(_ []int, _ *int, table *[][]int) { (*table)[0][10] = api.MaxGold + 1 }},
		{"less for a day that is not asked", false, func(_ []int, _ *int, table *[][]int) { (*table)[2][0] = -api.MaxGold - 1 }},
		{"a very great number", false, func(_ []int, _ *int, table *[][]int) { (*table)[2][0] = highest }},
		{"a very low number", false, func(_ []int, _ *int, table *[][]int) { (*table)[3][0] = lowest }},
		{"MaxGold behind the last day", true, func(_ []int, _ *int, table *[][]int) { (*table)[1][10] = api.MaxGold }},
		{"no table", false, func(_ []int, _ *int, table *[][]int) { *table = nil }},
		{"a row too few", false, func(_ []int, _ *int, table *[][]int) { *table = (*table)[:3] }},
		{"a row too many", false, func(_ []int, _ *int, table *[][]int) { *table = append(*table, (*table)[1]) }},
		{"a number too few", false, func(_ []int, _ *int, table *[][]int) { (*table)[2] = (*table)[2][:10] }},
		{"a number too few for the winter quarters", false, func(_ []int, _ *int, table *[][]int) { (*table)[0] = (*table)[0][:1] }},
		{"a number too many", false, func(_ []int, _ *int, table *[][]int) { (*table)[3] = append((*table)[3], 0) }},
		{"an empty row", false, func(_ []int, _ *int, table *[][]int) { (*table)[1] = nil }},
		{"a fee for the winter quarters", false, func(fees []int, bound *int, _ *[][]int) { fees[0]++; *bound++ }},
		{"a fee below 0", false, func(fees []int, bound *int, _ *[][]int) { *bound -= fees[3] + 1; fees[3] = -1 }},
		{"another fee", true, func(fees []int, bound *int, _ *[][]int) { *bound += 2; fees[1] += 2 }},
		{"a fee beyond MaxFee", false, func(fees []int, bound *int, _ *[][]int) {
			*bound += api.MaxFee + 1 - fees[1]
			fees[1] = api.MaxFee + 1
		}},
		{"a fee of MaxFee", true, func(fees []int, bound *int, _ *[][]int) { *bound += api.MaxFee - fees[1]; fees[1] = api.MaxFee }},
	} {
		f, b, l := slices.Clone(fees), bound, copyTable(table)
		c.set(f, &b, &l)
		if got := route.ProveBound(x, f, b, l); got != c.want {
			t.Error(c.name, got)
		}
	}
	for _, f := range [][]int{nil, {0, 5, 6}, {0, 5, 6, 7, 0}} {
		if route.ProveBound(x, f, bound, table) {
			t.Error("fees:", f)
		}
	}
	x.Days = 0
	if route.ProveBound(x, fees, bound, table) {
		t.Error("a tour that is not valid")
	}
}

// P6.5, by its definition: tables with some numbers more, or one less.
func TestProveBoundOfAll(t *testing.T) {
	d := newDice(70)
	accepted, refused := 0, 0
	for range 6000 {
		x := d.tour(d.from(1, 7), d.from(2, 4))
		fees := d.fees(x, 30)
		bound, table, _ := route.Bound(x, fees)
		if d.Intn(2) == 0 {
			raise := d.from(1, 50)
			for town := range table[1:] {
				for day := range table[town+1] {
					table[town+1][day] += raise
				}
			}
			table[0][0], bound = table[0][0]+raise, bound+raise
		}
		for range d.from(0, 2) {
			at := table[d.Intn(len(table))]
			day := d.Intn(len(at))
			at[day] = min(api.MaxGold, max(-api.MaxGold, at[day]+d.from(-2, 1)))
		}
		bound += d.from(-1, 1) * d.Intn(2)
		want := showsBy(x, fees, bound, table)
		if got := route.ProveBound(x, fees, bound, table); got != want {
			t.Error(x, fees, bound, table, got, want)
		}
		if want {
			accepted++
		} else {
			refused++
		}
	}
	if accepted < 1000 || refused < 1000 {
		t.Error("accepted and refused:", accepted, refused)
	}
}

// P6.5: each number that matters is needed.
func TestEachNumber(t *testing.T) {
	d := newDice(71)
	for range 60 {
		x := d.tour(d.from(2, 8), d.from(2, 4))
		fees := d.fees(x, 20)
		bound, table, _ := route.Bound(x, fees)
		for _, at := range asked(x) {
			if n := table[at[0]][at[1]]; n > -api.MaxGold {
				table[at[0]][at[1]]--
				less := 0
				if at[0] == 0 {
					less = 1
				}
				if route.ProveBound(x, fees, bound-less, table) {
					t.Error(x, fees, at)
				}
				table[at[0]][at[1]]++
			}
		}
		if !route.ProveBound(x, fees, bound, table) {
			t.Error(x, fees)
		}
	}
}

// P6.7: the best profit is at most each bound, and no bound is below 0.
func TestNeverMore(t *testing.T) {
	d := newDice(72)
	for range 2000 {
		x := d.tour(d.from(1, 15), d.from(2, 6))
		_, profit, _ := route.Best(x)
		for _, most := range []int{0, 30, 200, api.MaxFee} {
			fees := d.fees(x, most)
			if bound, _, e := route.Bound(x, fees); bound < profit || bound < 0 || e != api.OK {
				t.Error(x, fees, bound, profit, e)
			}
		}
	}
}
