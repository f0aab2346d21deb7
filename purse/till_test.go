package purse_test

import (
	"slices"
	"testing"

	"bigtop/api"
	"bigtop/purse"
)

func worth(t purse.Till, pieces []int) (sum int) {
	for kind, n := range pieces {
		sum += n * t.Values[kind]
	}
	return sum
}

func number(pieces []int) (sum int) {
	for _, n := range pieces {
		sum += n
	}
	return sum
}

// isBetter reports whether a way is better than another one.
func isBetter(a, b []int) bool {
	if number(a) != number(b) {
		return number(a) < number(b)
	}
	return slices.Compare(a, b) > 0
}

// bestWays goes through all ways to take pieces, and keeps the best one for each amount.
func bestWays(t purse.Till) map[int][]int {
	best := map[int][]int{}
	pieces := make([]int, len(t.Values))
	var take func(kind int)
	take = func(kind int) {
		if kind == len(pieces) {
			amount := worth(t, pieces)
			if way, known := best[amount]; !known || isBetter(pieces, way) {
				best[amount] = slices.Clone(pieces)
			}
			return
		}
		for n := range t.Counts[kind] + 1 {
			pieces[kind] = n
			take(kind + 1)
		}
		pieces[kind] = 0
	}
	take(0)
	return best
}

// bestWaysByPiece lays one piece after the other beside what can be given without it, for amounts up to MaxChange.
func bestWaysByPiece(t purse.Till) [][]int {
	best := make([][]int, api.MaxChange+1)
	best[0] = make([]int, len(t.Values))
	for kind, count := range t.Counts {
		for range count {
			for amount := api.MaxChange; amount >= t.Values[kind]; amount-- {
				if before := best[amount-t.Values[kind]]; before != nil {
					way := slices.Clone(before)
					way[kind]++
					if best[amount] == nil || isBetter(way, best[amount]) {
						best[amount] = way
					}
				}
			}
		}
	}
	return best
}

func checkChange(t *testing.T, x purse.Till, amount int, want []int) {
	t.Helper()
	error := api.OK
	if want == nil {
		error = api.ErrNone
	}
	if way, e := purse.Change(x, amount); !slices.Equal(way, want) || e != error {
		t.Error("Change", x, amount, way, e, "not", want)
	}
}

func checkGap(t *testing.T, x purse.Till, want int) {
	t.Helper()
	if gap, e := purse.Gap(x); gap != want || e != api.OK {
		t.Error("Gap", x, gap, e, "not", want)
	}
}

// P9.1: the chapter's examples.
func TestTillExamples(t *testing.T) {
	checkChange(t, till(list(5, 4, 1), 1, 2, 3), 8, list(0, 2, 0))
	checkChange(t, till(list(5, 4, 1), 1, 1, 3), 8, list(1, 0, 3))
	checkGap(t, till(list(5, 4, 1), 1, 1, 2), 3)
}

// P9.1: the greatest pieces first are not always the fewest, nor do they always do.
func TestChangeIsNotGreedy(t *testing.T) {
	checkChange(t, till(list(10, 6, 1), 2, 4, 3), 12, list(0, 2, 0))
	checkChange(t, till(list(10, 6), 1, 2), 12, list(0, 2))
	checkChange(t, till(list(10, 6), 1, 1), 12, nil)
	checkChange(t, till(list(25, 10, 1), 1, 3, 50), 30, list(0, 3, 0))
	checkChange(t, till(list(25, 10, 1), 1, 2, 50), 30, list(1, 0, 5))
}

// P9.1: of several ways with as few pieces, the one with the most of the first value, then of the second one, and so on.
func TestChangeOfSeveralWays(t *testing.T) {
	checkChange(t, till(list(7, 4, 1), 1, 2, 1), 8, list(1, 0, 1))
	checkChange(t, till(list(7, 4, 1), 1, 2, 0), 8, list(0, 2, 0))
	checkChange(t, till(list(6, 5, 4, 3, 2), 1, 2, 1, 1, 1), 10, list(1, 0, 1, 0, 0))
	checkChange(t, till(list(6, 5, 4, 3, 2), 1, 2, 0, 1, 1), 10, list(0, 2, 0, 0, 0))
	checkChange(t, till(list(9, 7, 6, 5, 3), 9, 9, 9, 9, 9), 12, list(1, 0, 0, 0, 1))
	checkChange(t, till(list(9, 7, 6, 5, 3), 9, 9, 9, 9, 0), 12, list(0, 1, 0, 1, 0))
	checkChange(t, till(list(20, 8, 6, 5, 4, 3), 1, 9, 9, 9, 9, 9), 30, list(1, 0, 1, 0, 1, 0))
	checkChange(t, till(list(20, 7, 6, 5, 4, 3), 1, 9, 0, 9, 9, 9), 30, list(1, 1, 0, 0, 0, 1))
}

// P9.1: amounts from 0 to MaxChange, and beyond.
func TestChangeAmounts(t *testing.T) {
	x := till(list(1000, 500, 1), 5, 1, 3)
	checkChange(t, x, 0, list(0, 0, 0))
	checkChange(t, x, 1, list(0, 0, 1))
	checkChange(t, x, 3, list(0, 0, 3))
	checkChange(t, x, 4, nil)
	checkChange(t, x, 503, list(0, 1, 3))
	checkChange(t, x, 4999, nil)
	checkChange(t, x, api.MaxChange, list(5, 0, 0))
	checkChange(t, till(list(1000, 999), 4, 50), api.MaxChange, nil)
	checkChange(t, till(list(1), 0), 0, list(0))
	checkChange(t, till(list(1), 0), 1, nil)
	checkChange(t, till(list(100), api.MaxPieces), api.MaxChange, list(api.MaxPieces))
	checkChange(t, till(list(100), api.MaxPieces-1), api.MaxChange, nil)
	checkChange(t, till(list(2), 1), 3, nil)
	full := slices.Repeat(list(api.MaxPieces), api.MaxKinds)
	checkChange(t, till(list(8, 7, 6, 5, 4, 3, 2, 1), full...), 36*api.MaxPieces, full)
	checkChange(t, till(list(8, 7, 6, 5, 4, 3, 2, 1), full...), 36*api.MaxPieces+1, nil)
	for _, amount := range append(beyond(0, api.MaxChange), -2, -1000, 5500) {
		if way, e := purse.Change(x, amount); len(way) != 0 || e != api.ErrRange {
			t.Error(amount, way, e)
		}
	}
}

// P9.1, P9.7: all amounts that small tills can give, and those that they cannot, against all ways.
func TestChangeAgainstAllWays(t *testing.T) {
	d := newDice(1)
	for range 400 {
		x := d.till(4, 12, 4)
		best := bestWays(x)
		for amount := range worth(x, x.Counts) + 3 {
			checkChange(t, x, amount, best[amount])
		}
	}
}

// P9.1, P9.7: great tills, against ways that grow by one piece.
func TestChangeOfGreatTills(t *testing.T) {
	d := newDice(2)
	tills := []purse.Till{
		till(list(25, 24, 23, 22, 21, 20, 19, 18), 50, 50, 50, 50, 50, 50, 50, 50),
		till(list(8, 7, 6, 5, 4, 3, 2, 1), 50, 50, 50, 50, 50, 50, 50, 50),
		d.till(api.MaxKinds, 1000, api.MaxPieces),
		d.till(api.MaxKinds, 100, api.MaxPieces),
		d.till(api.MaxKinds, 30, api.MaxPieces),
	}
	for _, x := range tills {
		best := bestWaysByPiece(x)
		for range 40 {
			amount := d.from(0, api.MaxChange)
			checkChange(t, x, amount, best[amount])
		}
		checkChange(t, x, api.MaxChange, best[api.MaxChange])
	}
}

// P9.1: gaps of 1, in between, one more than all pieces together, and above MaxChange.
func TestGaps(t *testing.T) {
	powers, full := list(128, 64, 32, 16, 8, 4, 2, 1), slices.Repeat(list(api.MaxPieces), 8)
	for _, x := range []struct {
		till purse.Till
		want int
	}{
		{till(list(2), 3), 1},
		{till(list(1), 0), 1},
		{till(list(3, 1), 50, 0), 1},
		{till(list(1000, 999), 50, 50), 1},
		{till(list(1), 1), 2},
		{till(list(1), api.MaxPieces), api.MaxPieces + 1},
		{till(list(10, 6, 1), 2, 4, 3), 4},
		{till(list(4, 1), 3, 3), 16},
		{till(list(5, 1), 3, 3), 4},
		{till(list(9, 4, 2, 1), 1, 0, 3, 1), 8},
		{till(list(8, 4, 2, 1), 1, 0, 3, 1), 16},
		{till(list(4, 2, 1), 1, 1, 1), 8},
		{till(powers, full...), 255*api.MaxPieces + 1},
		{till(list(100, 99, 51, 1), 50, 50, 49, 50), 51 + 51*49 + 50*199},
		{till(list(1000, 999, 998, 997, 996, 995, 51, 1), full...), 301851},
		{till(list(1000, 999, 998, 997, 996, 995, 52, 1), full...), 51},
		{till(list(1000, 999, 998, 997, 996, 995, 20, 1), full...), 301851 - 31*50},
		{till(list(1000, 999, 998, 997, 996, 995, 18, 1), full...), 951},
	} {
		checkGap(t, x.till, x.want)
	}
}

// P9.1, P9.7: the gap is the first amount that no way gives, and Change agrees with it.
func TestGapAgainstAllWays(t *testing.T) {
	d := newDice(3)
	for range 1000 {
		x := d.till(4, 10, 4)
		if d.Intn(3) > 0 {
			x.Values[len(x.Values)-1] = 1
		}
		best := bestWays(x)
		want := 1
		for best[want] != nil {
			want++
		}
		checkGap(t, x, want)
		if _, e := purse.Change(x, want); e != api.ErrNone {
			t.Error(x, want, e)
		}
		for amount := range want {
			if way, e := purse.Change(x, amount); worth(x, way) != amount || e != api.OK {
				t.Error(x, amount, way, e)
			}
		}
	}
}

// P9.7: what is given is worth the amount, and there are as many pieces.
func TestChangeIsThere(t *testing.T) {
	d := newDice(4)
	for range 300 {
		x := d.till(api.MaxKinds, d.one(10, 100, 1000), api.MaxPieces)
		amount := d.from(0, api.MaxChange)
		way, e := purse.Change(x, amount)
		if e == api.ErrNone {
			continue
		}
		for kind, n := range way {
			if !isIn(n, 0, x.Counts[kind]) {
				t.Error(x, amount, way)
			}
		}
		if e != api.OK || len(way) != len(x.Values) || worth(x, way) != amount {
			t.Error(x, amount, way, e)
		}
	}
}

// P9.7: a piece more does not make the gap less.
func TestGapOfMorePieces(t *testing.T) {
	d := newDice(5)
	for range 500 {
		x := d.till(api.MaxKinds, d.one(8, 20, 1000), api.MaxPieces-1)
		if d.Intn(3) > 0 {
			x.Values[len(x.Values)-1] = 1
		}
		gap, _ := purse.Gap(x)
		for kind := range x.Values {
			y := copyTill(x)
			y.Counts[kind]++
			if more, e := purse.Gap(y); more < gap || e != api.OK {
				t.Error(x, kind, gap, more, e)
			}
		}
	}
}

// P9.1: which tills are valid; the others are refused by all calls.
func TestCheckTill(t *testing.T) {
	for _, x := range []struct {
		till purse.Till
		want api.Errno
	}{
		{till(nil), api.ErrArg},
		{till(list()), api.ErrArg},
		{till(list(1), 0), api.OK},
		{till(list(api.MaxWorth), api.MaxPieces), api.OK},
		{till(list(8, 7, 6, 5, 4, 3, 2, 1), 1, 0, 1, 0, 1, 0, 1, 0), api.OK},
		{till(list(9, 8, 7, 6, 5, 4, 3, 2, 1), 1, 1, 1, 1, 1, 1, 1, 1, 1), api.ErrArg},
		{till(list(2, 2), 1, 1), api.ErrArg},
		{till(list(1, 2), 1, 1), api.ErrArg},
		{till(list(3, 2, 2), 1, 1, 1), api.ErrArg},
		{till(list(3, 1, 2), 1, 1, 1), api.ErrArg},
		{till(list(2, 3, 1), 1, 1, 1), api.ErrArg},
		{till(list(5, 1), 1), api.ErrArg},
		{till(list(5, 1)), api.ErrArg},
		{till(list(5, 1), 1, 1, 1), api.ErrArg},
		{till(nil, 1), api.ErrArg},
	} {
		checkTill(t, x.till, x.want)
	}
	for _, n := range beyond(1, api.MaxWorth) {
		checkTill(t, till(list(n), 1), api.ErrArg)
	}
	checkTill(t, till(list(5, 0), 1, 1), api.ErrArg)
	checkTill(t, till(list(5, lowest), 1, 1), api.ErrArg)
	checkTill(t, till(list(api.MaxWorth+1, 5), 1, 1), api.ErrArg)
	checkTill(t, till(list(highest, 5), 1, 1), api.ErrArg)
	for i := range 3 {
		for _, n := range beyond(0, api.MaxPieces) {
			x := till(list(5, 4, 1), 1, 1, 1)
			x.Counts[i] = n
			checkTill(t, x, api.ErrArg)
		}
		for _, n := range list(0, api.MaxPieces) {
			x := till(list(5, 4, 1), 1, 1, 1)
			x.Counts[i] = n
			checkTill(t, x, api.OK)
		}
	}
}

func checkTill(t *testing.T, x purse.Till, want api.Errno) {
	t.Helper()
	if e := purse.CheckTill(x); e != want {
		t.Error("CheckTill", x, e)
	}
	if gap, e := purse.Gap(x); e != want || e != api.OK && gap != 0 {
		t.Error("Gap", x, gap, e)
	}
	if way, e := purse.Change(x, 0); e != want || e != api.OK && len(way) != 0 {
		t.Error("Change", x, way, e)
	}
}
