package purse_test

import (
	"slices"
	"testing"

	"bigtop/api"
	"bigtop/purse"
)

// P9.3: no act, one, MaxEntries, and one more.
func TestRunLengths(t *testing.T) {
	sale := purse.Act{Kind: purse.Sale, Window: 1, Amount: 3}
	for _, n := range list(0, 1, 2, api.MaxEntries-1, api.MaxEntries) {
		want := used()
		want.Windows[1] += 3 * n
		want.In += 3 * n
		l, errors, e := purse.Run(used(), slices.Repeat(acts(sale), n))
		if !sameLedger(l, want) || len(errors) != n || e != api.OK {
			t.Error(n, l, len(errors), e)
		}
	}
	for _, n := range list(api.MaxEntries+1, 1000) {
		for _, a := range acts(sale, purse.Act{}) {
			if l, errors, e := purse.Run(used(), slices.Repeat(acts(a), n)); !isZero(l) || len(errors) != 0 || e != api.ErrLimit {
				t.Error(n, l, len(errors), e)
			}
		}
	}
	if l, errors, e := purse.Run(used(), make([]purse.Act, api.MaxEntries)); !sameLedger(l, used()) || !slices.Equal(errors, slices.Repeat([]api.Errno{api.ErrArg}, api.MaxEntries)) || e != api.OK {
		t.Error("acts of no kind:", l, errors, e)
	}
}

// P9.3, P9.8: acts that are refused change nothing, wherever they stand.
func TestRefusedActs(t *testing.T) {
	refused := acts(
		purse.Act{}, purse.Act{Kind: 9}, purse.Act{Kind: purse.Float, Window: 0, Amount: 1000}, purse.Act{Kind: purse.Sale, Window: 2, Amount: 1},
		purse.Act{Kind: purse.Return, Window: 1, Amount: 200}, purse.Act{Kind: purse.Pack, Window: 0, Seal: 8, Amount: 200},
		purse.Act{Kind: purse.Touch, Bag: 1, Seal: 8}, purse.Act{Kind: purse.Open, Bag: 1}, purse.Act{Kind: purse.Deposit, Amount: 1001}, purse.Act{Kind: purse.Wage, Amount: 401},
	)
	errors := []api.Errno{api.ErrArg, api.ErrArg, api.ErrNone, api.ErrRange, api.ErrNone, api.ErrNone, api.ErrRange, api.ErrRange, api.ErrNone, api.ErrNone}
	example := exampleActs()
	want := done(t, begun(t, list(100, 0), 500), example...)
	for place := range len(example) + 1 {
		l, got, e := purse.Run(begun(t, list(100, 0), 500), slices.Insert(slices.Clone(example), place, refused...))
		if !sameLedger(l, want) || !slices.Equal(got[place:place+len(errors)], errors) || e != api.OK {
			t.Error(place, l, got, e)
		}
		if others := slices.Delete(got, place, place+len(errors)); !slices.Equal(others, make([]api.Errno, len(example))) {
			t.Error(place, others)
		}
	}
}

// P9.3, P9.8: any acts, one after the other and all at once, against the model; after each the ledger is valid, and each coin is there.
func TestActsAgainstTheModel(t *testing.T) {
	d := newDice(7)
	counts := map[uint8]map[api.Errno]int{}
	for range 600 {
		start := d.ledger()
		l := copyLedger(start)
		var all []purse.Act
		var errors []api.Errno
		for range d.from(0, 60) {
			a := d.act(l)
			want, error := doBy(l, a)
			n, e := purse.Do(l, a)
			if !sameLedger(n, want) || e != error {
				t.Fatal(l, a, n, e, "not", want, error)
			}
			if counts[a.Kind] == nil {
				counts[a.Kind] = map[api.Errno]int{}
			}
			counts[a.Kind][e]++
			if e == api.OK {
				l = n
			}
			all, errors = append(all, a), append(errors, e)
			if total, e := purse.Total(l); e != api.OK || total != l.Begun+l.In-l.Out || total != allHeld(l) || !isValid(l) {
				t.Fatal(l, a, total, e)
			}
		}
		if n, got, e := purse.Run(start, all); !sameLedger(n, l) || !slices.Equal(got, errors) || e != api.OK {
			t.Fatal(start, all, n, got, e)
		}
	}
	for kind, least := range map[uint8]int{1: 100, 2: 100, 3: 100, 4: 100, 5: 100, 6: 100, 7: 100, 8: 100} {
		if counts[kind][api.OK] < least {
			t.Error("acts that were done:", kind, counts[kind])
		}
	}
}

// P9.9: a bag that was touched is named as broken, one that was not is not, and what was taken is missing.
func TestTouchedBagsAreNamed(t *testing.T) {
	d := newDice(8)
	named := 0
	for range 600 {
		l := begun(t, list(500, 500, 500), 0)
		touched, taken := map[int]bool{}, map[int]int{}
		for range d.from(1, 60) {
			a := d.act(l)
			if a.Kind == purse.Pack {
				a.Written = a.Amount
			}
			n, e := purse.Do(l, a)
			if e != api.OK {
				continue
			}
			l = n
			if a.Kind == purse.Touch {
				touched[a.Bag] = true
				taken[a.Bag] += a.Amount
			}
			if a.Kind == purse.Open {
				checkNamed(t, l, a.Bag, touched[a.Bag], taken[a.Bag])
				if touched[a.Bag] {
					named++
				}
			}
		}
		want, missing := 0, 0
		for bag, b := range l.Bags {
			if b.Opened {
				want += taken[bag]
			}
		}
		for window := range l.Windows {
			less, _, _ := purse.Missing(l, window)
			missing += less
		}
		if missing != want {
			t.Error(l, missing, "not", want)
		}
	}
	if named < 100 {
		t.Error("bags that were named:", named)
	}
}

// checkNamed has a bag that was just opened.
func checkNamed(t *testing.T, l purse.Ledger, bag int, touched bool, taken int) {
	t.Helper()
	i := slices.IndexFunc(l.Diffs, func(d purse.Diff) bool { return d.Bag == bag })
	switch {
	case !touched && i >= 0:
		t.Error("a difference of a bag that was not touched:", l, bag)
	case touched && (i != len(l.Diffs)-1 || l.Diffs[i] != purse.Diff{Bag: bag, Less: taken, Broken: true}):
		t.Error("a bag that was touched:", l, bag, taken)
	}
}

// P9.9: also if nothing was taken, and if another amount was written.
func TestBrokenSeals(t *testing.T) {
	l := done(t, begun(t, list(100, 100), 0),
		purse.Act{Kind: purse.Pack, Window: 0, Seal: 1, Amount: 50, Written: 50},
		purse.Act{Kind: purse.Pack, Window: 0, Seal: 2, Amount: 50, Written: 60},
		purse.Act{Kind: purse.Pack, Window: 1, Seal: 3, Amount: 40, Written: 30},
		purse.Act{Kind: purse.Pack, Window: 1, Seal: 4, Amount: 40, Written: 30},
		purse.Act{Kind: purse.Touch, Bag: 0, Seal: 5},
		purse.Act{Kind: purse.Touch, Bag: 3, Seal: 6, Amount: 10},
		purse.Act{Kind: purse.Open, Bag: 3},
		purse.Act{Kind: purse.Open, Bag: 2},
		purse.Act{Kind: purse.Open, Bag: 1},
		purse.Act{Kind: purse.Open, Bag: 0})
	want := []purse.Diff{{Bag: 3, Broken: true}, {Bag: 2, Less: -10}, {Bag: 1, Less: 10}, {Bag: 0, Broken: true}}
	if !slices.Equal(l.Diffs, want) {
		t.Error(l.Diffs)
	}
}

func checkMissing(t *testing.T, l purse.Ledger, window, less, bags int) {
	t.Helper()
	if n, count, e := purse.Missing(l, window); n != less || count != bags || e != api.OK {
		t.Error("Missing", l, window, n, count, e)
	}
}

// P9.4: windows with none and several bags, of which none or some have a difference, with sums above, at and below 0.
func TestMissing(t *testing.T) {
	l := used()
	checkMissing(t, l, 0, 100, 2)
	checkMissing(t, l, 1, -30, 1)
	checkMissing(t, l, 2, 0, 1)
	l.Bags[3].Window = 1
	checkMissing(t, l, 0, 60, 1)
	checkMissing(t, l, 1, 10, 2)
	l.Diffs[1].Less = 30
	checkMissing(t, l, 1, 0, 2)
	l.Windows = append(l.Windows, 0)
	checkMissing(t, l, 3, 0, 0)
	l.Bags[0].Window = 3
	checkMissing(t, l, 3, 0, 0)
	l.Bags[2].Window = 3
	checkMissing(t, l, 3, 0, 0)
	checkMissing(t, begun(t, list(5), 5), 0, 0, 0)
	for _, n := range beyond(0, 2) {
		if less, bags, e := purse.Missing(used(), n); less != 0 || bags != 0 || e != api.ErrRange {
			t.Error(n, less, bags, e)
		}
	}
}

// P9.4: as many bags as there can be, each with the greatest difference.
func TestMissingMuch(t *testing.T) {
	for _, less := range list(money, -money) {
		l := purse.Ledger{Windows: list(0, 0), Bags: manyBags(api.MaxBags, 1)}
		for i := range l.Bags {
			l.Bags[i].Window, l.Bags[i].Opened = 1, true
			l.Diffs = append(l.Diffs, purse.Diff{Bag: i, Less: less})
		}
		checkMissing(t, l, 1, api.MaxBags*less, api.MaxBags)
		checkMissing(t, l, 0, 0, 0)
	}
}
