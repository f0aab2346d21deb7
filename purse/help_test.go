package purse_test

import (
	"math/rand"
	"slices"
	"testing"

	"bigtop/api"
	"bigtop/purse"
)

const (
	lowest  = -1 << 63
	highest = 1<<63 - 1
	money   = api.MaxMoney
)

func list(l ...int) []int { return l }

// beyond are numbers that are not from lo to hi.
func beyond(lo, hi int) []int { return list(lowest, lo-1, hi+1, highest) }

func isIn(n, lo, hi int) bool { return n >= lo && n <= hi }

func till(values []int, counts ...int) purse.Till { return purse.Till{Values: values, Counts: counts} }

func acts(l ...purse.Act) []purse.Act { return l }

func allHeld(l purse.Ledger) int {
	total := l.Office + l.Bank
	for _, n := range l.Windows {
		total += n
	}
	for _, b := range l.Bags {
		total += b.Holds
	}
	return total
}

// balanced has a Begun and an In with which the ledger has what it holds, as far as this is possible in their ranges; Out stays as it is.
func balanced(l purse.Ledger) purse.Ledger {
	came := allHeld(l) + l.Out
	l.In = max(came-money, 0)
	l.Begun = came - l.In
	return l
}

// used has, with 2000 in each window and in the office and 500 in the bank, a bag in each state: it was sent off (0), touched (1), opened as it was written (2), with 40 less (3), with 30 more (4), broken with as much as was written (5), and broken with 60 less (6).
func used() purse.Ledger {
	return balanced(purse.Ledger{
		Windows: list(2000, 2000, 2000), Office: 2000, Bank: 500, Out: 90,
		Bags: []purse.Bag{
			{Window: 0, Seal: 10, Written: 100, Holds: 100, Now: 10},
			{Window: 1, Seal: 11, Written: 100, Holds: 70, Now: 21},
			{Window: 2, Seal: 12, Written: 100, Now: 12, Opened: true},
			{Window: 0, Seal: 13, Written: 100, Now: 13, Opened: true},
			{Window: 1, Seal: 14, Written: 100, Now: 14, Opened: true},
			{Window: 2, Seal: 15, Written: 100, Now: 25, Opened: true},
			{Window: 0, Seal: 16, Written: 100, Now: 26, Opened: true},
		},
		Diffs: []purse.Diff{{Bag: 6, Less: 60, Broken: true}, {Bag: 3, Less: 40}, {Bag: 4, Less: -30}, {Bag: 5, Broken: true}},
	})
}

// changed is a used ledger after a change, balanced again.
func changed(change func(*purse.Ledger)) purse.Ledger {
	l := used()
	change(&l)
	return balanced(l)
}

// manyBags have nothing in them, and the seals from first on.
func manyBags(count, first int) (l []purse.Bag) {
	for i := range count {
		l = append(l, purse.Bag{Seal: first + i, Now: first + i})
	}
	return l
}

func copyLedger(l purse.Ledger) purse.Ledger {
	l.Windows, l.Bags, l.Diffs = slices.Clone(l.Windows), slices.Clone(l.Bags), slices.Clone(l.Diffs)
	return l
}

func sameLedger(a, b purse.Ledger) bool {
	return slices.Equal(a.Windows, b.Windows) && slices.Equal(a.Bags, b.Bags) && slices.Equal(a.Diffs, b.Diffs) &&
		a.Office == b.Office && a.Bank == b.Bank && a.Begun == b.Begun && a.In == b.In && a.Out == b.Out
}

func isZero(l purse.Ledger) bool { return sameLedger(l, purse.Ledger{}) }

func copyTill(t purse.Till) purse.Till {
	return till(slices.Clone(t.Values), slices.Clone(t.Counts)...)
}

func sameTill(a, b purse.Till) bool {
	return slices.Equal(a.Values, b.Values) && slices.Equal(a.Counts, b.Counts)
}

func copyWeek(w purse.Week) purse.Week {
	w.Countries, w.Contracts = slices.Clone(w.Countries), slices.Clone(w.Contracts)
	return w
}

func sameWeek(a, b purse.Week) bool {
	return a.Premium == b.Premium && slices.Equal(a.Countries, b.Countries) && slices.Equal(a.Contracts, b.Contracts)
}

func samePay(a, b purse.Pay) bool {
	return slices.Equal(a.Gross, b.Gross) && slices.Equal(a.Taxes, b.Taxes) && a.Premium == b.Premium && a.Lacks == b.Lacks &&
		slices.Equal(a.Paid, b.Paid) && slices.Equal(a.Short, b.Short) && slices.Equal(a.Extra, b.Extra) && a.Rest == b.Rest
}

// done is the ledger after acts of which none is refused.
func done(t *testing.T, l purse.Ledger, acts ...purse.Act) purse.Ledger {
	t.Helper()
	n, errors, e := purse.Run(l, acts)
	if e != api.OK || slices.ContainsFunc(errors, func(e api.Errno) bool { return e != api.OK }) {
		t.Fatal("Run:", errors, e)
	}
	return n
}

func begun(t *testing.T, windows []int, office int) purse.Ledger {
	t.Helper()
	l, e := purse.Begin(windows, office)
	if e != api.OK {
		t.Fatal("Begin:", e)
	}
	return l
}

// dice gives numbers that are the same in each run.
type dice struct{ *rand.Rand }

func newDice(seed int64) dice { return dice{rand.New(rand.NewSource(seed))} }

// from returns a number from lo to hi.
func (d dice) from(lo, hi int) int { return lo + d.Intn(hi-lo+1) }

func (d dice) one(l ...int) int { return l[d.Intn(len(l))] }

// till has some of the values from 1 to worth, and up to pieces of each.
func (d dice) till(kinds, worth, pieces int) (t purse.Till) {
	for _, value := range d.Perm(worth)[:d.from(1, kinds)] {
		t.Values = append(t.Values, value+1)
		t.Counts = append(t.Counts, d.from(0, pieces))
	}
	slices.Sort(t.Values)
	slices.Reverse(t.Values)
	return t
}

// ledger has little in all places, but for one that lacks little of MaxMoney, or none; Out lacks little, too, or nothing went out.
func (d dice) ledger() purse.Ledger {
	l := purse.Ledger{Office: d.one(0, d.from(0, 9), 1000), Bank: d.one(0, 5, 1000)}
	for range d.from(1, 3) {
		l.Windows = append(l.Windows, d.one(0, d.from(0, 9), 1000))
	}
	near := money - d.from(0, 9)
	switch d.Intn(8) {
	case 0:
		l.Windows[0] = near
	case 1:
		l.Office = near
	case 2:
		l.Bank = near
	}
	if d.Intn(4) == 0 {
		l.Out = min(near, 2*money-allHeld(l))
	}
	return balanced(l)
}

// act is mostly one that makes sense.
func (d dice) act(l purse.Ledger) purse.Act {
	a := purse.Act{
		Kind: uint8(d.one(1, 2, 3, 4, 4, 4, 5, 5, 6, 6, 7, 8)), Window: d.Intn(len(l.Windows)),
		Bag: d.Intn(max(len(l.Bags), 1)), Seal: d.from(1, 30), Amount: d.one(0, 1, d.from(1, 9), 1000), Written: d.from(0, 9),
	}
	if d.Intn(2) == 0 {
		a.Written = a.Amount
	}
	if d.Intn(20) > 0 {
		return a
	}
	n := d.one(lowest, -1, 0, 9, 100, money-5, money, money+1, highest)
	switch d.Intn(6) {
	case 0:
		a.Kind = uint8(d.one(0, 9, 255))
	case 1:
		a.Window = n
	case 2:
		a.Bag = n
	case 3:
		a.Seal = n
	case 4:
		a.Amount = n
	case 5:
		a.Written = n
	}
	return a
}

// week has takings that suffice for some of its contracts, or for all.
func (d dice) week() (w purse.Week) {
	for range d.from(1, 4) {
		w.Countries = append(w.Countries, purse.Country{Takings: d.one(0, d.from(0, 99), d.from(0, 9999)), Num: d.from(1, 5), Den: d.from(1, 5), Tax: d.one(0, 1000, d.from(0, 1000))})
	}
	w.Premium = d.one(0, d.from(0, 99), d.from(0, 9999))
	left := 1000
	for range d.from(0, 6) {
		c := purse.Contract{Rank: d.from(0, 3), Wage: d.one(0, d.from(0, 99), d.from(0, 2999)), Share: d.one(0, left, d.from(0, left))}
		left -= c.Share
		w.Contracts = append(w.Contracts, c)
	}
	return w
}

func (d dice) policy() purse.Policy {
	return purse.Policy{Least: d.from(0, 50), Part: d.one(0, 1000, d.from(0, 1000)), Most: d.one(0, d.from(0, 400), money)}
}

func (d dice) losses() []int {
	l := make([]int, d.from(0, 8))
	for i := range l {
		l[i] = d.one(0, d.from(0, 200), d.from(40, 60))
	}
	return l
}
