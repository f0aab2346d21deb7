package purse_test

import (
	"slices"
	"testing"

	"bigtop/api"
	"bigtop/purse"
)

// P9.2: what the windows and the office hold is what there was at first, and all else is empty.
func TestBegin(t *testing.T) {
	full := slices.Repeat(list(money/api.MaxWindows), api.MaxWindows)
	for _, x := range []struct {
		windows       []int
		office, begun int
	}{
		{list(100, 0), 500, 600},
		{list(0), 0, 0},
		{list(1), 0, 1},
		{list(0), 1, 1},
		{list(money), 0, money},
		{list(0, 0), money, money},
		{list(7, money-8), 1, money},
		{list(1, 2, 3, 4, 5, 6, 7, 8, 9, 10), 11, 66},
		{full, 0, money},
	} {
		l, e := purse.Begin(x.windows, x.office)
		if !sameLedger(l, purse.Ledger{Windows: x.windows, Office: x.office, Begun: x.begun}) || e != api.OK {
			t.Error(x, l, e)
		}
		if e := purse.CheckLedger(l); e != api.OK {
			t.Error("CheckLedger", x, e)
		}
		if total, e := purse.Total(l); total != x.begun || e != api.OK {
			t.Error("Total", x, total, e)
		}
	}
}

// P9.2: no window, too many, amounts out of their range, and too much of all together.
func TestBeginErrors(t *testing.T) {
	bad := func(windows []int, office int) {
		t.Helper()
		if l, e := purse.Begin(windows, office); !isZero(l) || e != api.ErrRange {
			t.Error(windows, office, l, e)
		}
	}
	bad(nil, 5)
	bad(list(), 0)
	bad(make([]int, api.MaxWindows+1), 0)
	bad(slices.Repeat(list(1), api.MaxWindows+1), 5)
	for _, n := range beyond(0, money) {
		bad(list(n), 1)
		bad(list(1, n), 1)
		bad(list(n, 1), 1)
		bad(list(1), n)
	}
	bad(list(-1), 1)
	bad(list(1), -1)
	bad(list(-1, 1), 0)
	bad(list(money), 1)
	bad(list(1), money)
	bad(list(money, 1), 0)
	bad(list(money-1, 1), 1)
	bad(slices.Repeat(list(money), api.MaxWindows), money)
	bad(list(highest, highest, 2), 0)
	bad(list(highest, highest), 2)
	bad(list(lowest, lowest), 0)
}

// refuses has all calls with a ledger that is not valid.
func refuses(t *testing.T, name string, l purse.Ledger) {
	t.Helper()
	if e := purse.CheckLedger(l); e != api.ErrArg {
		t.Error("CheckLedger,", name, l, e)
	}
	if total, e := purse.Total(l); total != 0 || e != api.ErrArg {
		t.Error("Total,", name, total, e)
	}
	if less, bags, e := purse.Missing(l, 0); less != 0 || bags != 0 || e != api.ErrArg {
		t.Error("Missing,", name, less, bags, e)
	}
	if n, e := purse.Do(l, purse.Act{Kind: purse.Deposit, Amount: 1}); !isZero(n) || e != api.ErrArg {
		t.Error("Do,", name, n, e)
	}
	if n, errors, e := purse.Run(l, acts(purse.Act{Kind: purse.Deposit, Amount: 1})); !isZero(n) || len(errors) != 0 || e != api.ErrArg {
		t.Error("Run,", name, n, errors, e)
	}
}

// accepts has the calls that need no more than a valid ledger.
func accepts(t *testing.T, name string, l purse.Ledger) {
	t.Helper()
	if e := purse.CheckLedger(l); e != api.OK {
		t.Error("CheckLedger,", name, l, e)
	}
	if total, e := purse.Total(l); total != allHeld(l) || e != api.OK {
		t.Error("Total,", name, total, e)
	}
	if _, _, e := purse.Missing(l, 0); e != api.OK {
		t.Error("Missing,", name, e)
	}
	if n, errors, e := purse.Run(l, nil); !sameLedger(n, l) || len(errors) != 0 || e != api.OK {
		t.Error("Run,", name, n, errors, e)
	}
}

// P9.2: the ledger of the other tests.
func TestUsedLedger(t *testing.T) {
	l := used()
	accepts(t, "used", l)
	if total, e := purse.Total(l); total != 8670 || e != api.OK {
		t.Error(total, e)
	}
}

// P9.2: windows.
func TestWindows(t *testing.T) {
	refuses(t, "no windows", purse.Ledger{})
	refuses(t, "an empty list of windows", balanced(purse.Ledger{Windows: list(), Office: 5}))
	accepts(t, "a window", balanced(purse.Ledger{Windows: list(7)}))
	accepts(t, "MaxWindows", balanced(purse.Ledger{Windows: slices.Repeat(list(3), api.MaxWindows)}))
	refuses(t, "one more window", balanced(purse.Ledger{Windows: slices.Repeat(list(3), api.MaxWindows+1)}))
}

// places are what holds or has held an amount, in a used ledger.
func places() map[string]func(*purse.Ledger) *int {
	return map[string]func(*purse.Ledger) *int{
		"the first window":           func(l *purse.Ledger) *int { return &l.Windows[0] },
		"the last window":            func(l *purse.Ledger) *int { return &l.Windows[2] },
		"the office":                 func(l *purse.Ledger) *int { return &l.Office },
		"the bank":                   func(l *purse.Ledger) *int { return &l.Bank },
		"the first bag":              func(l *purse.Ledger) *int { return &l.Bags[0].Holds },
		"a bag that was touched":     func(l *purse.Ledger) *int { return &l.Bags[1].Holds },
		"what is written":            func(l *purse.Ledger) *int { return &l.Bags[0].Written },
		"what is written in the end": func(l *purse.Ledger) *int { return &l.Bags[6].Written },
	}
}

// P9.2: amounts are from 0 to MaxMoney in each place; the ledgers are balanced, so that nothing else is wrong.
func TestAmounts(t *testing.T) {
	for name, place := range places() {
		for _, n := range list(0, 1, money-1, money) {
			accepts(t, name, changed(func(l *purse.Ledger) { *place(l) = n }))
		}
		for _, n := range beyond(0, money) {
			refuses(t, name, changed(func(l *purse.Ledger) { *place(l) = n }))
		}
		refuses(t, name, changed(func(l *purse.Ledger) { *place(l) = -1000 }))
	}
}

// P9.2: what there was, came in and went out is from 0 to MaxMoney, too.
func TestBegunInOut(t *testing.T) {
	held := allHeld(used())
	with := func(begun, in, out int) purse.Ledger {
		l := used()
		l.Begun, l.In, l.Out = begun, in, out
		return l
	}
	for _, x := range [][3]int{
		{held, 0, 0}, {0, held, 0}, {money, 0, money - held}, {0, money, money - held}, {held, money, money}, {money, held, money},
		{1, held, 1}, {held, 1, 1}, {money, money - 1, money}, {held - 1, 1, 0},
	} {
		l := with(x[0], x[1], x[2])
		l.Office += x[0] + x[1] - x[2] - held
		accepts(t, "in their ranges", l)
	}
	low := lowest
	for _, x := range [][3]int{
		{-1, held + 1, 0}, {held + 1, -1, 0}, {held - 1, 0, -1}, {0, held - 1, -1},
		{money + 1, 0, money + 1 - held}, {0, money + 1, money + 1 - held}, {money, held + 1, money + 1},
		{highest, 1, low - held}, {lowest, lowest, -held}, {held, highest, highest}, {highest, held, highest}, {held, lowest, lowest},
	} {
		refuses(t, "beyond their ranges", with(x[0], x[1], x[2]))
	}
}

// P9.2: sums may be above MaxMoney, up to what there can be; none goes beyond what an int holds.
func TestGreatSums(t *testing.T) {
	twice := purse.Ledger{Windows: list(money, money), Begun: money, In: money}
	accepts(t, "twice MaxMoney", twice)
	twice.Office = 1
	refuses(t, "more than can be", balanced(twice))
	twice.Begun, twice.In = money, money
	refuses(t, "more than there is", twice)
	bags := purse.Ledger{Windows: list(0), Bags: manyBags(2, 1), Begun: money, In: money}
	bags.Bags[0].Holds, bags.Bags[1].Holds = money, money
	accepts(t, "twice MaxMoney in bags", bags)
	full := purse.Ledger{Windows: slices.Repeat(list(money), api.MaxWindows), Bags: manyBags(api.MaxBags, 1), Office: money, Bank: money, Begun: money, In: money}
	for i := range full.Bags {
		full.Bags[i].Holds = money
	}
	refuses(t, "all places full", full)
	refuses(t, "windows that are nothing together", purse.Ledger{Windows: list(highest, highest, 2)})
	refuses(t, "places that are nothing together", purse.Ledger{Windows: list(highest), Office: highest, Bank: 2})
	l := purse.Ledger{Windows: list(5), Bags: manyBags(4, 1), Begun: 5}
	for i := range l.Bags {
		l.Bags[i].Holds = 1 << 62
	}
	refuses(t, "bags that are nothing together", l)
}

// P9.2: a ledger in which a coin is missing, or one too many.
func TestOneOff(t *testing.T) {
	numbers := places()
	delete(numbers, "what is written")
	delete(numbers, "what is written in the end")
	numbers["Begun"] = func(l *purse.Ledger) *int { return &l.Begun }
	numbers["In"] = func(l *purse.Ledger) *int { return &l.In }
	numbers["Out"] = func(l *purse.Ledger) *int { return &l.Out }
	for name, place := range numbers {
		for _, n := range list(-1, 1, 1000) {
			l := used()
			l.In, l.Out = l.In+50, l.Out+50
			accepts(t, "50 more that came and went", l)
			*place(&l) += n
			refuses(t, name+", one off", l)
		}
	}
	l := used()
	l.Office++
	l.Bank--
	accepts(t, "a coin that went elsewhere", l)
}

// P9.2: bags.
func TestBags(t *testing.T) {
	accepts(t, "no bags", balanced(purse.Ledger{Windows: list(5)}))
	accepts(t, "MaxBags", purse.Ledger{Windows: list(0), Bags: manyBags(api.MaxBags, 1)})
	refuses(t, "one more bag", purse.Ledger{Windows: list(0), Bags: manyBags(api.MaxBags+1, 1)})
	for _, i := range list(0, 6) {
		for _, n := range beyond(0, 2) {
			refuses(t, "a bag of no window", changed(func(l *purse.Ledger) { l.Bags[i].Window = n }))
		}
		for _, n := range list(0, 2) {
			accepts(t, "a bag of another window", changed(func(l *purse.Ledger) { l.Bags[i].Window = n }))
		}
		for _, n := range append(beyond(1, api.MaxSeal), -1) {
			refuses(t, "a Seal out of its range", changed(func(l *purse.Ledger) { l.Bags[1].Seal = n }))
			refuses(t, "a Now out of its range", changed(func(l *purse.Ledger) { l.Bags[1].Now = n }))
			refuses(t, "a seal out of its range", changed(func(l *purse.Ledger) { l.Bags[0].Seal, l.Bags[0].Now = n, n }))
			refuses(t, "a Seal out of its range, opened", changed(func(l *purse.Ledger) { l.Bags[6].Seal = n }))
			refuses(t, "a Now out of its range, opened", changed(func(l *purse.Ledger) { l.Bags[6].Now = n }))
		}
	}
	for _, n := range list(1, api.MaxSeal) {
		accepts(t, "a Seal", changed(func(l *purse.Ledger) { l.Bags[1].Seal = n }))
		accepts(t, "a Now", changed(func(l *purse.Ledger) { l.Bags[1].Now = n }))
		accepts(t, "a seal", changed(func(l *purse.Ledger) { l.Bags[0].Seal, l.Bags[0].Now = n, n }))
	}
	for i := range 7 {
		open := used().Bags[i].Opened
		l := changed(func(l *purse.Ledger) { l.Bags[i].Holds = 1 })
		if open {
			refuses(t, "an opened bag that holds something", l)
		} else {
			accepts(t, "a bag that holds something", l)
		}
	}
}

// P9.2: no number is the Seal or the Now of two bags, in whatever way; but it may be both of the same one.
func TestSeals(t *testing.T) {
	bags := func(a, b, c [2]int) purse.Ledger {
		l := purse.Ledger{Windows: list(0)}
		for _, x := range [][2]int{a, b, c} {
			l.Bags = append(l.Bags, purse.Bag{Seal: x[0], Now: x[1]})
		}
		return l
	}
	accepts(t, "no number twice", bags([2]int{1, 2}, [2]int{3, 4}, [2]int{5, 6}))
	accepts(t, "numbers of the same bag", bags([2]int{1, 1}, [2]int{3, 3}, [2]int{5, 5}))
	for i := range 3 {
		for k := range 3 {
			for way := range 4 {
				numbers := [3][2]int{{1, 2}, {3, 4}, {5, 6}}
				numbers[i][way/2] = numbers[k][way%2]
				if l := bags(numbers[0], numbers[1], numbers[2]); i == k {
					accepts(t, "a number of one bag", l)
				} else {
					refuses(t, "a number of two bags", l)
				}
			}
		}
	}
	refuses(t, "the only number of two bags", bags([2]int{1, 1}, [2]int{2, 2}, [2]int{1, 1}))
	refuses(t, "bags that changed their seals", bags([2]int{1, 2}, [2]int{2, 1}, [2]int{5, 5}))
	refuses(t, "a seal of an opened bag", changed(func(l *purse.Ledger) { l.Bags[0].Seal, l.Bags[0].Now = 12, 12 }))
	refuses(t, "a broken seal of an opened bag", changed(func(l *purse.Ledger) { l.Bags[1].Now = 25 }))
}

// P9.2: differences.
func TestDiffs(t *testing.T) {
	add := func(d purse.Diff) purse.Ledger {
		return changed(func(l *purse.Ledger) { l.Diffs = append(l.Diffs, d) })
	}
	accepts(t, "a difference of the opened bag", add(purse.Diff{Bag: 2, Less: 1}))
	accepts(t, "a difference below 0", add(purse.Diff{Bag: 2, Less: -1}))
	refuses(t, "nothing to tell", add(purse.Diff{Bag: 2}))
	for _, n := range beyond(0, 6) {
		refuses(t, "a difference of no bag", add(purse.Diff{Bag: n, Less: 1}))
		refuses(t, "a broken difference of no bag", add(purse.Diff{Bag: n, Broken: true}))
	}
	refuses(t, "a difference of a bag that is not opened", add(purse.Diff{Bag: 0, Less: 1}))
	refuses(t, "a broken difference of a bag that is not opened", add(purse.Diff{Bag: 1, Less: 1, Broken: true}))
	refuses(t, "the same difference twice", add(purse.Diff{Bag: 3, Less: 40}))
	refuses(t, "two differences of a bag", add(purse.Diff{Bag: 3, Less: 41}))
	refuses(t, "two differences of a broken bag", add(purse.Diff{Bag: 5, Broken: true}))
	refuses(t, "two new differences of a bag", changed(func(l *purse.Ledger) {
		l.Diffs = append(l.Diffs, purse.Diff{Bag: 2, Less: 1}, purse.Diff{Bag: 2, Less: 2})
	}))
	for _, n := range list(-money, 1-money, -1, 1, money-1, money) {
		accepts(t, "a Less", changed(func(l *purse.Ledger) { l.Diffs[1].Less = n }))
		accepts(t, "a Less of a broken bag", changed(func(l *purse.Ledger) { l.Diffs[0].Less = n }))
	}
	for _, n := range beyond(-money, money) {
		refuses(t, "a Less out of its range", changed(func(l *purse.Ledger) { l.Diffs[1].Less = n }))
		refuses(t, "a Less of a broken bag out of its range", changed(func(l *purse.Ledger) { l.Diffs[0].Less = n }))
	}
	refuses(t, "a Less of 0", changed(func(l *purse.Ledger) { l.Diffs[1].Less = 0 }))
	accepts(t, "a Less of 0 of a broken bag", changed(func(l *purse.Ledger) { l.Diffs[0].Less = 0 }))
	for i := range 4 {
		refuses(t, "Broken the wrong way", changed(func(l *purse.Ledger) { l.Diffs[i].Broken = !l.Diffs[i].Broken }))
	}
	refuses(t, "Broken the wrong way, with a Less", changed(func(l *purse.Ledger) { l.Diffs[3] = purse.Diff{Bag: 5, Less: 1} }))
	for _, i := range list(0, 3) {
		refuses(t, "a broken seal that is not named", changed(func(l *purse.Ledger) { l.Diffs = slices.Delete(l.Diffs, i, i+1) }))
	}
	for _, i := range list(1, 2) {
		accepts(t, "a bag that was opened as it was written", changed(func(l *purse.Ledger) { l.Diffs = slices.Delete(l.Diffs, i, i+1) }))
	}
	refuses(t, "no differences", changed(func(l *purse.Ledger) { l.Diffs = nil }))
	refuses(t, "a bag that is not opened any more", changed(func(l *purse.Ledger) { l.Bags[3].Opened = false }))
	accepts(t, "another order", changed(func(l *purse.Ledger) { slices.Reverse(l.Diffs) }))
}

// isValid has the words of the chapter, one after the other.
func isValid(l purse.Ledger) bool {
	amounts := append(list(l.Office, l.Bank, l.Begun, l.In, l.Out), l.Windows...)
	for _, b := range l.Bags {
		amounts = append(amounts, b.Written, b.Holds)
		if !isIn(b.Window, 0, len(l.Windows)-1) || !isIn(b.Seal, 1, 1000000) || !isIn(b.Now, 1, 1000000) || b.Opened && b.Holds != 0 {
			return false
		}
	}
	for _, n := range amounts {
		if !isIn(n, 0, 1000000000000) {
			return false
		}
	}
	for i, a := range l.Bags {
		for _, b := range l.Bags[:i] {
			if a.Seal == b.Seal || a.Seal == b.Now || a.Now == b.Seal || a.Now == b.Now {
				return false
			}
		}
	}
	for i, d := range l.Diffs {
		if !isIn(d.Bag, 0, len(l.Bags)-1) || !l.Bags[d.Bag].Opened || !isIn(d.Less, -1000000000000, 1000000000000) ||
			d.Broken != (l.Bags[d.Bag].Now != l.Bags[d.Bag].Seal) || d.Less == 0 && !d.Broken ||
			slices.ContainsFunc(l.Diffs[:i], func(x purse.Diff) bool { return x.Bag == d.Bag }) {
			return false
		}
	}
	for i, b := range l.Bags {
		if b.Opened && b.Now != b.Seal && !slices.ContainsFunc(l.Diffs, func(d purse.Diff) bool { return d.Bag == i }) {
			return false
		}
	}
	return isIn(len(l.Windows), 1, 10) && len(l.Bags) <= 100 && allHeld(l) == l.Begun+l.In-l.Out
}

// P9.2: used ledgers that were changed here and there, against the words of the chapter.
func TestChangedLedgers(t *testing.T) {
	d := newDice(6)
	valid := 0
	for range 20000 {
		l := used()
		for range d.from(1, 2) {
			d.change(&l)
		}
		if d.Intn(4) > 0 {
			l = balanced(l)
		}
		if e := purse.CheckLedger(l); (e == api.OK) != isValid(l) || e != api.OK && e != api.ErrArg {
			t.Fatal(l, e)
		}
		if isValid(l) {
			valid++
		}
	}
	if !isIn(valid, 2000, 18000) {
		t.Error("valid ones:", valid)
	}
}

// change sets one thing, or leaves one out.
func (d dice) change(l *purse.Ledger) {
	bag, n := d.Intn(len(l.Bags)), d.one(-1, 0, 1, 2, 3, 10, 12, 14, 16, 21, 25, 26, money, money+1)
	switch d.Intn(12) {
	case 0:
		l.Windows[d.Intn(3)] = n
	case 1:
		l.Office, l.Bank = n, 3
	case 2:
		l.Out = n
	case 3:
		l.Bags[bag].Window = n
	case 4:
		l.Bags[bag].Seal = n
	case 5:
		l.Bags[bag].Now = n
	case 6:
		l.Bags[bag].Holds, l.Bags[bag].Written = d.one(0, n), d.one(0, n)
	case 7:
		l.Bags[bag].Opened = !l.Bags[bag].Opened
	case 8:
		l.Diffs = append(l.Diffs, purse.Diff{Bag: d.one(n, bag), Less: d.one(0, n), Broken: d.Intn(2) == 0})
	case 9:
		i := d.Intn(len(l.Diffs))
		l.Diffs = slices.Delete(l.Diffs, i, i+1)
	case 10:
		l.Diffs[0].Broken, l.Diffs[0].Less = d.Intn(2) == 0, n
	case 11:
		l.Bags = l.Bags[:bag+1]
	}
}
