package purse_test

import (
	"slices"
	"testing"

	"bigtop/api"
	"bigtop/purse"
)

// question is one of the table of acts.
type question struct {
	bad bool
	e   api.Errno
}

func first(questions ...question) api.Errno {
	for _, q := range questions {
		if q.bad {
			return q.e
		}
	}
	return api.OK
}

// doBy asks the questions of the table of acts in their order, and does then what stands there.
func doBy(l purse.Ledger, a purse.Act) (purse.Ledger, api.Errno) {
	l = copyLedger(l)
	if !isIn(int(a.Kind), 1, 8) {
		return purse.Ledger{}, api.ErrArg
	}
	var window, held int
	var bag purse.Bag
	noAmount, noWindow, noBag := !isIn(a.Amount, 1, 1000000000000), !isIn(a.Window, 0, len(l.Windows)-1), !isIn(a.Bag, 0, len(l.Bags)-1)
	if !noWindow {
		window = l.Windows[a.Window]
	}
	if !noBag {
		bag = l.Bags[a.Bag]
		held = bag.Holds
	}
	noSeal := !isIn(a.Seal, 1, 1000000)
	known := slices.ContainsFunc(l.Bags, func(b purse.Bag) bool { return b.Seal == a.Seal || b.Now == a.Seal })
	above := func(n, more int) bool { return n > 1000000000000-more }
	var e api.Errno
	switch a.Kind {
	case 1:
		e = first(question{noWindow || noAmount, api.ErrRange}, question{l.Office < a.Amount, api.ErrNone}, question{above(window, a.Amount), api.ErrLimit})
	case 2:
		e = first(question{noWindow || noAmount, api.ErrRange}, question{above(window, a.Amount) || above(l.In, a.Amount), api.ErrLimit})
	case 3:
		e = first(question{noWindow || noAmount, api.ErrRange}, question{window < a.Amount, api.ErrNone}, question{above(l.Out, a.Amount), api.ErrLimit})
	case 4:
		e = first(question{noWindow || noSeal || noAmount || !isIn(a.Written, 0, 1000000000000), api.ErrRange}, question{len(l.Bags) == 100, api.ErrLimit},
			question{known, api.ErrTwice}, question{window < a.Amount, api.ErrNone})
	case 5:
		e = first(question{noBag || noSeal || noAmount && a.Amount != 0, api.ErrRange}, question{bag.Opened, api.ErrState},
			question{known, api.ErrTwice}, question{held < a.Amount, api.ErrNone}, question{above(l.Out, a.Amount), api.ErrLimit})
	case 6:
		e = first(question{noBag, api.ErrRange}, question{bag.Opened, api.ErrState}, question{above(l.Office, held), api.ErrLimit})
	case 7:
		e = first(question{noAmount, api.ErrRange}, question{l.Office < a.Amount, api.ErrNone}, question{above(l.Bank, a.Amount), api.ErrLimit})
	case 8:
		e = first(question{noAmount, api.ErrRange}, question{l.Bank < a.Amount, api.ErrNone}, question{above(l.Out, a.Amount), api.ErrLimit})
	}
	if e != api.OK {
		return purse.Ledger{}, e
	}
	write(&l, a)
	return l, api.OK
}

// write does an act that nothing speaks against.
func write(l *purse.Ledger, a purse.Act) {
	switch a.Kind {
	case purse.Float:
		l.Office -= a.Amount
		l.Windows[a.Window] += a.Amount
	case purse.Sale:
		l.Windows[a.Window] += a.Amount
		l.In += a.Amount
	case purse.Return:
		l.Windows[a.Window] -= a.Amount
		l.Out += a.Amount
	case purse.Pack:
		l.Windows[a.Window] -= a.Amount
		l.Bags = append(l.Bags, purse.Bag{Window: a.Window, Seal: a.Seal, Written: a.Written, Holds: a.Amount, Now: a.Seal})
	case purse.Touch:
		l.Bags[a.Bag].Holds -= a.Amount
		l.Bags[a.Bag].Now = a.Seal
		l.Out += a.Amount
	case purse.Open:
		b := &l.Bags[a.Bag]
		if b.Holds != b.Written || b.Now != b.Seal {
			l.Diffs = append(l.Diffs, purse.Diff{Bag: a.Bag, Less: b.Written - b.Holds, Broken: b.Now != b.Seal})
		}
		l.Office += b.Holds
		b.Holds, b.Opened = 0, true
	case purse.Deposit:
		l.Office -= a.Amount
		l.Bank += a.Amount
	case purse.Wage:
		l.Bank -= a.Amount
		l.Out += a.Amount
	}
}

// checkDo has an act that leads to a ledger, as the table says and the model does.
func checkDo(t *testing.T, l purse.Ledger, a purse.Act, change func(*purse.Ledger)) {
	t.Helper()
	want := copyLedger(l)
	change(&want)
	n, e := purse.Do(l, a)
	if !sameLedger(n, want) || e != api.OK {
		t.Error("Do", a, n, e, "not", want)
	}
	if m, e := doBy(l, a); !sameLedger(m, want) || e != api.OK {
		t.Error("the model:", a, m, e)
	}
	accepts(t, "after an act", n)
}

// checkRefused has an act that is refused.
func checkRefused(t *testing.T, l purse.Ledger, a purse.Act, want api.Errno) {
	t.Helper()
	if e := purse.CheckLedger(l); e != api.OK {
		t.Error("a ledger that is not valid:", l)
	}
	if n, e := purse.Do(l, a); !isZero(n) || e != want {
		t.Error("Do", a, n, e, "not", want)
	}
	if n, errors, e := purse.Run(l, acts(a)); !sameLedger(n, l) || !slices.Equal(errors, []api.Errno{want}) || e != api.OK {
		t.Error("Run", a, n, errors, e, "not", want)
	}
	if _, e := doBy(l, a); e != want {
		t.Error("the model:", a, e)
	}
}

func exampleActs() []purse.Act {
	return acts(
		purse.Act{Kind: purse.Float, Window: 1, Amount: 50},
		purse.Act{Kind: purse.Sale, Window: 0, Amount: 30},
		purse.Act{Kind: purse.Pack, Window: 0, Amount: 120, Written: 120, Seal: 7},
		purse.Act{Kind: purse.Touch, Bag: 0, Amount: 20, Seal: 9},
		purse.Act{Kind: purse.Open, Bag: 0},
		purse.Act{Kind: purse.Deposit, Amount: 400},
	)
}

// P9.2 to P9.4: the chapter's example.
func TestLedgerExample(t *testing.T) {
	l := done(t, begun(t, list(100, 0), 500), exampleActs()...)
	want := purse.Ledger{
		Windows: list(10, 50), Office: 150, Bank: 400, Begun: 600, In: 30, Out: 20,
		Bags:  []purse.Bag{{Seal: 7, Written: 120, Now: 9, Opened: true}},
		Diffs: []purse.Diff{{Less: 20, Broken: true}},
	}
	if !sameLedger(l, want) {
		t.Error(l)
	}
	if total, e := purse.Total(l); total != 610 || e != api.OK {
		t.Error("Total:", total, e)
	}
	if less, bags, e := purse.Missing(l, 0); less != 20 || bags != 1 || e != api.OK {
		t.Error("Missing:", less, bags, e)
	}
}

// P9.3: what each kind of act does, with 1, with something, and with all there is.
func TestWhatActsDo(t *testing.T) {
	l := used()
	for _, n := range list(1, 70, 499, 500) {
		checkDo(t, l, purse.Act{Kind: purse.Float, Window: 1, Amount: n}, func(l *purse.Ledger) { l.Office -= n; l.Windows[1] += n })
		checkDo(t, l, purse.Act{Kind: purse.Sale, Window: 2, Amount: n}, func(l *purse.Ledger) { l.Windows[2] += n; l.In += n })
		checkDo(t, l, purse.Act{Kind: purse.Return, Window: 0, Amount: n}, func(l *purse.Ledger) { l.Windows[0] -= n; l.Out += n })
		checkDo(t, l, purse.Act{Kind: purse.Deposit, Amount: n}, func(l *purse.Ledger) { l.Office -= n; l.Bank += n })
		checkDo(t, l, purse.Act{Kind: purse.Wage, Amount: n}, func(l *purse.Ledger) { l.Bank -= n; l.Out += n })
	}
	checkDo(t, l, purse.Act{Kind: purse.Float, Window: 0, Amount: 2000}, func(l *purse.Ledger) { l.Office = 0; l.Windows[0] = 4000 })
	checkDo(t, l, purse.Act{Kind: purse.Return, Window: 2, Amount: 2000}, func(l *purse.Ledger) { l.Windows[2] = 0; l.Out += 2000 })
	checkDo(t, l, purse.Act{Kind: purse.Deposit, Amount: 2000}, func(l *purse.Ledger) { l.Office = 0; l.Bank = 2500 })
	for _, n := range list(0, -1, lowest, money+1, highest) {
		for _, kind := range []uint8{purse.Float, purse.Sale, purse.Return, purse.Deposit, purse.Wage} {
			checkRefused(t, l, purse.Act{Kind: kind, Amount: n}, api.ErrRange)
		}
	}
	for _, n := range list(2001, 5000, money) {
		checkRefused(t, l, purse.Act{Kind: purse.Float, Amount: n}, api.ErrNone)
		checkRefused(t, l, purse.Act{Kind: purse.Return, Amount: n}, api.ErrNone)
		checkRefused(t, l, purse.Act{Kind: purse.Deposit, Amount: n}, api.ErrNone)
		checkRefused(t, l, purse.Act{Kind: purse.Wage, Amount: n}, api.ErrNone)
	}
	checkRefused(t, l, purse.Act{Kind: purse.Wage, Amount: 501}, api.ErrNone)
	for _, n := range beyond(0, 2) {
		for _, kind := range []uint8{purse.Float, purse.Sale, purse.Return} {
			checkRefused(t, l, purse.Act{Kind: kind, Window: n, Amount: 1}, api.ErrRange)
		}
	}
	for _, kind := range []uint8{0, 9, 10, 128, 255} {
		checkRefused(t, l, purse.Act{Kind: kind, Amount: 1, Seal: 1}, api.ErrArg)
		checkRefused(t, l, purse.Act{Kind: kind, Window: -1, Bag: 99, Seal: lowest, Amount: highest, Written: -1}, api.ErrArg)
	}
}

// P9.3: Pack, with all kinds of amounts, and of what is written.
func TestPack(t *testing.T) {
	l := used()
	for _, amount := range list(1, 80, 2000) {
		for _, written := range list(0, 1, amount, amount+1, money) {
			for _, seal := range list(1, 17, api.MaxSeal) {
				a := purse.Act{Kind: purse.Pack, Window: 1, Seal: seal, Amount: amount, Written: written}
				checkDo(t, l, a, func(l *purse.Ledger) {
					l.Windows[1] -= amount
					l.Bags = append(l.Bags, purse.Bag{Window: 1, Seal: seal, Written: written, Holds: amount, Now: seal})
				})
			}
		}
	}
	good := purse.Act{Kind: purse.Pack, Window: 1, Seal: 17, Amount: 80, Written: 80}
	with := func(change func(*purse.Act)) purse.Act {
		a := good
		change(&a)
		return a
	}
	for _, n := range beyond(0, 2) {
		checkRefused(t, l, with(func(a *purse.Act) { a.Window = n }), api.ErrRange)
	}
	for _, n := range beyond(1, api.MaxSeal) {
		checkRefused(t, l, with(func(a *purse.Act) { a.Seal = n }), api.ErrRange)
	}
	for _, n := range beyond(1, money) {
		checkRefused(t, l, with(func(a *purse.Act) { a.Amount = n }), api.ErrRange)
	}
	for _, n := range beyond(0, money) {
		checkRefused(t, l, with(func(a *purse.Act) { a.Written = n }), api.ErrRange)
	}
	for _, b := range l.Bags {
		checkRefused(t, l, with(func(a *purse.Act) { a.Seal = b.Seal }), api.ErrTwice)
		checkRefused(t, l, with(func(a *purse.Act) { a.Seal = b.Now }), api.ErrTwice)
	}
	for _, n := range list(2001, money) {
		checkRefused(t, l, with(func(a *purse.Act) { a.Amount = n }), api.ErrNone)
	}
	full := purse.Ledger{Windows: list(5), Bags: manyBags(api.MaxBags-1, 1), Begun: 5}
	l = done(t, full, purse.Act{Kind: purse.Pack, Seal: 500, Amount: 1})
	if len(l.Bags) != api.MaxBags {
		t.Error("MaxBags:", len(l.Bags))
	}
	checkRefused(t, l, purse.Act{Kind: purse.Pack, Seal: 501, Amount: 1}, api.ErrLimit)
}

// P9.3: Touch takes nothing, something, or all, and leaves another seal.
func TestTouch(t *testing.T) {
	l := used()
	for _, seal := range list(1, 17, api.MaxSeal) {
		for _, n := range list(0, 1, 50, 99, 100) {
			checkDo(t, l, purse.Act{Kind: purse.Touch, Bag: 0, Seal: seal, Amount: n}, func(l *purse.Ledger) { l.Bags[0].Holds -= n; l.Bags[0].Now = seal; l.Out += n })
		}
		for _, n := range list(0, 1, 70) {
			checkDo(t, l, purse.Act{Kind: purse.Touch, Bag: 1, Seal: seal, Amount: n}, func(l *purse.Ledger) { l.Bags[1].Holds -= n; l.Bags[1].Now = seal; l.Out += n })
		}
	}
	for _, n := range beyond(0, 6) {
		checkRefused(t, l, purse.Act{Kind: purse.Touch, Bag: n, Seal: 17}, api.ErrRange)
	}
	for _, n := range beyond(1, api.MaxSeal) {
		checkRefused(t, l, purse.Act{Kind: purse.Touch, Seal: n}, api.ErrRange)
	}
	for _, n := range beyond(0, money) {
		checkRefused(t, l, purse.Act{Kind: purse.Touch, Seal: 17, Amount: n}, api.ErrRange)
	}
	for bag := 2; bag < 7; bag++ {
		checkRefused(t, l, purse.Act{Kind: purse.Touch, Bag: bag, Seal: 17}, api.ErrState)
	}
	for _, b := range l.Bags {
		for bag := range 2 {
			checkRefused(t, l, purse.Act{Kind: purse.Touch, Bag: bag, Seal: b.Seal, Amount: 1}, api.ErrTwice)
			checkRefused(t, l, purse.Act{Kind: purse.Touch, Bag: bag, Seal: b.Now, Amount: 1}, api.ErrTwice)
		}
	}
	for _, n := range list(101, money) {
		checkRefused(t, l, purse.Act{Kind: purse.Touch, Seal: 17, Amount: n}, api.ErrNone)
	}
	checkRefused(t, l, purse.Act{Kind: purse.Touch, Bag: 1, Seal: 17, Amount: 71}, api.ErrNone)
	checkRefused(t, begun(t, list(5), 5), purse.Act{Kind: purse.Touch, Seal: 17}, api.ErrRange)
}

// P9.3: a seal that was on a bag between two others is on none any more.
func TestTouchTwice(t *testing.T) {
	l := done(t, begun(t, list(100), 0),
		purse.Act{Kind: purse.Pack, Seal: 1, Amount: 100, Written: 100},
		purse.Act{Kind: purse.Touch, Seal: 2, Amount: 10},
		purse.Act{Kind: purse.Touch, Seal: 3, Amount: 5})
	checkRefused(t, l, purse.Act{Kind: purse.Touch, Seal: 1}, api.ErrTwice)
	checkRefused(t, l, purse.Act{Kind: purse.Touch, Seal: 3}, api.ErrTwice)
	checkDo(t, l, purse.Act{Kind: purse.Touch, Seal: 2}, func(l *purse.Ledger) { l.Bags[0].Now = 2 })
	checkDo(t, l, purse.Act{Kind: purse.Open}, func(l *purse.Ledger) {
		l.Bags[0] = purse.Bag{Seal: 1, Written: 100, Now: 3, Opened: true}
		l.Office = 85
		l.Diffs = []purse.Diff{{Less: 15, Broken: true}}
	})
}

// P9.3: Open names the bag if something is not as it was written.
func TestOpen(t *testing.T) {
	l := used()
	for _, x := range []struct {
		holds, written, now int
		diffs               []purse.Diff
	}{
		{100, 100, 10, nil},
		{0, 0, 10, nil},
		{money - 2000, money - 2000, 10, nil},
		{99, 100, 10, []purse.Diff{{Less: 1}}},
		{0, 100, 10, []purse.Diff{{Less: 100}}},
		{0, money, 10, []purse.Diff{{Less: money}}},
		{101, 100, 10, []purse.Diff{{Less: -1}}},
		{100, 0, 10, []purse.Diff{{Less: -100}}},
		{100, 100, 30, []purse.Diff{{Broken: true}}},
		{0, 0, 9, []purse.Diff{{Broken: true}}},
		{90, 100, 30, []purse.Diff{{Less: 10, Broken: true}}},
		{100, 90, 30, []purse.Diff{{Less: -10, Broken: true}}},
	} {
		l := changed(func(l *purse.Ledger) { l.Bags[0].Holds, l.Bags[0].Written, l.Bags[0].Now = x.holds, x.written, x.now })
		checkDo(t, l, purse.Act{Kind: purse.Open}, func(l *purse.Ledger) {
			l.Office += x.holds
			l.Bags[0].Holds, l.Bags[0].Opened = 0, true
			l.Diffs = append(l.Diffs, x.diffs...)
		})
		checkRefused(t, done(t, l, purse.Act{Kind: purse.Open}), purse.Act{Kind: purse.Open}, api.ErrState)
	}
	checkDo(t, l, purse.Act{Kind: purse.Open, Bag: 1}, func(l *purse.Ledger) {
		l.Office += 70
		l.Bags[1].Holds, l.Bags[1].Opened = 0, true
		l.Diffs = append(l.Diffs, purse.Diff{Bag: 1, Less: 30, Broken: true})
	})
	for bag := 2; bag < 7; bag++ {
		checkRefused(t, l, purse.Act{Kind: purse.Open, Bag: bag}, api.ErrState)
	}
	for _, n := range beyond(0, 6) {
		checkRefused(t, l, purse.Act{Kind: purse.Open, Bag: n}, api.ErrRange)
	}
	checkRefused(t, begun(t, list(5), 5), purse.Act{Kind: purse.Open}, api.ErrRange)
}

// nearTheLimit lacks 5 in the place, and its bags that are not opened hold as much as is to be moved.
func nearTheLimit(a purse.Act, place func(*purse.Ledger) *int) purse.Ledger {
	l := used()
	l.Bags[0].Holds, l.Bags[1].Holds = a.Amount, a.Amount
	*place(&l) = money - 5
	if l.In == money-5 {
		l.Out = l.In
		l.Begun = allHeld(l)
		return l
	}
	return balanced(l)
}

// P9.3: what would come above MaxMoney is refused, and what comes just to it is not.
func TestActsToTheLimit(t *testing.T) {
	office := func(l *purse.Ledger) *int { return &l.Office }
	out := func(l *purse.Ledger) *int { return &l.Out }
	for _, x := range []struct {
		act   purse.Act
		place func(*purse.Ledger) *int
	}{
		{purse.Act{Kind: purse.Float, Window: 2}, func(l *purse.Ledger) *int { return &l.Windows[2] }},
		{purse.Act{Kind: purse.Sale, Window: 1}, func(l *purse.Ledger) *int { return &l.Windows[1] }},
		{purse.Act{Kind: purse.Sale}, func(l *purse.Ledger) *int { return &l.In }},
		{purse.Act{Kind: purse.Return}, out},
		{purse.Act{Kind: purse.Touch, Seal: 17}, out},
		{purse.Act{Kind: purse.Open}, office},
		{purse.Act{Kind: purse.Open, Bag: 1}, office},
		{purse.Act{Kind: purse.Deposit}, func(l *purse.Ledger) *int { return &l.Bank }},
		{purse.Act{Kind: purse.Wage}, out},
	} {
		for more := range 2 {
			x.act.Amount = 5 + more
			l := nearTheLimit(x.act, x.place)
			if more == 1 {
				checkRefused(t, l, x.act, api.ErrLimit)
				continue
			}
			checkDo(t, l, x.act, func(l *purse.Ledger) { write(l, x.act) })
			if n := done(t, l, x.act); *x.place(&n) != money {
				t.Error(x.act, n)
			}
		}
	}
	checkDo(t, used(), purse.Act{Kind: purse.Sale, Amount: money - 2000}, func(l *purse.Ledger) { l.Windows[0] = money; l.In = money - 2000 })
	checkRefused(t, used(), purse.Act{Kind: purse.Sale, Amount: money - 1999}, api.ErrLimit)
	checkRefused(t, used(), purse.Act{Kind: purse.Sale, Amount: money}, api.ErrLimit)
	checkDo(t, begun(t, list(0), 7), purse.Act{Kind: purse.Sale, Amount: money}, func(l *purse.Ledger) { l.Windows[0] = money; l.In = money })
	checkDo(t, begun(t, list(0), money), purse.Act{Kind: purse.Float, Amount: money}, func(l *purse.Ledger) { l.Windows[0] = money; l.Office = 0 })
	checkDo(t, begun(t, list(0), money), purse.Act{Kind: purse.Deposit, Amount: money}, func(l *purse.Ledger) { l.Bank = money; l.Office = 0 })
	checkDo(t, begun(t, list(money), 0), purse.Act{Kind: purse.Return, Amount: money}, func(l *purse.Ledger) { l.Windows[0] = 0; l.Out = money })
	checkDo(t, begun(t, list(money), 0), purse.Act{Kind: purse.Pack, Seal: 1, Amount: money}, func(l *purse.Ledger) {
		l.Windows[0] = 0
		l.Bags = []purse.Bag{{Seal: 1, Holds: money, Now: 1}}
	})
}

// scarce has 1 in the window 0, the office, the bank, and the bag 0, so that 2 is too much of each of them; there are MaxBags, and nothing may come in or go out any more.
func scarce() purse.Ledger {
	l := purse.Ledger{Windows: list(1, money-4), Office: 1, Bank: 1, Begun: money, In: money, Out: money, Bags: manyBags(api.MaxBags, 1)}
	l.Bags[0].Holds = 1
	l.Bags[9].Opened = true
	return l
}

// P9.3, R1: the first error of the row counts, where two or more hold at once.
func TestOrderOfErrors(t *testing.T) {
	l := scarce()
	const far = money + 1
	for _, x := range []struct {
		act  purse.Act
		want api.Errno
	}{
		{purse.Act{Kind: 0, Window: 5, Bag: 500, Seal: 0, Amount: far, Written: -1}, api.ErrArg},
		{purse.Act{Kind: 9, Window: 5, Bag: 9, Seal: 1, Amount: 2}, api.ErrArg},

		{purse.Act{Kind: purse.Float, Window: 5, Amount: 2}, api.ErrRange},
		{purse.Act{Kind: purse.Float, Window: 1, Amount: far}, api.ErrRange},
		{purse.Act{Kind: purse.Float, Window: 1, Amount: money}, api.ErrNone},
		{purse.Act{Kind: purse.Sale, Window: 5, Amount: money}, api.ErrRange},
		{purse.Act{Kind: purse.Sale, Window: 1, Amount: far}, api.ErrRange},
		{purse.Act{Kind: purse.Sale, Window: 1, Amount: money}, api.ErrLimit},
		{purse.Act{Kind: purse.Return, Window: 5, Amount: 2}, api.ErrRange},
		{purse.Act{Kind: purse.Return, Window: 0, Amount: far}, api.ErrRange},
		{purse.Act{Kind: purse.Return, Window: 0, Amount: 2}, api.ErrNone},
		{purse.Act{Kind: purse.Return, Window: 0, Amount: 1}, api.ErrLimit},

		{purse.Act{Kind: purse.Pack, Window: 5, Seal: 1, Amount: 2}, api.ErrRange},
		{purse.Act{Kind: purse.Pack, Window: 0, Seal: 0, Amount: 2}, api.ErrRange},
		{purse.Act{Kind: purse.Pack, Window: 0, Seal: 1, Amount: far}, api.ErrRange},
		{purse.Act{Kind: purse.Pack, Window: 0, Seal: 1, Amount: 2, Written: far}, api.ErrRange},
		{purse.Act{Kind: purse.Pack, Window: 0, Seal: 1, Amount: 2}, api.ErrLimit},
		{purse.Act{Kind: purse.Pack, Window: 0, Seal: 1, Amount: 1}, api.ErrLimit},
		{purse.Act{Kind: purse.Pack, Window: 0, Seal: 777, Amount: 2}, api.ErrLimit},

		{purse.Act{Kind: purse.Touch, Bag: 500, Seal: 1, Amount: 2}, api.ErrRange},
		{purse.Act{Kind: purse.Touch, Bag: 9, Seal: 0, Amount: 2}, api.ErrRange},
		{purse.Act{Kind: purse.Touch, Bag: 9, Seal: 1, Amount: far}, api.ErrRange},
		{purse.Act{Kind: purse.Touch, Bag: 9, Seal: 1, Amount: 2}, api.ErrState},
		{purse.Act{Kind: purse.Touch, Bag: 9, Seal: 777, Amount: 2}, api.ErrState},
		{purse.Act{Kind: purse.Touch, Bag: 9, Seal: 1, Amount: 0}, api.ErrState},
		{purse.Act{Kind: purse.Touch, Bag: 0, Seal: 1, Amount: 2}, api.ErrTwice},
		{purse.Act{Kind: purse.Touch, Bag: 0, Seal: 1, Amount: 1}, api.ErrTwice},
		{purse.Act{Kind: purse.Touch, Bag: 0, Seal: 777, Amount: 2}, api.ErrNone},
		{purse.Act{Kind: purse.Touch, Bag: 0, Seal: 777, Amount: 1}, api.ErrLimit},
		{purse.Act{Kind: purse.Open, Bag: 500}, api.ErrRange},
		{purse.Act{Kind: purse.Open, Bag: 9}, api.ErrState},

		{purse.Act{Kind: purse.Deposit, Amount: far}, api.ErrRange},
		{purse.Act{Kind: purse.Deposit, Amount: money}, api.ErrNone},
		{purse.Act{Kind: purse.Wage, Amount: far}, api.ErrRange},
		{purse.Act{Kind: purse.Wage, Amount: 2}, api.ErrNone},
		{purse.Act{Kind: purse.Wage, Amount: 1}, api.ErrLimit},
	} {
		checkRefused(t, l, x.act, x.want)
	}
	l.Bags = l.Bags[:api.MaxBags-1]
	checkRefused(t, l, purse.Act{Kind: purse.Pack, Window: 0, Seal: 1, Amount: 2}, api.ErrTwice)
	checkRefused(t, l, purse.Act{Kind: purse.Pack, Window: 0, Seal: 777, Amount: 2}, api.ErrNone)
}

// P9.3: what an act does not name is not looked at.
func TestWhatActsDoNotName(t *testing.T) {
	l := used()
	for _, n := range list(lowest, -1, 0, 1, 9, money+1, highest) {
		for _, x := range [][2]purse.Act{
			{{Kind: purse.Float, Window: 1, Amount: 5}, {Kind: purse.Float, Window: 1, Bag: n, Seal: n, Amount: 5, Written: n}},
			{{Kind: purse.Sale, Window: 1, Amount: 5}, {Kind: purse.Sale, Window: 1, Bag: n, Seal: n, Amount: 5, Written: n}},
			{{Kind: purse.Return, Window: 1, Amount: 5}, {Kind: purse.Return, Window: 1, Bag: n, Seal: n, Amount: 5, Written: n}},
			{{Kind: purse.Pack, Window: 1, Seal: 17, Amount: 5, Written: 5}, {Kind: purse.Pack, Window: 1, Bag: n, Seal: 17, Amount: 5, Written: 5}},
			{{Kind: purse.Touch, Bag: 1, Seal: 17, Amount: 5}, {Kind: purse.Touch, Window: n, Bag: 1, Seal: 17, Amount: 5, Written: n}},
			{{Kind: purse.Open, Bag: 1}, {Kind: purse.Open, Window: n, Bag: 1, Seal: n, Amount: n, Written: n}},
			{{Kind: purse.Deposit, Amount: 5}, {Kind: purse.Deposit, Window: n, Bag: n, Seal: n, Amount: 5, Written: n}},
			{{Kind: purse.Wage, Amount: 5}, {Kind: purse.Wage, Window: n, Bag: n, Seal: n, Amount: 5, Written: n}},
		} {
			plain, e := purse.Do(l, x[0])
			if other, f := purse.Do(l, x[1]); !sameLedger(plain, other) || e != api.OK || f != api.OK {
				t.Error(x, e, f)
			}
		}
	}
}
