package purse_test

import (
	"slices"
	"strings"
	"testing"

	"bigtop/api"
	"bigtop/purse"
)

// args are what calls are made of; a defect spoils some of them.
type args struct {
	t              purse.Till
	l              purse.Ledger
	w              purse.Week
	p              purse.Policy
	a              purse.Act
	amount, office int
	window         int
	windows        []int
	losses         []int
	acts           []purse.Act
}

type defect struct {
	name  string
	want  api.Errno
	spoil func(*args)
}

func goodArgs() args {
	return args{
		t: till(list(5, 4, 1), 1, 2, 3), l: used(), w: exampleWeek(), p: purse.Policy{Least: 100, Part: 800, Most: 500},
		a:      purse.Act{Kind: purse.Pack, Window: 1, Seal: 17, Amount: 80, Written: 90},
		amount: 8, office: 500, window: 0, windows: list(100, 0), losses: list(50, 300, 600), acts: exampleActs()[:3],
	}
}

func is(name string, want api.Errno, spoil func(*args)) defect { return defect{name, want, spoil} }

// outOfRange are defects with ErrRange.
func outOfRange(name string, lo, hi int, set func(*args, int)) (l []defect) {
	for _, n := range beyond(lo, hi) {
		l = append(l, is(name, api.ErrRange, func(a *args) { set(a, n) }))
	}
	return l
}

func tillDefects() []defect {
	return []defect{
		is("no values", api.ErrArg, func(a *args) { a.t = purse.Till{} }),
		is("rising values", api.ErrArg, func(a *args) { slices.Reverse(a.t.Values) }),
		is("no counts", api.ErrArg, func(a *args) { a.t.Counts = nil }),
		is("a count below 0", api.ErrArg, func(a *args) { a.t = till(list(1), -1) }),
	}
}

func ledgerDefects() []defect {
	return []defect{
		is("no windows", api.ErrArg, func(a *args) { a.l.Windows = nil }),
		is("one off", api.ErrArg, func(a *args) { a.l.Begun-- }),
		is("no bags", api.ErrArg, func(a *args) { a.l.Bags = nil }),
		is("no differences", api.ErrArg, func(a *args) { a.l.Diffs = nil }),
		is("an amount below 0", api.ErrArg, func(a *args) { a.l.Office = -1 }),
	}
}

func weekDefects() []defect {
	return []defect{
		is("no countries", api.ErrArg, func(a *args) { a.w.Countries = nil }),
		is("a Den of 0", api.ErrArg, func(a *args) { a.w.Countries = []purse.Country{{Num: 1}} }),
		is("a premium below 0", api.ErrArg, func(a *args) { a.w.Premium = -1 }),
		is("too many shares", api.ErrArg, func(a *args) { a.w.Contracts = []purse.Contract{{Share: 1000}, {Share: 1}} }),
	}
}

func beginDefects() []defect {
	return slices.Concat(
		[]defect{
			is("no window", api.ErrRange, func(a *args) { a.windows = nil }),
			is("too many windows", api.ErrRange, func(a *args) { a.windows = make([]int, api.MaxWindows+1) }),
			is("too much", api.ErrRange, func(a *args) { a.windows, a.office = list(money), 1 }),
		},
		outOfRange("a window", 0, money, func(a *args, n int) { a.windows = list(n) }),
		outOfRange("the office", 0, money, func(a *args, n int) { a.office = n }))
}

func claimDefects() []defect {
	return append([]defect{
		is("a Least below 0", api.ErrArg, func(a *args) { a.p.Least = -1 }),
		is("a Part above 1000", api.ErrArg, func(a *args) { a.p.Part = 1001 }),
		is("a Most above MaxMoney", api.ErrArg, func(a *args) { a.p.Most = money + 1 }),
		is("too many losses", api.ErrLimit, func(a *args) { a.losses = append(a.losses, make([]int, api.MaxLosses)...) }),
	}, outOfRange("a loss", 0, money, func(a *args, n int) { a.losses = append(list(n), a.losses[min(1, len(a.losses)):]...) })...)
}

// call has run, and zero tells whether all results beside the error are zero values.
type call struct {
	name    string
	run     func(args) (zero bool, e api.Errno)
	defects []defect
}

func calls() []call {
	return []call{
		{"CheckTill", func(a args) (bool, api.Errno) { return true, purse.CheckTill(a.t) }, tillDefects()},
		{"Change", func(a args) (bool, api.Errno) {
			l, e := purse.Change(a.t, a.amount)
			return len(l) == 0, e
		}, slices.Concat(tillDefects(), outOfRange("amount", 0, api.MaxChange, func(a *args, n int) { a.amount = n }),
			[]defect{is("an amount that cannot be given", api.ErrNone, func(a *args) { a.t.Counts[2] = 0; a.amount = 12 })})},
		{"Gap", func(a args) (bool, api.Errno) {
			gap, e := purse.Gap(a.t)
			return gap == 0, e
		}, tillDefects()},
		{"Begin", func(a args) (bool, api.Errno) {
			l, e := purse.Begin(a.windows, a.office)
			return isZero(l), e
		}, beginDefects()},
		{"CheckLedger", func(a args) (bool, api.Errno) { return true, purse.CheckLedger(a.l) }, ledgerDefects()},
		{"Do", func(a args) (bool, api.Errno) {
			l, e := purse.Do(a.l, a.a)
			return isZero(l), e
		}, append(ledgerDefects(),
			is("no kind", api.ErrArg, func(a *args) { a.a.Kind = 0 }),
			is("no window", api.ErrRange, func(a *args) { a.a.Window = 3 }),
			is("a seal that is there", api.ErrTwice, func(a *args) { a.a.Seal = 10 }),
			is("too much", api.ErrNone, func(a *args) { a.a.Amount = money }))},
		{"Run", func(a args) (bool, api.Errno) {
			l, errors, e := purse.Run(a.l, a.acts)
			return isZero(l) && len(errors) == 0, e
		}, append(ledgerDefects(), is("too many acts", api.ErrLimit, func(a *args) { a.acts = make([]purse.Act, api.MaxEntries+1) }))},
		{"Total", func(a args) (bool, api.Errno) {
			total, e := purse.Total(a.l)
			return total == 0, e
		}, ledgerDefects()},
		{"Missing", func(a args) (bool, api.Errno) {
			less, bags, e := purse.Missing(a.l, a.window)
			return less == 0 && bags == 0, e
		}, append(ledgerDefects(), outOfRange("window", 0, 2, func(a *args, n int) { a.window = n })...)},
		{"Settle", func(a args) (bool, api.Errno) {
			p, e := purse.Settle(a.w)
			return samePay(p, purse.Pay{}), e
		}, weekDefects()},
		{"Claims", func(a args) (bool, api.Errno) {
			l, e := purse.Claims(a.p, a.losses)
			return len(l) == 0, e
		}, claimDefects()},
	}
}

// Rules R1 and R2, P9.1 to P9.6: each call gets each of its defects alone, and with all those that are examined later.
func TestErrors(t *testing.T) {
	for _, x := range calls() {
		if zero, e := x.run(goodArgs()); e != api.OK || zero != strings.HasPrefix(x.name, "Check") {
			t.Error(x.name, "without defects:", zero, e)
		}
		for i, f := range x.defects {
			alone, late := goodArgs(), goodArgs()
			f.spoil(&alone)
			for k := len(x.defects) - 1; k >= i; k-- {
				if x.defects[k].want != f.want || k == i {
					x.defects[k].spoil(&late)
				}
			}
			for _, a := range []args{alone, late} {
				if zero, e := x.run(a); e != f.want || !zero {
					t.Error(x.name, f.name, e, zero)
				}
			}
		}
	}
}

func callAll(a args) {
	for _, x := range calls() {
		x.run(a)
	}
}

func sameArgs(a, b args) bool {
	return sameTill(a.t, b.t) && sameLedger(a.l, b.l) && sameWeek(a.w, b.w) && a.p == b.p && a.a == b.a &&
		slices.Equal(a.windows, b.windows) && slices.Equal(a.losses, b.losses) && slices.Equal(a.acts, b.acts)
}

// room returns the list with room behind its end, which is 0.
func room[T any](l []T) []T { return append(make([]T, 0, len(l)+9), l...) }

// isEmpty reports whether nothing was written behind the end.
func isEmpty[T comparable](l []T) bool {
	var zero T
	for _, x := range l[len(l):cap(l)] {
		if x != zero {
			return false
		}
	}
	return true
}

// scribble writes over a list, and behind its end.
func scribble[T any](l []T, x T) {
	for i := range l[:cap(l)] {
		l[:cap(l)][i] = x
	}
}

func scribbleLedger(l purse.Ledger) {
	scribble(l.Windows, 77)
	scribble(l.Bags, purse.Bag{Seal: 77})
	scribble(l.Diffs, purse.Diff{Bag: 77})
}

// Rule R4: no call changes an argument, nor writes behind the end of its lists.
func TestArgumentsStayTheSame(t *testing.T) {
	a, good := goodArgs(), goodArgs()
	a.t.Values, a.t.Counts = room(a.t.Values), room(a.t.Counts)
	a.l.Windows, a.l.Bags, a.l.Diffs = room(a.l.Windows), room(a.l.Bags), room(a.l.Diffs)
	a.w.Countries, a.w.Contracts = room(a.w.Countries), room(a.w.Contracts)
	a.windows, a.losses, a.acts = room(a.windows), room(a.losses), room(a.acts)
	callAll(a)
	for _, act := range append(acts(purse.Act{Kind: purse.Touch, Bag: 1, Seal: 17, Amount: 5}, purse.Act{Kind: purse.Open, Bag: 1}), exampleActs()...) {
		purse.Do(a.l, act)
		purse.Run(a.l, acts(act, act))
	}
	if !sameArgs(a, good) {
		t.Error("arguments changed:", a)
	}
	if !isEmpty(a.t.Values) || !isEmpty(a.t.Counts) || !isEmpty(a.l.Windows) || !isEmpty(a.l.Bags) || !isEmpty(a.l.Diffs) ||
		!isEmpty(a.w.Countries) || !isEmpty(a.w.Contracts) || !isEmpty(a.windows) || !isEmpty(a.losses) || !isEmpty(a.acts) {
		t.Error("something was written behind the end of a list")
	}
}

// Rule R4: ledgers share no memory with arguments, or with each other.
func TestLedgersAreNew(t *testing.T) {
	a, good := goodArgs(), goodArgs()
	a.l.Windows, a.l.Bags, a.l.Diffs = room(a.l.Windows), room(a.l.Bags), room(a.l.Diffs)
	ledgers := []purse.Ledger{begun(t, a.windows, 5), begun(t, a.windows, 5), done(t, a.l), done(t, a.l), done(t, a.l, a.a), done(t, a.l, a.a)}
	for _, act := range acts(a.a, a.a, purse.Act{Kind: purse.Open}, purse.Act{Kind: purse.Open}, purse.Act{Kind: purse.Open, Bag: 1},
		purse.Act{Kind: purse.Touch, Bag: 1, Seal: 17}, purse.Act{Kind: purse.Deposit, Amount: 1}, purse.Act{Kind: purse.Float, Amount: 1}) {
		l, e := purse.Do(a.l, act)
		if e != api.OK {
			t.Error(act, e)
		}
		ledgers = append(ledgers, l)
	}
	refused, _, _ := purse.Run(a.l, acts(purse.Act{}))
	ledgers = append(ledgers, refused)
	for i, l := range ledgers {
		var others []purse.Ledger
		for _, other := range ledgers[i+1:] {
			others = append(others, copyLedger(other))
		}
		scribbleLedger(l)
		if !slices.EqualFunc(others, ledgers[i+1:], sameLedger) {
			t.Error("ledgers share memory:", i)
		}
	}
	if !sameArgs(a, good) {
		t.Error("a ledger shares memory with an argument")
	}
}

// Rule R4: nor do other results.
func TestListsAreNew(t *testing.T) {
	a, good := goodArgs(), goodArgs()
	way, _ := purse.Change(a.t, 8)
	claims, _ := purse.Claims(a.p, a.losses)
	_, errors, _ := purse.Run(a.l, a.acts)
	scribble(way, 77)
	scribble(claims, 77)
	scribble(errors, 77)
	p, _ := purse.Settle(a.w)
	lists := [][]int{p.Gross, p.Taxes, p.Paid, p.Short, p.Extra}
	for i, l := range lists {
		var others [][]int
		for _, other := range lists[i+1:] {
			others = append(others, slices.Clone(other))
		}
		scribble(l, 77)
		if !slices.EqualFunc(others, lists[i+1:], slices.Equal) {
			t.Error("lists of a Pay share memory:", i)
		}
	}
	if !sameArgs(a, good) {
		t.Error("a result shares memory with an argument")
	}
	checkChange(t, a.t, 8, list(0, 2, 0))
	checkClaims(t, a.p, a.losses, 0, 160, 340)
}

// The same arguments give the same results, whatever was called before.
func TestNoHiddenState(t *testing.T) {
	d := newDice(12)
	for range 200 {
		l, w, p, losses, x := d.ledger(), d.week(), d.policy(), d.losses(), d.till(4, 12, 4)
		all := make([]purse.Act, 30)
		for i := range all {
			all[i] = d.act(l)
		}
		n, errors, e := purse.Run(l, all)
		pay, _ := purse.Settle(w)
		claims, _ := purse.Claims(p, losses)
		way, f := purse.Change(x, 12)
		callAll(goodArgs())
		m, errorsAgain, g := purse.Run(copyLedger(l), slices.Clone(all))
		payAgain, _ := purse.Settle(copyWeek(w))
		claimsAgain, _ := purse.Claims(p, slices.Clone(losses))
		wayAgain, h := purse.Change(copyTill(x), 12)
		if !sameLedger(n, m) || !slices.Equal(errors, errorsAgain) || e != g || !samePay(pay, payAgain) || !slices.Equal(claims, claimsAgain) || !slices.Equal(way, wayAgain) || f != h {
			t.Error(l, all, w, p, losses, x)
		}
	}
}

// Rule R3: nil lists and empty ones are the same.
func TestEmptyLists(t *testing.T) {
	l := begun(t, list(5), 5)
	l.Bags, l.Diffs = []purse.Bag{}, []purse.Diff{}
	accepts(t, "empty lists", l)
	if n, e := purse.Do(l, purse.Act{Kind: purse.Deposit, Amount: 5}); e != api.OK || n.Bank != 5 {
		t.Error("Do:", n, e)
	}
	w := plainWeek(7, 3)
	w.Contracts = []purse.Contract{}
	checkSettle(t, w, purse.Pay{Gross: list(7), Taxes: list(0), Premium: 3, Rest: 4})
}

// P1: any arguments; a panic would end the test.
func TestAnyArguments(t *testing.T) {
	d := newDice(13)
	for range 5000 {
		a := goodArgs()
		for range d.from(0, 4) {
			d.spoil(&a)
		}
		callAll(a)
	}
	callAll(args{})
	huge := slices.Repeat(list(1), 100000)
	callAll(args{t: till(huge, huge...), l: purse.Ledger{Windows: huge}, windows: huge, losses: huge})
}

// shorter returns some of the first elements, and maybe one more.
func shorter[T any](d dice, l []T, more T) []T {
	l = slices.Clone(l[:d.Intn(len(l)+1)])
	if d.Intn(2) == 0 {
		l = append(l, more)
	}
	return l
}

// spoil sets something to some number.
func (d dice) spoil(a *args) {
	number := func() int {
		return d.one(lowest, lowest+1, -1<<32, -2, -1, 0, 1, 2, 3, 4, 5, 6, 7, 8, 9, 10, 17, 50, 51, 100, 101, 255, 1000, 1001, 5000, money-1, money, money+1, 1<<62, highest-1, highest)
	}
	switch d.Intn(13) {
	case 0:
		a.amount, a.office, a.window = number(), number(), number()
	case 1:
		a.t.Values = shorter(d, a.t.Values, number())
	case 2:
		a.t.Counts = shorter(d, a.t.Counts, number())
	case 3:
		a.windows = shorter(d, a.windows, number())
	case 4:
		a.losses = shorter(d, a.losses, number())
	case 5:
		a.l.Windows = shorter(d, a.l.Windows, number())
	case 6:
		a.l.Bags = shorter(d, a.l.Bags, purse.Bag{Window: number(), Seal: number(), Written: number(), Holds: number(), Now: number(), Opened: d.Intn(2) == 0})
	case 7:
		a.l.Diffs = shorter(d, a.l.Diffs, purse.Diff{Bag: number(), Less: number(), Broken: d.Intn(2) == 0})
	case 8:
		a.l.Office, a.l.Bank, a.l.Begun, a.l.In, a.l.Out = number(), number(), number(), number(), number()
	case 9:
		a.a = purse.Act{Kind: uint8(number()), Window: number(), Bag: number(), Seal: number(), Amount: number(), Written: number()}
		a.acts = append(a.acts, a.a, purse.Act{Kind: uint8(d.from(0, 9)), Window: number(), Bag: number(), Seal: number(), Amount: number(), Written: number()})
	case 10:
		a.w.Countries = shorter(d, a.w.Countries, purse.Country{Takings: number(), Num: number(), Den: number(), Tax: number()})
	case 11:
		a.w.Contracts = shorter(d, a.w.Contracts, purse.Contract{Rank: number(), Wage: number(), Share: number()})
		a.w.Premium = number()
	case 12:
		a.p = purse.Policy{Least: number(), Part: number(), Most: number()}
	}
}
