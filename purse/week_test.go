package purse_test

import (
	"math/big"
	"slices"
	"testing"

	"bigtop/api"
	"bigtop/purse"
)

func total(l []int) (sum int) {
	for _, n := range l {
		sum += n
	}
	return sum
}

// part is n times num, divided by den, rounded down.
func part(n, num, den int) int {
	x := new(big.Int).Mul(big.NewInt(int64(n)), big.NewInt(int64(num)))
	return int(x.Div(x, big.NewInt(int64(den))).Int64())
}

// settleBy pays one after the other: of all that are not paid yet, the first one with the least rank.
func settleBy(w purse.Week) (p purse.Pay) {
	left := 0
	for _, c := range w.Countries {
		gross := part(c.Takings, c.Num, c.Den)
		kept := part(gross, 1000-c.Tax, 1000)
		p.Gross, p.Taxes = append(p.Gross, gross), append(p.Taxes, gross-kept)
		left += kept
	}
	p.Premium = min(w.Premium, left)
	p.Lacks = w.Premium - p.Premium
	left -= p.Premium
	count := len(w.Contracts)
	p.Paid, p.Short, p.Extra = make([]int, count), make([]int, count), make([]int, count)
	paid := make([]bool, count)
	for range count {
		next := -1
		for i, c := range w.Contracts {
			if !paid[i] && (next < 0 || c.Rank < w.Contracts[next].Rank) {
				next = i
			}
		}
		paid[next] = true
		p.Paid[next] = min(w.Contracts[next].Wage, left)
		p.Short[next] = w.Contracts[next].Wage - p.Paid[next]
		left -= p.Paid[next]
	}
	p.Rest = left
	for i, c := range w.Contracts {
		p.Extra[i] = part(left, c.Share, 1000)
		p.Rest -= p.Extra[i]
	}
	return p
}

func checkSettle(t *testing.T, w purse.Week, want purse.Pay) {
	t.Helper()
	if p, e := purse.Settle(w); !samePay(p, want) || e != api.OK {
		t.Error("Settle", w, p, e, "not", want)
	}
	if p := settleBy(w); !samePay(p, want) {
		t.Error("the model:", w, p)
	}
}

func refusesWeek(t *testing.T, name string, w purse.Week) {
	t.Helper()
	if p, e := purse.Settle(w); !samePay(p, purse.Pay{}) || e != api.ErrArg {
		t.Error(name, w, p, e)
	}
}

// exampleWeek is that of the chapter.
func exampleWeek() purse.Week {
	return purse.Week{
		Countries: []purse.Country{{Takings: 1000, Num: 3, Den: 2, Tax: 100}, {Takings: 301, Num: 1, Den: 3, Tax: 50}},
		Premium:   90,
		Contracts: []purse.Contract{{Rank: 1, Wage: 500, Share: 300}, {Rank: 0, Wage: 800}},
	}
}

// with is the chapter's week after a change.
func with(change func(*purse.Week)) purse.Week {
	w := exampleWeek()
	change(&w)
	return w
}

// P9.5: the chapter's examples.
func TestSettleExamples(t *testing.T) {
	checkSettle(t, exampleWeek(), purse.Pay{Gross: list(1500, 100), Taxes: list(150, 5), Premium: 90, Paid: list(500, 800), Short: list(0, 0), Extra: list(16, 0), Rest: 39})
	w := with(func(w *purse.Week) { w.Contracts[1].Wage = 1000 })
	checkSettle(t, w, purse.Pay{Gross: list(1500, 100), Taxes: list(150, 5), Premium: 90, Paid: list(355, 1000), Short: list(145, 0), Extra: list(0, 0)})
}

// P9.5: gross is rounded down, and taxes are rounded up.
func TestTaxes(t *testing.T) {
	for _, x := range []struct {
		country      purse.Country
		gross, taxes int
	}{
		{purse.Country{Takings: 0, Num: 1, Den: 1, Tax: 1000}, 0, 0},
		{purse.Country{Takings: 1, Num: 1, Den: 1, Tax: 1}, 1, 1},
		{purse.Country{Takings: 1, Num: 1, Den: 2, Tax: 1}, 0, 0},
		{purse.Country{Takings: 5, Num: 2, Den: 3, Tax: 0}, 3, 0},
		{purse.Country{Takings: 705, Num: 2, Den: 3, Tax: 101}, 470, 48},
		{purse.Country{Takings: 299, Num: 1, Den: 3, Tax: 1000}, 99, 99},
		{purse.Country{Takings: 300, Num: 1, Den: 3, Tax: 500}, 100, 50},
		{purse.Country{Takings: 301, Num: 1, Den: 3, Tax: 505}, 100, 51},
		{purse.Country{Takings: 1000, Num: 1, Den: 1, Tax: 1}, 1000, 1},
		{purse.Country{Takings: 1001, Num: 1, Den: 1, Tax: 1}, 1001, 2},
		{purse.Country{Takings: 1999, Num: 1, Den: 1, Tax: 999}, 1999, 1998},
		{purse.Country{Takings: 2999, Num: 1, Den: 1000, Tax: 10}, 2, 1},
		{purse.Country{Takings: 999, Num: 1, Den: 1000, Tax: 10}, 0, 0},
		{purse.Country{Takings: 7, Num: 1000, Den: 999, Tax: 10}, 7, 1},
		{purse.Country{Takings: 3, Num: 1000, Den: 1, Tax: 10}, 3000, 30},
		{purse.Country{Takings: money, Num: 1000, Den: 1, Tax: 1000}, 1000 * money, 1000 * money},
		{purse.Country{Takings: money, Num: 1000, Den: 1, Tax: 999}, 1000 * money, 999 * money},
		{purse.Country{Takings: money, Num: 1, Den: 1000, Tax: 0}, money / 1000, 0},
		{purse.Country{Takings: money - 1, Num: 1000, Den: 999, Tax: 1}, 1001001001000, 1001001001},
	} {
		w := purse.Week{Countries: []purse.Country{x.country}}
		checkSettle(t, w, purse.Pay{Gross: list(x.gross), Taxes: list(x.taxes), Rest: x.gross - x.taxes})
	}
}

// plainWeek takes in so much in one country without taxes.
func plainWeek(takings, premium int, contracts ...purse.Contract) purse.Week {
	return purse.Week{Countries: []purse.Country{{Takings: takings, Num: 1, Den: 1}}, Premium: premium, Contracts: contracts}
}

// P9.5, P9.11: a premium that is not covered, just covered, and more than covered.
func TestPremium(t *testing.T) {
	for _, x := range []struct{ takings, premium, lacks, wage, short, extra, rest int }{
		{0, 0, 100, 0, 10, 0, 0},
		{99, 99, 1, 0, 10, 0, 0},
		{100, 100, 0, 0, 10, 0, 0},
		{101, 100, 0, 1, 9, 0, 0},
		{109, 100, 0, 9, 1, 0, 0},
		{110, 100, 0, 10, 0, 0, 0},
		{111, 100, 0, 10, 0, 0, 1},
		{112, 100, 0, 10, 0, 1, 1},
	} {
		w := plainWeek(x.takings, 100, purse.Contract{Wage: 10, Share: 500})
		checkSettle(t, w, purse.Pay{Gross: list(x.takings), Taxes: list(0), Premium: x.premium, Lacks: x.lacks, Paid: list(x.wage), Short: list(x.short), Extra: list(x.extra), Rest: x.rest})
	}
	checkSettle(t, plainWeek(5, 0), purse.Pay{Gross: list(5), Taxes: list(0), Rest: 5})
	checkSettle(t, plainWeek(5, money), purse.Pay{Gross: list(5), Taxes: list(0), Premium: 5, Lacks: money - 5})
	checkSettle(t, plainWeek(money, money), purse.Pay{Gross: list(money), Taxes: list(0), Premium: money})
}

// P9.5, P9.11: wages by rising rank, and those of a rank by their place; they are short at each place.
func TestWages(t *testing.T) {
	contracts := []purse.Contract{{Rank: 5, Wage: 10}, {Rank: 2, Wage: 20}, {Rank: 5, Wage: 30}, {Rank: 0, Wage: 40}, {Rank: 2, Wage: 50}, {Rank: 100, Wage: 60}, {Rank: 2, Wage: 70, Share: 1000}}
	order := list(3, 1, 4, 6, 0, 2, 5)
	for takings := range 300 {
		want := purse.Pay{Gross: list(takings), Taxes: list(0), Paid: make([]int, 7), Short: make([]int, 7), Extra: make([]int, 7)}
		left := takings
		for _, i := range order {
			want.Paid[i] = min(contracts[i].Wage, left)
			want.Short[i] = contracts[i].Wage - want.Paid[i]
			left -= want.Paid[i]
		}
		want.Extra[6] = left
		checkSettle(t, plainWeek(takings, 0, contracts...), want)
	}
	equal := slices.Repeat([]purse.Contract{{Rank: 7, Wage: 10}}, 3)
	checkSettle(t, plainWeek(15, 0, equal...), purse.Pay{Gross: list(15), Taxes: list(0), Paid: list(10, 5, 0), Short: list(0, 5, 10), Extra: list(0, 0, 0)})
	many := slices.Repeat([]purse.Contract{{Rank: 1, Wage: 10}, {Rank: 0, Wage: 10}}, api.MaxContracts/2)
	paid := slices.Repeat(list(0, 10), api.MaxContracts/2)
	paid[0], paid[2] = 10, 5
	short := slices.Repeat(list(10, 0), api.MaxContracts/2)
	short[0], short[2] = 0, 5
	checkSettle(t, plainWeek(115, 0, many...), purse.Pay{Gross: list(115), Taxes: list(0), Paid: paid, Short: short, Extra: make([]int, api.MaxContracts)})
}

// P9.5: each contract gets its share of what is left behind all wages, rounded down; the rest stays.
func TestExtras(t *testing.T) {
	contract := func(share int) purse.Contract { return purse.Contract{Wage: 10, Share: share} }
	w := plainWeek(130, 0, contract(333), contract(333), contract(334))
	checkSettle(t, w, purse.Pay{Gross: list(130), Taxes: list(0), Paid: list(10, 10, 10), Short: list(0, 0, 0), Extra: list(33, 33, 33), Rest: 1})
	w = plainWeek(120, 0, contract(1000), contract(0))
	checkSettle(t, w, purse.Pay{Gross: list(120), Taxes: list(0), Paid: list(10, 10), Short: list(0, 0), Extra: list(100, 0)})
	w = plainWeek(120, 0, contract(1), contract(9))
	checkSettle(t, w, purse.Pay{Gross: list(120), Taxes: list(0), Paid: list(10, 10), Short: list(0, 0), Extra: list(0, 0), Rest: 100})
	w = plainWeek(1019, 0, contract(1), contract(1))
	checkSettle(t, w, purse.Pay{Gross: list(1019), Taxes: list(0), Paid: list(10, 10), Short: list(0, 0), Extra: list(0, 0), Rest: 999})
	w = plainWeek(1020, 0, contract(1), contract(999))
	checkSettle(t, w, purse.Pay{Gross: list(1020), Taxes: list(0), Paid: list(10, 10), Short: list(0, 0), Extra: list(1, 999)})
}

// P9.5, R5: everything at its greatest.
func TestGreatWeek(t *testing.T) {
	country := purse.Country{Takings: money, Num: api.MaxRate, Den: 1}
	w := purse.Week{Countries: slices.Repeat([]purse.Country{country}, api.MaxCountries), Contracts: []purse.Contract{{Share: 1000}}}
	gross := slices.Repeat(list(1000*money), api.MaxCountries)
	checkSettle(t, w, purse.Pay{Gross: gross, Taxes: make([]int, api.MaxCountries), Paid: list(0), Short: list(0), Extra: list(8000 * money)})
	w.Premium = money
	w.Contracts = slices.Repeat([]purse.Contract{{Rank: 100, Wage: money, Share: 50}}, api.MaxContracts)
	checkSettle(t, w, purse.Pay{
		Gross: gross, Taxes: make([]int, api.MaxCountries), Premium: money, Paid: slices.Repeat(list(money), api.MaxContracts),
		Short: make([]int, api.MaxContracts), Extra: slices.Repeat(list(7979*money/20), api.MaxContracts),
	})
}

// P9.5: which weeks are valid.
func TestWeeksThatAreNotValid(t *testing.T) {
	refusesWeek(t, "nothing", purse.Week{})
	refusesWeek(t, "no country", with(func(w *purse.Week) { w.Countries = []purse.Country{} }))
	country, contract := purse.Country{Num: 1, Den: 1}, purse.Contract{}
	refusesWeek(t, "one more country", with(func(w *purse.Week) { w.Countries = slices.Repeat([]purse.Country{country}, api.MaxCountries+1) }))
	refusesWeek(t, "one more contract", with(func(w *purse.Week) { w.Contracts = slices.Repeat([]purse.Contract{contract}, api.MaxContracts+1) }))
	numbers := []struct {
		name   string
		lo, hi int
		place  func(*purse.Week) *int
	}{
		{"Takings", 0, money, func(w *purse.Week) *int { return &w.Countries[0].Takings }},
		{"Num", 1, api.MaxRate, func(w *purse.Week) *int { return &w.Countries[0].Num }},
		{"Den", 1, api.MaxRate, func(w *purse.Week) *int { return &w.Countries[0].Den }},
		{"Tax", 0, 1000, func(w *purse.Week) *int { return &w.Countries[0].Tax }},
		{"Takings of the last one", 0, money, func(w *purse.Week) *int { return &w.Countries[1].Takings }},
		{"Num of the last one", 1, api.MaxRate, func(w *purse.Week) *int { return &w.Countries[1].Num }},
		{"Den of the last one", 1, api.MaxRate, func(w *purse.Week) *int { return &w.Countries[1].Den }},
		{"Tax of the last one", 0, 1000, func(w *purse.Week) *int { return &w.Countries[1].Tax }},
		{"Premium", 0, money, func(w *purse.Week) *int { return &w.Premium }},
		{"Rank", 0, 100, func(w *purse.Week) *int { return &w.Contracts[0].Rank }},
		{"Wage", 0, money, func(w *purse.Week) *int { return &w.Contracts[0].Wage }},
		{"Share", 0, 1000, func(w *purse.Week) *int { return &w.Contracts[0].Share }},
		{"Rank of the last one", 0, 100, func(w *purse.Week) *int { return &w.Contracts[1].Rank }},
		{"Wage of the last one", 0, money, func(w *purse.Week) *int { return &w.Contracts[1].Wage }},
		{"Share of the last one", 0, 700, func(w *purse.Week) *int { return &w.Contracts[1].Share }},
	}
	for _, x := range numbers {
		for _, n := range list(x.lo, x.lo+1, x.hi-1, x.hi) {
			w := with(func(w *purse.Week) { *x.place(w) = n })
			checkSettle(t, w, settleBy(w))
		}
		for _, n := range beyond(x.lo, x.hi) {
			refusesWeek(t, x.name, with(func(w *purse.Week) { *x.place(w) = n }))
		}
	}
}

// P9.5: shares are together 1000, and not one more, nor below 0 in between.
func TestShares(t *testing.T) {
	shares := func(l ...int) (w purse.Week) {
		w = plainWeek(100, 0)
		for _, n := range l {
			w.Contracts = append(w.Contracts, purse.Contract{Share: n})
		}
		return w
	}
	for _, l := range [][]int{{1000}, {1000, 0}, {0, 1000}, {999, 1}, {300, 300, 400}, slices.Repeat(list(50), 20)} {
		checkSettle(t, shares(l...), settleBy(shares(l...)))
	}
	for _, l := range [][]int{{1001}, {1000, 1}, {1, 1000}, {999, 2}, {300, 300, 401}, {1001, -1}, {-1, 1001}, {-1}, {highest, highest, 2}, {lowest, lowest}, slices.Repeat(list(51), 20), slices.Repeat(list(1000), 20)} {
		refusesWeek(t, "shares", shares(l...))
	}
}

// P9.5, P9.10, P9.11: weeks of all kinds, against the model, and against what is said of them.
func TestWeeksAgainstTheModel(t *testing.T) {
	d := newDice(9)
	shorts, rests := 0, 0
	for range 20000 {
		w := d.week()
		p, e := purse.Settle(w)
		if !samePay(p, settleBy(w)) || e != api.OK {
			t.Fatal(w, p, e)
		}
		out := total(p.Taxes) + p.Premium + total(p.Paid) + total(p.Extra) + p.Rest
		if out != total(p.Gross) || slices.Min(slices.Concat(p.Gross, p.Taxes, p.Paid, p.Short, p.Extra, list(p.Premium, p.Lacks, p.Rest))) < 0 {
			t.Error("not all is paid out:", w, p)
		}
		checkRanks(t, w, p)
		if total(p.Short) > 0 {
			shorts++
		} else if p.Rest > 0 {
			rests++
		}
	}
	if shorts < 2000 || rests < 2000 {
		t.Error("weeks that are short, and that are not:", shorts, rests)
	}
}

// checkRanks asks whether anything is paid behind what is short.
func checkRanks(t *testing.T, w purse.Week, p purse.Pay) {
	t.Helper()
	isLater := func(i, k int) bool {
		a, b := w.Contracts[i].Rank, w.Contracts[k].Rank
		return a > b || a == b && i > k
	}
	for k, short := range p.Short {
		for i, paid := range p.Paid {
			if short > 0 && isLater(i, k) && paid > 0 {
				t.Error("paid behind what is short:", w, p)
			}
		}
	}
	if p.Lacks > 0 && total(p.Paid) > 0 || p.Lacks+total(p.Short) > 0 && total(p.Extra)+p.Rest > 0 {
		t.Error("paid although something is short:", w, p)
	}
	for i, c := range w.Contracts {
		if p.Paid[i]+p.Short[i] != c.Wage {
			t.Error("paid and short:", w, p)
		}
	}
	if p.Premium+p.Lacks != w.Premium {
		t.Error("premium and what it lacks:", w, p)
	}
}

// P9.12: with more takings nobody is paid less; with a contract more at the end nobody's wage is less.
func TestMoreTakings(t *testing.T) {
	d := newDice(10)
	noLess := func(after, before []int) bool {
		for i, n := range before {
			if after[i] < n {
				return false
			}
		}
		return true
	}
	for range 5000 {
		w := d.week()
		p, _ := purse.Settle(w)
		more := copyWeek(w)
		more.Countries[d.Intn(len(w.Countries))].Takings += d.one(1, 2, d.from(1, 999))
		q, e := purse.Settle(more)
		if !noLess(q.Paid, p.Paid) || !noLess(q.Extra, p.Extra) || q.Premium < p.Premium || e != api.OK {
			t.Error("more takings:", w, more, p, q, e)
		}
		more = copyWeek(w)
		rank := d.one(3, 100)
		more.Contracts = append(more.Contracts, purse.Contract{Rank: rank, Wage: d.from(0, 999)})
		q, e = purse.Settle(more)
		if !noLess(q.Paid, p.Paid) || len(q.Paid) != len(p.Paid)+1 || q.Premium != p.Premium || e != api.OK {
			t.Error("one contract more:", w, more, p, q, e)
		}
	}
}
