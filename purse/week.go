package purse

import (
	"slices"

	"bigtop/api"
)

// pot is what is left of an amount from which one after the other is paid.
type pot struct{ left int }

// cut pays as much as there still is.
func (p *pot) cut(amount int) int {
	paid := min(amount, p.left)
	p.left -= paid
	return paid
}

func (c Country) valid() bool {
	return isAmount(c.Takings) && isRate(c.Num) && isRate(c.Den) && isPart(c.Tax)
}

func (c Country) gross() int { return c.Takings * c.Num / c.Den }

func (c Country) taxes() int { return (c.gross()*c.Tax + whole - 1) / whole }

func (c Contract) valid() bool { return within(c.Rank, 0, 100) && isAmount(c.Wage) && isPart(c.Share) }

func (c Contract) rank() int { return c.Rank }

func (c Contract) wage() int { return c.Wage }

func (c Contract) share() int { return c.Share }

func (w Week) valid() bool {
	return within(len(w.Countries), 1, api.MaxCountries) && every(w.Countries, Country.valid) && isAmount(w.Premium) &&
		len(w.Contracts) <= api.MaxContracts && every(w.Contracts, Contract.valid) &&
		isPart(sum(each(w.Contracts, Contract.share)...))
}

// places has the indexes of the elements, by rising ranks, those with the same one in the order of the list.
func places[T any](l []T, rank func(T) int) []int {
	out := make([]int, len(l))
	for i := range out {
		out[i] = i
	}
	slices.SortStableFunc(out, func(i, j int) int { return rank(l[i]) - rank(l[j]) })
	return out
}

func (w Week) pay() Pay {
	p := Pay{Gross: each(w.Countries, Country.gross), Taxes: each(w.Countries, Country.taxes)}
	rest := pot{sum(p.Gross...) - sum(p.Taxes...)}
	p.Premium = rest.cut(w.Premium)
	p.Lacks = w.Premium - p.Premium
	p.Paid, p.Short = w.wages(rest.cut)
	p.Extra = each(w.Contracts, func(c Contract) int { return rest.left * c.Share / whole })
	p.Rest = rest.left - sum(p.Extra...)
	return p
}

// wages are paid by cut, which tells how much of an amount there still is.
func (w Week) wages(cut func(int) int) (paid, short []int) {
	paid, short = make([]int, len(w.Contracts)), each(w.Contracts, Contract.wage)
	for _, i := range places(w.Contracts, Contract.rank) {
		paid[i] = cut(w.Contracts[i].Wage)
		short[i] -= paid[i]
	}
	return paid, short
}

func (p Policy) valid() bool { return isAmount(p.Least) && isPart(p.Part) && isAmount(p.Most) }

// share is what is paid for a loss as long as there is enough.
func (p Policy) share(loss int) int { return max(loss-p.Least, 0) * p.Part / whole }

func (p Policy) pay(losses []int) []int {
	rest := pot{p.Most}
	return each(each(losses, p.share), rest.cut)
}
