package purse_test

import (
	"slices"
	"testing"

	"bigtop/api"
	"bigtop/purse"
)

// claimsBy pays the losses one after the other.
func claimsBy(p purse.Policy, losses []int) (l []int) {
	for _, loss := range losses {
		pays := 0
		if loss > p.Least {
			pays = part(loss-p.Least, p.Part, 1000)
		}
		l = append(l, min(pays, p.Most-total(l)))
	}
	return l
}

func checkClaims(t *testing.T, p purse.Policy, losses []int, want ...int) {
	t.Helper()
	if l, e := purse.Claims(p, losses); !slices.Equal(l, want) || e != api.OK {
		t.Error("Claims", p, losses, l, e, "not", want)
	}
	if l := claimsBy(p, losses); !slices.Equal(l, want) {
		t.Error("the model:", p, losses, l)
	}
}

// P9.6: the chapter's example.
func TestClaimsExample(t *testing.T) {
	checkClaims(t, purse.Policy{Least: 100, Part: 800, Most: 500}, list(50, 300, 600), 0, 160, 340)
}

// P9.6: losses at Least and around it, and payments that are rounded down.
func TestLeast(t *testing.T) {
	p := purse.Policy{Least: 100, Part: 1000, Most: money}
	checkClaims(t, p, list(0, 1, 99, 100, 101, 102, money), 0, 0, 0, 0, 1, 2, money-100)
	checkClaims(t, p, list(money, 101), money-100, 1)
	checkClaims(t, purse.Policy{Least: 100, Part: 1000, Most: 0}, list(100, 101, money), 0, 0, 0)
	checkClaims(t, purse.Policy{Least: 0, Part: 333, Most: money}, list(0, 1, 3, 4, 999, 1000, 1001), 0, 0, 0, 1, 332, 333, 333)
	checkClaims(t, purse.Policy{Least: 10, Part: 999, Most: money}, list(10, 11, 12, 1010, 1011), 0, 0, 1, 999, 999)
	checkClaims(t, purse.Policy{Least: 10, Part: 1, Most: money}, list(10, 1009, 1010, 2009, 2010), 0, 0, 1, 1, 2)
	checkClaims(t, purse.Policy{Least: 5, Part: 0, Most: money}, list(5, 6, money), 0, 0, 0)
	checkClaims(t, purse.Policy{Least: money, Part: 1000, Most: money}, list(money-1, money), 0, 0)
	checkClaims(t, purse.Policy{Least: money - 1, Part: 1000, Most: money}, list(money-1, money), 0, 1)
	checkClaims(t, purse.Policy{Part: 1000, Most: money}, list(money, 1), money, 0)
	checkClaims(t, purse.Policy{Part: 999, Most: money}, list(money), 999*(money/1000))
}

// P9.6: what is paid for all losses together is cut to Most, and nothing is paid behind it.
func TestMost(t *testing.T) {
	losses := list(10, 40, 500, 20, 30)
	checkClaims(t, purse.Policy{Least: 10, Part: 333, Most: 100}, list(10, 40, 500, 20), 0, 9, 91, 0)
	for most := range 600 {
		p := purse.Policy{Part: 1000, Most: most}
		left := most
		var want []int
		for _, n := range losses {
			pays := min(n, left)
			left -= pays
			want = append(want, pays)
		}
		checkClaims(t, p, losses, want...)
	}
	checkClaims(t, purse.Policy{Part: 1000, Most: 99}, list(100, 100), 99, 0)
	checkClaims(t, purse.Policy{Part: 1000, Most: 100}, list(100, 100), 100, 0)
	checkClaims(t, purse.Policy{Part: 1000, Most: 101}, list(100, 100), 100, 1)
	checkClaims(t, purse.Policy{Part: 1000, Most: 105}, list(100, 0, 3, 9, 1), 100, 0, 3, 2, 0)
}

// P9.6: no loss, MaxLosses, and one more.
func TestNumberOfLosses(t *testing.T) {
	p := purse.Policy{Part: 1000, Most: money}
	checkClaims(t, p, nil)
	checkClaims(t, p, list())
	checkClaims(t, p, list(7), 7)
	checkClaims(t, p, slices.Repeat(list(7), api.MaxLosses), slices.Repeat(list(7), api.MaxLosses)...)
	for _, n := range list(api.MaxLosses+1, 1000) {
		for _, loss := range list(7, -1) {
			if l, e := purse.Claims(p, slices.Repeat(list(loss), n)); len(l) != 0 || e != api.ErrLimit {
				t.Error(n, loss, l, e)
			}
		}
	}
}

// P9.6: policies and losses at both ends of their ranges, and beyond.
func TestPolicies(t *testing.T) {
	good := purse.Policy{Least: 100, Part: 800, Most: 500}
	for _, x := range []struct {
		hi    int
		place func(*purse.Policy) *int
	}{
		{money, func(p *purse.Policy) *int { return &p.Least }},
		{1000, func(p *purse.Policy) *int { return &p.Part }},
		{money, func(p *purse.Policy) *int { return &p.Most }},
	} {
		for _, n := range list(0, 1, x.hi-1, x.hi) {
			p := good
			*x.place(&p) = n
			checkClaims(t, p, list(50, 300, 600), claimsBy(p, list(50, 300, 600))...)
		}
		for _, n := range beyond(0, x.hi) {
			p := good
			*x.place(&p) = n
			for _, losses := range [][]int{nil, {50, 300, 600}, {-1}, make([]int, api.MaxLosses+1)} {
				if l, e := purse.Claims(p, losses); len(l) != 0 || e != api.ErrArg {
					t.Error(p, losses, l, e)
				}
			}
		}
	}
	for _, n := range beyond(0, money) {
		for _, losses := range [][]int{{n}, {n, 300}, {300, n}, {300, n, 600}} {
			if l, e := purse.Claims(good, losses); len(l) != 0 || e != api.ErrRange {
				t.Error(losses, l, e)
			}
		}
	}
}

// sumsUpTo has what is paid for each loss and those before it.
func sumsUpTo(l []int) (sums []int) {
	for i := range l {
		sums = append(sums, total(l[:i+1]))
	}
	return sums
}

// P9.6, P9.13: policies and losses of all kinds, against the model; and policies with a greater Most, or a lesser Least.
func TestClaimsAgainstTheModel(t *testing.T) {
	d := newDice(11)
	for range 10000 {
		p, losses := d.policy(), d.losses()
		l, e := purse.Claims(p, losses)
		if !slices.Equal(l, claimsBy(p, losses)) || e != api.OK {
			t.Fatal(p, losses, l, e)
		}
		if total(l) > p.Most {
			t.Error("more than Most:", p, losses, l)
		}
		more, less := p, p
		more.Most = min(p.Most+d.from(0, 99), money)
		less.Least = d.from(0, p.Least)
		withMore, _ := purse.Claims(more, losses)
		withLess, _ := purse.Claims(less, losses)
		for i, n := range sumsUpTo(l) {
			if l[i] > losses[i] || l[i] < 0 {
				t.Error("a payment above its loss:", p, losses, l)
			}
			if sumsUpTo(withMore)[i] < n || sumsUpTo(withLess)[i] < n {
				t.Error("less is paid:", p, losses, l, withMore, withLess)
			}
		}
	}
}
