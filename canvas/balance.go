package canvas

import (
	"iter"

	"bigtop/api"
)

// set has the bit i for the guy i.
type set int

func (s set) has(guy int) bool { return s>>guy&1 == 1 }

// sets are all sets of that many guys.
func sets(guys int) iter.Seq[set] {
	return func(yield func(set) bool) {
		for s := range set(1) << guys {
			if !yield(s) {
				return
			}
		}
	}
}

// share is what two forces contribute to some other force, as parts of a whole.
type share struct{ first, second, whole int }

// split finds numbers with first f + second g = whole v; the whole is 0 if f and g are on one line.
func split(v, f, g Vector) share {
	s := share{v.cross(g), f.cross(v), f.cross(g)}
	if s.whole < 0 {
		return share{-s.first, -s.second, -s.whole}
	}
	return s
}

// allowed reports whether the numbers are from 0 to the whole, or 0 for what bears nothing.
func (s share) allowed(firstBears, secondBears bool) bool {
	return s.whole > 0 && inPart(s.first, s.whole, firstBears) && inPart(s.second, s.whole, secondBears)
}

func inPart(n, whole int, bears bool) bool {
	return n == 0 || bears && within(n, 0, whole)
}

// balance tries all corners of what the guys can do: where numbers balance a
// push, there are also some of which at most two, of forces on different
// lines, are neither 0 nor 1. Two more forces that bear nothing are added, so
// that there are always two on different lines. The whole is the area between
// two forces, which is at most MaxWhole.
func (m measured) balance(push Vector) (b Balance, found bool) {
	guys := len(m.forces)
	forces := append([]Vector{{1, 0}, {0, 1}}, m.forces...)
search:
	for full := range sets(guys) {
		rest := m.rest(push, full)
		for i, f := range forces {
			for k, g := range forces[:i] {
				first, second := i-2, k-2
				if first >= 0 && full.has(first) || second >= 0 && full.has(second) {
					continue
				}
				s := split(rest, f, g)
				if s.allowed(first >= 0, second >= 0) {
					b, found = s.balance(guys, full, first, second), true
					break search
				}
			}
		}
	}
	return b, found
}

// rest is what is left to the other guys if those of the set pull fully.
func (m measured) rest(push Vector, full set) Vector {
	l := []Vector{m.pushed(push)}
	for i, f := range m.forces {
		if full.has(i) {
			l = append(l, f)
		}
	}
	return sum(l...).times(-1)
}

// balance leaves out a first or second guy below 0, which stands for what bears nothing.
func (s share) balance(guys int, full set, first, second int) Balance {
	b := Balance{s.whole, make([]int, guys)}
	for i := range b.Parts {
		switch {
		case full.has(i):
			b.Parts[i] = s.whole
		case i == first:
			b.Parts[i] = s.first
		case i == second:
			b.Parts[i] = s.second
		}
	}
	return b
}

// balancedBy multiplies only what is within its limits: the greatest sum is
// about 7 10^18 then, which is not too much for an int.
func (m measured) balancedBy(push Vector, b Balance) bool {
	part := func(n int) bool { return within(n, 0, b.Whole) }
	if !within(b.Whole, 1, api.MaxWhole) || len(b.Parts) != len(m.forces) || !every(b.Parts, part) {
		return false
	}
	all := m.pushed(push).times(b.Whole)
	for i, n := range b.Parts {
		all = sum(all, m.forces[i].times(n))
	}
	return all == Vector{}
}
