package purse

import (
	"iter"
	"slices"

	"bigtop/api"
)

func (b Bag) has(seal int) bool { return seal == b.Seal || seal == b.Now }

func (b Bag) isBroken() bool { return b.Now != b.Seal }

func (b Bag) hasDiff() bool { return b.Holds != b.Written || b.isBroken() }

// those yields the bags of which something holds, and their indexes.
func (l Ledger) those(holds func(Bag) bool) iter.Seq2[int, Bag] {
	return func(yield func(int, Bag) bool) {
		for i, b := range l.Bags {
			if holds(b) && !yield(i, b) {
				return
			}
		}
	}
}

func (l Ledger) copied() Ledger {
	l.Windows, l.Bags, l.Diffs = slices.Clone(l.Windows), slices.Clone(l.Bags), slices.Clone(l.Diffs)
	return l
}

func (l Ledger) isWindow(window int) bool { return within(window, 0, len(l.Windows)-1) }

func (l Ledger) isBag(bag int) bool { return within(bag, 0, len(l.Bags)-1) }

func (l Ledger) valid() bool {
	return l.hasWindows() && l.isWithin() &&
		len(l.Bags) <= api.MaxBags && every(l.Bags, l.canBeBag) && l.isSealedOnce() &&
		every(l.Diffs, l.canBeDiff) && l.isNamedOnce() && l.isNamed() &&
		l.total() == l.Begun+l.In-l.Out
}

func (l Ledger) hasWindows() bool { return within(len(l.Windows), 1, api.MaxWindows) }

// isWithin leaves out the bags: what one holds was in a window.
func (l Ledger) isWithin() bool {
	return every(l.Windows, isAmount) && every([]int{l.Office, l.Bank, l.Begun, l.In, l.Out}, isAmount)
}

func (l Ledger) canBeBag(b Bag) bool {
	return l.isWindow(b.Window) && isSeal(b.Seal) && isSeal(b.Now) && isAmount(b.Written) && isAmount(b.Holds) &&
		!(b.Opened && b.Holds > 0)
}

// isSealedOnce reports whether no number is a seal of two bags.
func (l Ledger) isSealedOnce() bool {
	bagOf := map[int]int{}
	for i, b := range l.Bags {
		for _, seal := range []int{b.Seal, b.Now} {
			if bag, known := bagOf[seal]; known && bag != i {
				return false
			}
			bagOf[seal] = i
		}
	}
	return true
}

func (l Ledger) canBeDiff(d Diff) bool {
	return l.isBag(d.Bag) && l.Bags[d.Bag].Opened &&
		within(d.Less, -api.MaxMoney, api.MaxMoney) && d.Broken == l.Bags[d.Bag].isBroken() &&
		(d.Less != 0 || d.Broken)
}

// differences has for each bag how many differences are about it.
func (l Ledger) differences() []int {
	counts := make([]int, len(l.Bags))
	for _, d := range l.Diffs {
		counts[d.Bag]++
	}
	return counts
}

func (l Ledger) isNamedOnce() bool {
	return every(l.differences(), func(n int) bool { return n <= 1 })
}

// isNamed reports whether each bag whose seal was found broken has a difference.
func (l Ledger) isNamed() bool {
	differences := l.differences()
	for bag := range l.those(func(b Bag) bool { return b.Opened && b.isBroken() }) {
		if differences[bag] == 0 {
			return false
		}
	}
	return true
}

func (l Ledger) hasSeal(seal int) bool {
	for range l.those(func(b Bag) bool { return b.has(seal) }) {
		return true
	}
	return false
}

func (l Ledger) total() int {
	holds := each(l.Bags, func(b Bag) int { return b.Holds })
	return sum(l.Windows...) + sum(holds...) + sum(l.Office, l.Bank)
}

func (l Ledger) missing(window int) (less, bags int) {
	for bag := range l.those(func(b Bag) bool { return b.Window == window }) {
		for _, d := range l.Diffs {
			if d.Bag == bag {
				less += d.Less
				bags++
			}
		}
	}
	return less, bags
}
