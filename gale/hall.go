package gale

import (
	"iter"
	"slices"

	"bigtop/api"
)

const outside = 0

func (h Hall) valid() bool {
	crowd := func(n int) bool { return within(n, 0, api.MaxPeople) }
	return within(len(h.People), 2, api.MaxSpots) && h.People[outside] == 0 && every(h.People, crowd) &&
		len(h.Ways) <= api.MaxWays && every(h.Ways, h.leads)
}

func (h Hall) leads(w Way) bool {
	last := len(h.People) - 1
	return within(w.From, outside+1, last) && within(w.To, 0, last) && w.From != w.To &&
		within(w.Cap, 0, api.MaxCap) && within(w.Minutes, 1, api.MaxWalk)
}

func (h Hall) all() int {
	all := 0
	for _, n := range h.People {
		all += n
	}
	return all
}

// allows reports whether the plan has a number for each way and minute that the way can take.
func (h Hall) allows(minutes int, plan [][]int) bool {
	if len(plan) != len(h.Ways) {
		return false
	}
	for i, w := range h.Ways {
		passes := func(n int) bool { return within(n, 0, w.Cap) }
		if len(plan[i]) != minutes || !every(plan[i], passes) {
			return false
		}
	}
	return true
}

// bringsOut counts who comes and who goes in one minute together, as who comes
// to a spot may go on in the same minute.
func (h Hall) bringsOut(minutes int, plan [][]int) bool {
	there := slices.Clone(h.People)
	for now := range minutes + 1 {
		for i, w := range h.Ways {
			if now >= w.Minutes {
				there[w.To] += plan[i][now-w.Minutes]
			}
			if now < minutes {
				there[w.From] -= plan[i][now]
			}
		}
		if slices.Min(there) < 0 {
			return false
		}
	}
	return there[outside] == h.all()
}

func (h Hall) cutBy(minutes int, cut []int) bool {
	minute := func(n int) bool { return within(n, 0, minutes+1) }
	return len(cut) == len(h.People) && every(cut, minute) && cut[outside] == minutes+1
}

func (h Hall) size(minutes int, cut []int) int {
	size := 0
	for spot, n := range h.People {
		if cut[spot] > 0 {
			size += n
		}
	}
	for _, w := range h.Ways {
		for end := range w.ends(cut[w.From], minutes) {
			if end < cut[w.To] {
				size += w.Cap
			}
		}
	}
	return size
}

// ends are the minutes, up to the last one, at which those are at the end of
// the way who enter it at the first minute or later.
func (w Way) ends(first, last int) iter.Seq[int] {
	return func(yield func(int) bool) {
		for end := first + w.Minutes; end <= last; end++ {
			if !yield(end) {
				return
			}
		}
	}
}
