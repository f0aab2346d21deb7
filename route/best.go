package route

import (
	"iter"
	"slices"

	"bigtop/api"
)

// set is some of the towns.
type set [api.MaxTowns]bool

func (s set) with(town int) set {
	s[town] = true
	return s
}

// best takes one stop after the other with which no less can be gained in all, until no more is gained than by going home.
func (t trial) best() (season []Stop, profit int) {
	left := t.growing()
	var played set
	at, day := 0, 0
grow:
	for left(played)[at][day] > t.homeward(at, day) {
		for s := range t.following(at, day) {
			after := played.with(s.Town)
			if !played[s.Town] && t.goingOn(at, s, left(after)) == left(played)[at][day] {
				season, played = append(season, s), after
				at, day = s.Town, s.Last+1
				continue grow
			}
		}
		break grow
	}
	return season, left(set{})[0][0]
}

// growing returns a function that tells, for the towns that have been played, what can still be
// gained after a stop in one of them: a table in which a season never comes back to a town.
func (t trial) growing() func(played set) [][]int {
	known := map[set][][]int{}
	var left func(played set) [][]int
	left = func(played set) [][]int {
		if table, ok := known[played]; ok {
			return table
		}
		after := make([][]int, len(t.Towns))
		for town := 1; town < len(t.Towns); town++ {
			if !played[town] {
				after[town] = left(played.with(town))[town]
			}
		}
		table := t.blank(-api.MaxGold)
		t.fill(table, after)
		known[played] = table
		return table
	}
	return left
}

// replace finds the best of the right seasons that have another stop, or none, in the place of the stop k.
func (t trial) replace(season []Stop, k int) (best []Stop, profit int, found bool) {
	for other := range t.others(season, k) {
		if !t.isRight(other) {
			continue
		}
		if n := t.profit(other); !found || n > profit {
			best, profit, found = other, n, true
		}
	}
	return best, profit, found
}

// others are the season without its stop k, and then with each one of another town there that could follow the stop before.
func (t trial) others(season []Stop, k int) iter.Seq[[]Stop] {
	return func(yield func([]Stop) bool) {
		without := slices.Concat(season[:k], season[k+1:])
		if !yield(without) {
			return
		}
		at, day := 0, 0
		if k > 0 {
			at, day = season[k-1].Town, season[k-1].Last+1
		}
		for s := range t.following(at, day) {
			if s.Town != season[k].Town && !yield(slices.Insert(slices.Clone(without), k, s)) {
				return
			}
		}
	}
}
