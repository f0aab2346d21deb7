package route

import (
	"slices"

	"bigtop/api"
)

// never is less than all that limits a number of a table.
const never = -4 * api.MaxGold

// blank has a row for each town, with a number for each day and for the one after the last.
func (t trial) blank(n int) [][]int {
	rows := make([][]int, len(t.Towns))
	for i := range rows {
		rows[i] = slices.Repeat([]int{n}, t.Days+1)
	}
	return rows
}

// isAsked reports whether the number of the town for this day is one that is limited: only the winter quarters are left on the day 0.
func isAsked(town, day int) bool { return (town == 0) == (day == 0) }

// homeward is what going home gains after a stop in the town has ended with the day before.
func (t trial) homeward(town, day int) int {
	if day+t.lost(town, 0) > t.Days {
		return never
	}
	return -t.Legs[town][0].Cost
}

// goingOn is what a stop after one in a town gains, with what can still be gained after it.
func (t trial) goingOn(from int, s Stop, table [][]int) int {
	return t.gains(s) - t.Legs[from][s.Town].Cost + table[s.Town][s.Last+1]
}

// leastTable lets a stop in each town go on in the table itself, so that a town may come again.
func (t trial) leastTable() [][]int {
	table := t.blank(-api.MaxGold)
	t.fill(table, table)
	return table
}

// fill sets the numbers of a table to the least ones, where after has the row that goes on
// from a stop in each town, or none for a town in which there is no stop. It begins with the
// last day: what limits a number is found in later ones alone, so that after may be the table.
func (t trial) fill(table, after [][]int) {
	opened := t.blank(never)
	for day := t.Days; day >= 0; day-- {
		for town, row := range after {
			if row != nil {
				opened[town][day] = t.opening(town, day, row, opened[town])
			}
		}
		for town, row := range table {
			if isAsked(town, day) {
				row[day] = t.least(town, day, opened)
			}
		}
	}
}

// opening is what can be gained at most from a stop in the town on that begins on this day or later; opened has it for the next day.
func (t trial) opening(town, day int, row, opened []int) int {
	most := never
	if day < t.Days {
		most = opened[day+1]
	}
	for s := range t.beginning(town, day) {
		most = greatest(most, t.gains(s)+row[s.Last+1])
	}
	return most
}

// least is the least number for the town and the day that goes home or on to another town.
func (t trial) least(town, day int, opened [][]int) int {
	most := greatest(-api.MaxGold, t.homeward(town, day))
	for next, row := range opened {
		if first := day + t.lost(town, next); next != town && first < t.Days {
			most = greatest(most, row[first]-t.Legs[town][next].Cost)
		}
	}
	return most
}

func boundOf(fees []int, table [][]int) int {
	bound := table[0][0]
	for _, fee := range fees {
		bound += fee
	}
	return bound
}

// limits reports whether each number of the table is at least what going home and each stop that could follow ask of it.
func (t trial) limits(table [][]int) bool {
	for town, row := range table {
		for day, n := range row {
			if isAsked(town, day) && !t.limitsAll(town, day, n, table) {
				return false
			}
		}
	}
	return true
}

func (t trial) limitsAll(town, day, n int, table [][]int) bool {
	if n < t.homeward(town, day) {
		return false
	}
	for s := range t.following(town, day) {
		if n < t.goingOn(town, s, table) {
			return false
		}
	}
	return true
}
