package purse

import (
	"slices"

	"bigtop/api"
)

// never stands for so many pieces as no till has.
const never = api.MaxKinds*api.MaxPieces + 1

func (t Till) valid() bool {
	return within(len(t.Values), 1, api.MaxKinds) && len(t.Counts) == len(t.Values) &&
		every(t.Values, func(n int) bool { return within(n, 1, api.MaxWorth) }) && t.falls() &&
		every(t.Counts, func(n int) bool { return within(n, 0, api.MaxPieces) })
}

func (t Till) falls() bool {
	for i := 1; i < len(t.Values); i++ {
		if t.Values[i] >= t.Values[i-1] {
			return false
		}
	}
	return true
}

// most is how many pieces of a value an amount may have.
func (t Till) most(kind, amount int) int { return min(t.Counts[kind], amount/t.Values[kind]) }

// fewest has for each value, and behind the last one, with how few pieces of it and of the later ones each amount can be given.
func (t Till) fewest(amount int) [][]int {
	table := make([][]int, len(t.Values)+1)
	for kind := range table {
		table[kind] = slices.Repeat([]int{never}, amount+1)
	}
	table[len(t.Values)][0] = 0
	fill := func(kind, value int) {
		for a := range table[kind] {
			for n := range t.most(kind, a) + 1 {
				table[kind][a] = min(table[kind][a], n+table[kind+1][a-n*value])
			}
		}
	}
	for kind, value := range slices.Backward(t.Values) {
		fill(kind, value)
	}
	return table
}

// give takes as many pieces of each value as the fewest pieces of all allow.
func (t Till) give(amount int) ([]int, api.Errno) {
	table := t.fewest(amount)
	if table[0][amount] == never {
		return nil, api.ErrNone
	}
	pieces := make([]int, len(t.Values))
	for kind, value := range t.Values {
		n := t.most(kind, amount)
		for n+table[kind+1][amount-n*value] > table[kind][amount] {
			n--
		}
		pieces[kind] = n
		amount -= n * value
	}
	return pieces, api.OK
}

// gap goes from the least value up: as long as a piece is worth at most the gap, with it the amounts go on where they ended without it.
func (t Till) gap() int {
	gap := 1
	for kind, value := range slices.Backward(t.Values) {
		if value > gap {
			break
		}
		gap += value * t.Counts[kind]
	}
	return gap
}
