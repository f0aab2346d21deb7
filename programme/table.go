package programme

// stateOf is the state whose number stands there in a table.
func (s Show) stateOf(row, column int) state {
	return state{set(row), column / len(s.Acts), column % len(s.Acts)}
}

func (s Show) numberOf(table [][]int, at state) int {
	return table[at.acts][at.last*len(s.Acts)+at.before]
}

// table has the costs that are known. Its other numbers are of states that no order comes to without a fault: 0 is right for these.
func (s Show) table(known map[state]int) [][]int {
	table := make([][]int, 1<<len(s.Acts))
	for i := range table {
		table[i] = make([]int, len(s.Acts)*len(s.Acts))
		for k := range table[i] {
			table[i][k] = known[s.stateOf(i, k)]
		}
	}
	return table
}

// matters reports whether a table is right only if the number of this state is.
func (x state) matters() bool {
	alone := x.acts == set(0).with(x.last)
	return x.acts.has(x.last) && x.acts.has(x.before) && alone == (x.last == x.before)
}

func (s Show) isRight(table [][]int) bool {
	after := func(at state) int { return s.numberOf(table, at) }
	for i, row := range table {
		for k, number := range row {
			if at := s.stateOf(i, k); at.matters() && number > s.least(at, after) {
				return false
			}
		}
	}
	return true
}

// bound asks the table for all acts that may be the first one: those that must not come later.
func (s Show) bound(table [][]int) int {
	return s.least(state{}, func(at state) int { return s.numberOf(table, at) })
}
