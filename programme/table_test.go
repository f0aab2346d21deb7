package programme_test

import (
	"slices"
	"testing"

	"bigtop/api"
	"bigtop/programme"
)

// pairOfActs has a change of 7 from the act 0 to the act 1, and one of 27 with what the tension costs back.
func pairOfActs() programme.Show {
	s := show()
	s.Acts = s.Acts[:2]
	return s
}

func checkProof(t *testing.T, s programme.Show, order []int, cost int, table [][]int, want bool) {
	t.Helper()
	if programme.ProveBest(s, order, cost, table) != want {
		t.Error(order, cost, table, "should be", want)
	}
}

// P7.4: a table with rows of no acts, 0, 1 and both. Numbers that do not matter may be anything from 0 to MaxTable.
func TestTableOfTwo(t *testing.T) {
	best := list(0, 1)
	for _, x := range []struct {
		table [][]int
		want  bool
	}{
		{[][]int{{0, 0, 0, 0}, {7, 0, 0, 0}, {0, 0, 0, 27}, {0, 0, 0, 0}}, true},
		{[][]int{{0, 0, 0, 0}, {7, 0, 0, 0}, {0, 0, 0, 7}, {0, 0, 0, 0}}, true},
		{[][]int{{api.MaxTable, 1, 2, 3}, {7, api.MaxTable, 0, 9}, {99, 0, 1, 27}, {5, 0, 0, api.MaxTable}}, true},
		// A number one too great, or the bound one too small.
		{[][]int{{0, 0, 0, 0}, {8, 0, 0, 0}, {0, 0, 0, 27}, {0, 0, 0, 0}}, false},
		{[][]int{{0, 0, 0, 0}, {7, 0, 0, 0}, {0, 0, 0, 28}, {0, 0, 0, 0}}, false},
		{[][]int{{0, 0, 0, 0}, {6, 0, 0, 0}, {0, 0, 0, 27}, {0, 0, 0, 0}}, false},
		{[][]int{{0, 0, 0, 0}, {7, 0, 0, 0}, {0, 0, 0, 6}, {0, 0, 0, 0}}, false},
		{[][]int{{0, 0, 0, 0}, {0, 0, 0, 0}, {0, 0, 0, 0}, {0, 0, 0, 0}}, false},
		// Numbers of both acts that are not 0.
		{[][]int{{0, 0, 0, 0}, {7, 0, 0, 0}, {0, 0, 0, 27}, {0, 1, 0, 0}}, false},
		{[][]int{{0, 0, 0, 0}, {7, 0, 0, 0}, {0, 0, 0, 27}, {0, 0, 1, 0}}, false},
		{[][]int{{0, 0, 0, 0}, {8, 0, 0, 0}, {0, 0, 0, 27}, {0, 0, 1, 0}}, false},
		// Numbers beyond, also where they do not matter.
		{[][]int{{0, 0, 0, -1}, {7, 0, 0, 0}, {0, 0, 0, 27}, {0, 0, 0, 0}}, false},
		{[][]int{{0, 0, 0, 0}, {7, 0, 0, 0}, {0, 0, 0, 27}, {0, 0, 0, api.MaxTable + 1}}, false},
		{[][]int{{0, 0, 0, 0}, {7, highest, 0, 0}, {0, 0, 0, 27}, {0, 0, 0, 0}}, false},
		{[][]int{{0, 0, 0, 0}, {7, 0, lowest, 0}, {0, 0, 0, 27}, {0, 0, 0, 0}}, false},
		{[][]int{{0, 0, 0, 0}, {7, 0, 0, 0}, {0, 0, 0, 27}, {0, -1, 0, 0}}, false},
		// Rows and numbers too few and too many.
		{nil, false},
		{[][]int{{0, 0, 0, 0}, {7, 0, 0, 0}, {0, 0, 0, 27}}, false},
		{[][]int{{7, 0, 0, 0}, {0, 0, 0, 27}, {0, 0, 0, 0}}, false},
		{[][]int{{0, 0, 0, 0}, {7, 0, 0, 0}, {0, 0, 0, 27}, {0, 0, 0, 0}, {0, 0, 0, 0}}, false},
		{[][]int{{0, 0, 0, 0}, {7, 0, 0, 0}, {0, 0, 0, 27}, {0, 0, 0}}, false},
		{[][]int{nil, {7, 0, 0, 0}, {0, 0, 0, 27}, {0, 0, 0, 0}}, false},
		{[][]int{{0, 0, 0, 0}, {7, 0, 0, 0, 0}, {0, 0, 0, 27}, {0, 0, 0, 0}}, false},
	} {
		checkProof(t, pairOfActs(), best, 7, x.table, x.want)
	}
	good := [][]int{{0, 0, 0, 0}, {7, 0, 0, 0}, {0, 0, 0, 27}, {0, 0, 0, 0}}
	for _, cost := range []int{lowest, -1, 0, 6, 8, 27, highest} {
		checkProof(t, pairOfActs(), best, cost, good, false)
	}
	checkProof(t, pairOfActs(), list(1, 0), 27, good, false)
	checkProof(t, pairOfActs(), list(1, 0), 7, good, false)
}

// P7.4: only acts that may be the first ones count for the bound.
func TestFirstActs(t *testing.T) {
	s := withPairs(pairOfActs(), [2]int{1, 0})
	checkProof(t, s, list(1, 0), 27, [][]int{{0, 0, 0, 0}, {0, 0, 0, 0}, {0, 0, 0, 27}, {0, 0, 0, 0}}, true)
	checkProof(t, s, list(1, 0), 27, [][]int{{0, 0, 0, 0}, {7, 0, 0, 0}, {0, 0, 0, 27}, {0, 0, 0, 0}}, true)
	// A number matters even if no order comes to it without a fault.
	checkProof(t, s, list(1, 0), 27, [][]int{{0, 0, 0, 0}, {8, 0, 0, 0}, {0, 0, 0, 27}, {0, 0, 0, 0}}, false)
	checkProof(t, s, list(1, 0), 27, [][]int{{0, 0, 0, 0}, {7, 0, 0, 0}, {0, 0, 0, 26}, {0, 0, 0, 0}}, false)
	checkProof(t, s, list(0, 1), 7, [][]int{{0, 0, 0, 0}, {7, 0, 0, 0}, {0, 0, 0, 27}, {0, 0, 0, 0}}, false)
	// Each act is a second one.
	s.Before = append(s.Before, [2]int{0, 1})
	for order, cost := range map[[2]int]int{{0, 1}: 7, {1, 0}: 27} {
		for _, table := range [][][]int{make([][]int, 4), greatestTable(s, 0), greatestTable(s, api.MaxTable)} {
			checkProof(t, s, order[:], cost, table, false)
			checkProof(t, s, order[:], 0, table, false)
		}
	}
}

// P7.4: one act. The set of it alone has all acts.
func TestTableOfOne(t *testing.T) {
	checkProof(t, plain(1), list(0), 0, [][]int{{0}, {0}}, true)
	checkProof(t, plain(1), list(0), 0, [][]int{{api.MaxTable}, {0}}, true)
	checkProof(t, plain(1), list(0), 0, [][]int{{0}, {1}}, false)
	checkProof(t, plain(1), list(0), 1, [][]int{{0}, {1}}, false)
	checkProof(t, plain(1), list(0), 0, [][]int{{-1}, {0}}, false)
	checkProof(t, plain(1), list(0), 0, [][]int{{0}}, false)
	checkProof(t, plain(1), nil, 0, [][]int{{0}, {0}}, false)
	checkProof(t, programme.Show{}, nil, 0, [][]int{{}}, false)
	checkProof(t, programme.Show{}, nil, 0, nil, false)
}

// P7.4 and R11: what proves one show does not prove another one, nor an order with a fault.
func TestOtherShows(t *testing.T) {
	order, cost, table, _ := programme.Best(show())
	checkProof(t, show(), order, cost, table, true)
	for name, set := range map[string]func(*programme.Show){
		"a show that is not valid":  func(s *programme.Show) { s.Rest[1] = 3 },
		"a change that is too long": func(s *programme.Show) { s.Cover = 6 },
		"a person that rests":       func(s *programme.Show) { s.Rest[0] = 2 },
		"a pair":                    func(s *programme.Show) { s.Before = pairs([2]int{1, 0}) },
		"a cheaper order":           func(s *programme.Show) { s.Rest[0] = 0 },
		"another cost":              func(s *programme.Show) { s.Dull = 2 },
	} {
		s := show()
		set(&s)
		if programme.ProveBest(s, order, cost, table) {
			t.Error(name)
		}
	}
	s := show()
	s.Rest[3] = 2
	checkProof(t, s, order, cost, table, true)
}

// P7.4, P7.8 and P5: in the greatest right table no number that matters can be greater; all others may be anything.
func TestEachNumber(t *testing.T) {
	for _, s := range []programme.Show{show(), plain(3), tense(2, 30, 10, 20, 10), rigged(3, 1, 2, 1, 2), withPairs(played(list(2, 0), 1, 2, 2, 1), [2]int{3, 0}), withPairs(plain(4), [2]int{0, 3})} {
		n := len(s.Acts)
		order, cost, _ := bestBy(s)
		table := greatestTable(s, 5)
		if !programme.ProveBest(s, order, cost, table) {
			t.Error(s, order, cost)
		}
		for row := range table {
			for i := range table[row] {
				changed := copyTable(table)
				changed[row][i]++
				want := !mattersBy(row, i/n, i%n)
				if changed[row][i] <= api.MaxTable && programme.ProveBest(s, order, cost, changed) != want {
					t.Error(s, row, i, "one more:", !want)
				}
				changed[row][i] = api.MaxTable
				if want = want || table[row][i] == api.MaxTable; programme.ProveBest(s, order, cost, changed) != want {
					t.Error(s, row, i, "the greatest:", !want)
				}
				changed[row][i]++
				checkProof(t, s, order, cost, changed, false)
				changed[row][i] = -1
				checkProof(t, s, order, cost, changed, false)
			}
		}
	}
}

// P7.4, P7.8 and P5, by the definition: tables of many shows, with some numbers changed, and some orders.
func TestTablesOfAll(t *testing.T) {
	d := newDice(78)
	seen := map[bool]int{}
	for range 1500 {
		s := d.show(d.from(1, 4))
		best, least, found := bestBy(s)
		if !found {
			continue
		}
		tables := [][][]int{greatestTable(s, 0), greatestTable(s, d.from(0, 99))}
		if _, _, table, e := programme.Best(s); e == api.OK {
			tables = append(tables, table)
		}
		for range 20 {
			order, cost := best, least
			if d.Intn(4) == 0 {
				order = d.Perm(len(s.Acts))
				cost = costBy(s, order)
			}
			if d.Intn(9) == 0 {
				cost += d.from(-2, 2)
			}
			table := copyTable(tables[d.Intn(len(tables))])
			for range d.from(0, 3) {
				row := table[d.Intn(len(table))]
				i := d.Intn(len(row))
				row[i] = min(max(0, row[i]+d.from(-3, 2)), api.MaxTable)
			}
			want := provesBy(s, order, cost, table)
			seen[want]++
			checkProof(t, s, order, cost, table, want)
			if want && (cost != least || costBy(s, order) != least) {
				t.Error("not the best:", s, order, cost, best, least)
			}
		}
	}
	if seen[true] < 2000 || seen[false] < 2000 {
		t.Error("too few of one kind:", seen)
	}
}

// P7.8: Best's table is taken for the largest shows, too, and not with a bound that is one below.
func TestLargeTables(t *testing.T) {
	s := tense(3, 8, 7, 6, 5, 4, 3, 2, 1)
	s.Rest = list(2)
	s.Acts[7].Casts, s.Acts[6].Casts = casts(1), casts(1)
	order, cost, table, e := programme.Best(s)
	if e != api.OK || cost != costBy(s, order) || !programme.ProveBest(s, order, cost, table) {
		t.Fatal(order, cost, e)
	}
	first := order[0]
	table[1<<first][first*8+first]--
	checkProof(t, s, order, cost, table, false)
	table[1<<first][first*8+first] += 2
	checkProof(t, s, order, cost, table, false)
	table[1<<first][first*8+first]--
	checkProof(t, s, order, cost, slices.Clone(table), true)
}
