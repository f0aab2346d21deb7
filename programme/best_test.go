package programme_test

import (
	"slices"
	"testing"

	"bigtop/api"
	"bigtop/programme"
)

// checkBest asks for this programme, and for a table that is right and shows its cost.
func checkBest(t *testing.T, s programme.Show, want []int, wantCost int) {
	t.Helper()
	order, cost, table, e := programme.Best(s)
	if !slices.Equal(order, want) || cost != wantCost || e != api.OK {
		t.Error(s, order, cost, e)
		return
	}
	checkTable(t, s, order, cost, table)
}

func checkTable(t *testing.T, s programme.Show, order []int, cost int, table [][]int) {
	t.Helper()
	n := len(s.Acts)
	if len(table) != 1<<n {
		t.Fatal("rows:", len(table))
	}
	for _, row := range table {
		if len(row) != n*n || slices.Min(row) < 0 || slices.Max(row) > api.MaxTable {
			t.Fatal("a row:", row)
		}
	}
	if bound, found := boundBy(s, table); !isRightBy(s, table) || !found || bound != cost {
		t.Error("the table:", s, bound, cost)
	}
	if !programme.ProveBest(s, order, cost, table) {
		t.Error("not proved:", s, order, cost)
	}
}

func checkNone(t *testing.T, s programme.Show) {
	t.Helper()
	if order, cost, table, e := programme.Best(s); len(order) > 0 || cost != 0 || len(table) > 0 || e != api.ErrNone {
		t.Error(s, order, cost, len(table), e)
	}
}

// P7.4: the chapter's example, and one act.
func TestBestExample(t *testing.T) {
	checkBest(t, show(), list(0, 1, 2), 24)
	checkBest(t, plain(1), list(0), 0)
	two := show()
	two.Acts = two.Acts[:2]
	checkBest(t, two, list(0, 1), 7)
	checkBest(t, withPairs(two, [2]int{1, 0}), list(1, 0), 27)
}

// P7.4: shows with several best programmes, and with just one programme.
func TestSeveralBests(t *testing.T) {
	for acts := 1; acts <= api.MaxTurns; acts++ {
		checkBest(t, plain(acts), list(0, 1, 2, 3, 4, 5, 6, 7)[:acts], 0)
	}
	checkBest(t, withPairs(plain(3), [2]int{2, 1}), list(0, 2, 1), 0)
	checkBest(t, withPairs(plain(3), [2]int{2, 0}), list(1, 2, 0), 0)
	checkBest(t, withPairs(plain(3), [2]int{2, 1}, [2]int{1, 0}), list(2, 1, 0), 0)
	checkBest(t, withPairs(plain(4), [2]int{3, 0}), list(1, 2, 3, 0), 0)
	// The acts 0 and 3 rest for two: they stand at the ends.
	checkBest(t, played(list(2), 1, 0, 0, 1), list(0, 1, 2, 3), 0)
	checkBest(t, played(list(2), 0, 1, 1, 0), list(1, 0, 3, 2), 0)
	checkBest(t, played(list(1), 1, 1, 0), list(0, 2, 1), 0)
	checkBest(t, played(list(1), 1, 1, 0, 0), list(0, 2, 1, 3), 0)
	// The tension should rise; of those that are as tense the first one is first.
	checkBest(t, tense(1, 30, 10, 20, 10), list(1, 3, 2, 0), 0)
	checkBest(t, tense(0, 30, 10, 20, 10), list(0, 1, 2, 3), 0)
	// Three acts with one kind and two with the other, in both orders: one change, in for 1 and out for 2.
	checkBest(t, rigged(3, 1, 2, 1, 2, 1), list(0, 2, 4, 1, 3), 3)
	// A dear first step that pays.
	s := tense(2, 50, 40, 90)
	s.In, s.Out, s.Cover = list(5), list(25), 60
	s.Acts[1].Rigs = 1
	checkBest(t, s, list(1, 0, 2), 25)
}

// P7.4: shows as large and as dear as they may be.
func TestDearest(t *testing.T) {
	checkBest(t, full(), list(0, 1, 2, 3, 4, 5, 6, 7), 0)
	// In each second act all tension is lost.
	s := plain(api.MaxTurns)
	s.Dull, s.In, s.Out, s.Cover = 10, slices.Repeat(list(30), 10), slices.Repeat(list(30), 10), 60
	for i := range s.Acts {
		s.Acts[i].Tension, s.Acts[i].Rigs = 100*(i%2), uint16(1+i%2)
		if i > 0 {
			s.Before = append(s.Before, [2]int{i - 1, i})
		}
	}
	checkBest(t, s, list(0, 1, 2, 3, 4, 5, 6, 7), 7*60+3*1000)
}

// P7.4: shows in which no order is without faults.
func TestNoProgramme(t *testing.T) {
	checkNone(t, played(list(1), 1, 1))
	checkNone(t, played(list(2), 1, 0, 1, 1))
	checkNone(t, played(list(2), 1, 0, 1))
	checkNone(t, rigged(2, 1, 2))
	checkNone(t, rigged(1, 0, 1, 4))
	checkBest(t, rigged(2, 0, 1, 4), list(1, 0, 2), 3)
	checkNone(t, withPairs(plain(2), [2]int{0, 1}, [2]int{1, 0}))
	checkNone(t, withPairs(plain(8), [2]int{5, 6}, [2]int{6, 7}, [2]int{7, 5}))
	checkNone(t, withPairs(played(list(2), 1, 1, 0, 0), [2]int{0, 1}, [2]int{1, 2}))
	// Each act is the second one of a pair.
	checkNone(t, withPairs(plain(3), [2]int{0, 1}, [2]int{1, 2}, [2]int{2, 0}))
	s := full()
	s.Acts[3].Casts[0] = 1 << 15
	checkNone(t, withPairs(s, [2]int{3, 7}, [2]int{7, 0}, [2]int{7, 1}, [2]int{7, 2}, [2]int{7, 4}, [2]int{7, 5}, [2]int{7, 6}))
}

// P7.4, P7.8, P7.9 and P5, by the definition: all orders are tried.
func TestBestOfAll(t *testing.T) {
	d := newDice(74)
	found, none := 0, 0
	for range 1500 {
		s := d.show(d.from(1, 5))
		want, cost, ok := bestBy(s)
		if !ok {
			none++
			checkNone(t, s)
			continue
		}
		checkBest(t, s, want, cost)
		found += len(want) - 1
	}
	if found < 500 || none < 200 {
		t.Error("found, none:", found, none)
	}
}

// P7.4, by the definition: shows with many acts.
func TestLargeShows(t *testing.T) {
	d := newDice(75)
	for found := 0; found < 6; {
		s := d.show(d.from(6, api.MaxTurns))
		want, cost, ok := bestBy(s)
		if !ok {
			checkNone(t, s)
			continue
		}
		found++
		checkBest(t, s, want, cost)
	}
}

// checkEasier asks for a best cost that is not more.
func checkEasier(t *testing.T, s, easier programme.Show) {
	t.Helper()
	_, cost, _, e := programme.Best(s)
	if _, less, _, f := programme.Best(easier); e == api.OK && (less > cost || f != api.OK) {
		t.Error(s, cost, easier, less, f)
	}
}

// P7.11: a greater Cover, a lesser Rest, a pair less.
func TestEasierRules(t *testing.T) {
	d := newDice(76)
	for range 1500 {
		s := d.show(d.from(1, 5))
		easier := copyShow(s)
		easier.Cover = d.from(s.Cover, api.MaxCover)
		checkEasier(t, s, easier)
		for person, rest := range s.Rest {
			easier = copyShow(s)
			easier.Rest[person] = max(0, rest-1)
			checkEasier(t, s, easier)
		}
		for i := range s.Before {
			easier = copyShow(s)
			easier.Before = slices.Delete(easier.Before, i, i+1)
			checkEasier(t, s, easier)
		}
	}
	// Each of them makes a programme cheaper, or possible.
	s := rigged(0, 0, 1)
	s.Acts[0].Tension, s.Dull = 10, 1
	checkNone(t, s)
	s.Cover = 1
	checkBest(t, s, list(0, 1), 11)
	s.Cover = 2
	checkBest(t, s, list(1, 0), 2)
	s = tense(1, 1, 2, 3)
	s.Rest, s.Acts[0].Casts, s.Acts[1].Casts = list(1), casts(1), casts(1)
	checkBest(t, s, list(0, 2, 1), 1)
	s.Rest[0] = 0
	checkBest(t, s, list(0, 1, 2), 0)
	s = withPairs(tense(1, 1, 2, 3), [2]int{2, 0}, [2]int{0, 1})
	checkBest(t, s, list(2, 0, 1), 2)
	s.Before = s.Before[1:]
	checkBest(t, s, list(0, 1, 2), 0)
}
