package programme_test

import (
	"slices"
	"testing"

	"bigtop/api"
	"bigtop/programme"
)

func checkSheet(t *testing.T, s programme.Show, order, want []int, wantEnd int) {
	t.Helper()
	starts, end, e := programme.Sheet(s, order)
	if !slices.Equal(starts, want) || end != wantEnd || e != api.OK {
		t.Error(order, starts, end, e)
	}
}

// P7.3: the chapter's example, one act, acts without changes, and the longest evening.
func TestSheets(t *testing.T) {
	checkSheet(t, show(), list(0, 1, 2), list(0, 17, 32), 44)
	checkSheet(t, show(), list(2, 1, 0), list(0, 19, 34), 44)
	checkSheet(t, plain(1), list(0), list(0), 5)
	checkSheet(t, plain(3), list(2, 0, 1), list(0, 5, 10), 15)
	// What the tension costs takes no time.
	checkSheet(t, tense(10, 100, 0), list(0, 1), list(0, 5), 10)
	s := plain(api.MaxTurns)
	s.In, s.Out, s.Cover = list(30, 0), list(30, 0), 60
	for i := range s.Acts {
		s.Acts[i].Minutes, s.Acts[i].Rigs = 60, uint16(1+i%2)
	}
	checkSheet(t, s, list(0, 1, 2, 3, 4, 5, 6, 7), list(0, 90, 180, 270, 360, 450, 540, 630), 690)
}

// P7.3: an order with a fault has no sheet.
func TestNoSheets(t *testing.T) {
	for _, order := range [][]int{list(0, 2, 1), list(1, 0, 2), list(2, 0, 1), list(1, 2, 0)} {
		if starts, end, e := programme.Sheet(show(), order); len(starts) > 0 || end != 0 || e != api.ErrFail {
			t.Error(order, starts, end, e)
		}
	}
	if starts, end, e := programme.Sheet(withPairs(plain(2), [2]int{1, 0}), list(0, 1)); len(starts) > 0 || end != 0 || e != api.ErrFail {
		t.Error(starts, end, e)
	}
}

// P7.3 and P7.12: each act begins when the change is made, and the last one ends after all acts and changes.
func TestSheetsOfAll(t *testing.T) {
	d := newDice(73)
	long := 0
	for range 2000 {
		s := d.show(d.from(1, 5))
		for order := range orders(len(s.Acts)) {
			if _, why := faultBy(s, order); why != 0 {
				continue
			}
			starts, end, e := programme.Sheet(s, order)
			if len(starts) != len(order) || e != api.OK || starts[0] != 0 {
				t.Fatal(s, order, starts, end, e)
			}
			all := 0
			for i, act := range order {
				if i > 0 {
					minutes, _ := changeBy(s, order[i-1], act)
					all += minutes
					if starts[i]-minutes != starts[i-1]+s.Acts[order[i-1]].Minutes {
						t.Error(s, order, starts, i)
					}
				}
				all += s.Acts[act].Minutes
			}
			if end != all {
				t.Error(s, order, end, all)
			}
			long += len(order) - 1
		}
	}
	if long < 2000 {
		t.Error("too few changes:", long)
	}
}
