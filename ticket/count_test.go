package ticket_test

import (
	"slices"
	"testing"

	"bigtop/api"
	"bigtop/ticket"
)

// P8.5: the chapter's example, and the days from which and until which a show may be sold.
func TestFree(t *testing.T) {
	h := house()
	b, other := opened(t, h, 0), opened(t, h, 1)
	lost := copyBook(sold(t, h, b, 0, 3))
	lost.Off[0] = true
	for i, x := range []struct {
		b                ticket.Book
		show, class, day int
		want             []int
	}{
		{b, 1, 0, 4, list(0)}, {b, 0, 0, 0, list(0, 1)}, {b, 0, 1, 10, list(2, 3, 4)}, {b, 0, 1, 11, nil}, {b, 0, 1, api.MaxDate, nil},
		{other, 1, 1, 4, nil}, {other, 1, 1, 5, list(3, 4)}, {other, 1, 1, 20, list(3, 4)}, {other, 1, 1, 21, nil}, {other, 0, 0, 5, nil},
		{sold(t, h, b, 0, 3), 0, 1, 3, list(2, 4)}, {sold(t, h, b, 0, 2, 3, 4), 0, 1, 3, nil},
		{lost, 0, 0, 3, nil}, {lost, 0, 1, 3, nil}, {lost, 1, 1, 3, list(2)},
	} {
		if l, e := ticket.Free(h, x.b, x.show, x.class, x.day); !slices.Equal(l, x.want) || e != api.OK {
			t.Error(i, l, e)
		}
	}
	h.Prices = append(h.Prices, 7)
	if l, e := ticket.Free(h, b, 0, 2, 3); len(l) > 0 || e != api.OK {
		t.Error("a class without seats:", l, e)
	}
	for i, x := range [][3]int{{2, 0, 0}, {-1, 0, 0}, {0, 3, 0}, {0, -1, 0}, {0, 0, -1}, {0, 0, api.MaxDate + 1}, {lowest, highest, lowest}} {
		if l, e := ticket.Free(h, lost, x[0], x[1], x[2]); len(l) > 0 || e != api.ErrRange {
			t.Error(i, l, e)
		}
	}
}

// P8.5: free seats and tickets, of lost shows as well.
func TestCounts(t *testing.T) {
	h := house()
	b := sold(t, h, sold(t, h, opened(t, h, 0), 0, 0, 3, 4), 1, 0)
	want := [][]ticket.Count{{{Free: 1, Sold: 1}, {Free: 1, Sold: 2}}, {{Free: 0, Sold: 1}, {Free: 1, Sold: 0}}}
	for _, lost := range []bool{false, true} {
		b.Off[0] = lost
		if l, e := ticket.Counts(h, b); !sameCounts(l, want) || e != api.OK {
			t.Error(l, e)
		}
	}
	b, _, _ = ticket.Lose(h, copyBook(sold(t, h, opened(t, h, 0), 0, 0, 1)), 0, 3)
	want = [][]ticket.Count{{{Free: 2}, {Free: 3}}, {{Sold: 1}, {Free: 1}}}
	if l, e := ticket.Counts(h, b); !sameCounts(l, want) || e != api.OK {
		t.Error("after a loss:", l, e)
	}
	h.Prices = append(h.Prices, 7)
	if l, e := ticket.Counts(h, b); e != api.OK || len(l) != 2 || !slices.Equal(l[1], []ticket.Count{{Sold: 1}, {Free: 1}, {}}) {
		t.Error("a class without seats:", l, e)
	}
}

// P8.5, P8.10: any books; the cash is what the tickets cost.
func TestAnyCounts(t *testing.T) {
	d := newDice(9)
	for range 1500 {
		h := d.house(d.from(1, 3), d.from(1, 3))
		b := d.book(h)
		show, class, day := d.Intn(len(h.Dates)), d.Intn(len(h.Prices)), d.from(0, 12)
		if l, e := ticket.Free(h, b, show, class, day); !slices.Equal(l, freeBy(h, b, show, class, day)) || e != api.OK {
			t.Error("Free:", h, b, show, class, day, l, e)
		}
		l, e := ticket.Counts(h, b)
		if !sameCounts(l, countsBy(h, b)) || e != api.OK {
			t.Error("Counts:", h, b, l, e)
		}
		cash := 0
		for _, counts := range l {
			for class, c := range counts {
				cash += c.Sold * h.Prices[class]
			}
		}
		if cash != b.Cash {
			t.Error("the cash:", h, b, cash)
		}
	}
}
