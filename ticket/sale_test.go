package ticket_test

import (
	"testing"

	"bigtop/api"
	"bigtop/ticket"
)

// sellBy asks the questions of the table, and writes down the buyer.
func sellBy(h ticket.House, b ticket.Book, show, seat, buyer, day int) (ticket.Book, api.Errno) {
	switch {
	case !isIn(show, len(h.Dates)) || !isIn(seat, len(classes(h))) || !isIn(buyer-1, 1000000):
		return ticket.Book{}, api.ErrRange
	case b.Off[show] || day < h.From[show][b.Agency]:
		return ticket.Book{}, api.ErrState
	case day > h.Dates[show]:
		return ticket.Book{}, api.ErrLate
	case b.Seats[show][seat] == -1:
		return ticket.Book{}, api.ErrNone
	case b.Seats[show][seat] > 0:
		return ticket.Book{}, api.ErrTwice
	}
	b = copyBook(b)
	b.Seats[show][seat] = buyer
	b.Cash += h.Prices[classes(h)[seat]]
	return b, api.OK
}

func refundBy(h ticket.House, b ticket.Book, show, seat int) (ticket.Book, api.Errno) {
	switch {
	case !isIn(show, len(h.Dates)) || !isIn(seat, len(classes(h))):
		return ticket.Book{}, api.ErrRange
	case b.Seats[show][seat] <= 0:
		return ticket.Book{}, api.ErrNone
	}
	b = copyBook(b)
	b.Seats[show][seat] = 0
	b.Cash -= h.Prices[classes(h)[seat]]
	return b, api.OK
}

// P8.2: the chapter's example.
func TestSellExample(t *testing.T) {
	b, e := ticket.Sell(house(), opened(t, house(), 0), 0, 2, 7, 3)
	want := ticket.Book{Seats: rows(list(0, 0, 7, 0, 0), list(0, -1, 0, -1, -1)), Off: []bool{false, false}, Cash: 20}
	if !sameBook(b, want) || e != api.OK {
		t.Error(b, e)
	}
	for day, want := range map[int]api.Errno{3: api.ErrState, 5: api.ErrNone, 11: api.ErrLate} {
		if _, e := ticket.Sell(house(), opened(t, house(), 1), 0, 2, 7, day); e != want {
			t.Error("by 1 on", day, e)
		}
	}
}

// P8.2: a show may be sold from the day of the presale to its date, and not on the days before and after.
func TestSellDays(t *testing.T) {
	h := house()
	b := opened(t, h, 1)
	for day, want := range map[int]api.Errno{
		lowest: api.ErrState, -1: api.ErrState, 0: api.ErrState, 4: api.ErrState, 5: api.OK, 6: api.OK, 19: api.OK, 20: api.OK,
		21: api.ErrLate, api.MaxDate: api.ErrLate, api.MaxDate + 1: api.ErrLate, highest: api.ErrLate,
	} {
		if _, e := ticket.Sell(h, b, 1, 3, 7, day); e != want {
			t.Error(day, e)
		}
	}
	h.From[1][1], h.Dates = 20, list(0, 20)
	for day, want := range map[int]api.Errno{19: api.ErrState, 20: api.OK, 21: api.ErrLate} {
		if _, e := ticket.Sell(h, b, 1, 3, 7, day); e != want {
			t.Error("on one day:", day, e)
		}
	}
	h.From[1][1] = 25
	for day, want := range map[int]api.Errno{20: api.ErrState, 22: api.ErrState, 24: api.ErrState, 25: api.ErrLate} {
		if _, e := ticket.Sell(h, b, 1, 3, 7, day); e != want {
			t.Error("on no day:", day, e)
		}
	}
}

// P8.2: of two errors that hold at once, the one that the table has first.
func TestSellOrder(t *testing.T) {
	h := house()
	b := sold(t, h, opened(t, h, 0), 1, 2)
	late, early := copyHouse(h), copyHouse(h)
	late.From[1][0], early.From[1][0] = 25, 3
	lost := copyBook(b)
	lost.Off[1] = true
	for i, x := range []struct {
		h                      ticket.House
		b                      ticket.Book
		show, seat, buyer, day int
		want                   api.Errno
	}{
		{h, lost, 1, 1, 0, 21, api.ErrRange},
		{h, lost, 1, 5, 1, 21, api.ErrRange},
		{h, lost, 2, 1, 1, 21, api.ErrRange},
		{h, lost, 1, 1, 1, 21, api.ErrState},
		{h, lost, 1, 2, 1, 20, api.ErrState},
		{late, b, 1, 1, 1, 21, api.ErrState},
		{early, b, 1, 2, 1, 2, api.ErrState},
		{early, b, 1, 1, 1, 2, api.ErrState},
		{h, b, 1, 1, 1, 21, api.ErrLate},
		{h, b, 1, 2, 1, 21, api.ErrLate},
		{h, b, 1, 0, 1, 21, api.ErrLate},
		{h, b, 1, 1, 1, 20, api.ErrNone},
		{h, b, 1, 2, 1, 20, api.ErrTwice},
		{h, b, 1, 2, 101, 20, api.ErrTwice},
		{h, b, 1, 0, 1, 20, api.OK},
		{h, b, 1, 0, api.MaxBuyer, 20, api.OK},
		{h, b, 1, 0, api.MaxBuyer + 1, 20, api.ErrRange},
	} {
		if _, e := ticket.Sell(x.h, x.b, x.show, x.seat, x.buyer, x.day); e != x.want {
			t.Error(i, e)
		}
	}
}

// P8.2: a seat that is not held, that is free, and that is sold is paid back, of lost shows as well.
func TestRefund(t *testing.T) {
	h := house()
	b := sold(t, h, opened(t, h, 0), 1, 2)
	for _, lost := range []bool{false, true} {
		b.Off[1] = lost
		for seat, want := range []api.Errno{api.ErrNone, api.ErrNone, api.OK, api.ErrNone, api.ErrNone, api.ErrRange} {
			c, e := ticket.Refund(h, b, 1, seat)
			if e != want || e == api.OK && (c.Seats[1][2] != 0 || c.Cash != 0 || c.Off[1] != lost) {
				t.Error(lost, seat, c, e)
			}
		}
	}
}

// P8.2: any sale, and any refund, of any books.
func TestSales(t *testing.T) {
	d := newDice(4)
	found := map[api.Errno]int{}
	for range 4000 {
		h := d.house(d.from(1, 3), d.from(1, 3))
		b := d.book(h)
		show, seat, buyer, day := d.index(len(h.Dates)), d.index(len(classes(h))), d.from(0, 20), d.from(-1, 10)
		c, e := ticket.Sell(h, b, show, seat, buyer, day)
		if want, f := sellBy(h, b, show, seat, buyer, day); !sameBook(c, want) || e != f {
			t.Error("Sell:", h, b, show, seat, buyer, day, c, e)
		}
		found[e]++
		c, e = ticket.Refund(h, b, show, seat)
		if want, f := refundBy(h, b, show, seat); !sameBook(c, want) || e != f {
			t.Error("Refund:", h, b, show, seat, c, e)
		}
	}
	if found[api.OK] < 100 || found[api.ErrTwice] < 100 {
		t.Error("too few sales:", found)
	}
}

// P8.10: who sells a seat and pays it back has the book as it was.
func TestSoldAndRefunded(t *testing.T) {
	d := newDice(5)
	for range 1000 {
		h := d.house(d.from(1, 3), d.from(1, 3))
		b := d.book(h)
		show, seat := d.Intn(len(h.Dates)), d.Intn(len(classes(h)))
		c, e := ticket.Sell(h, b, show, seat, 7, d.from(0, 9))
		if e != api.OK {
			continue
		}
		if again, e := ticket.Refund(h, c, show, seat); !sameBook(again, b) || e != api.OK || sameBook(c, b) {
			t.Error(h, b, show, seat, again, e)
		}
	}
}
