package ticket_test

import (
	"slices"
	"testing"

	"bigtop/api"
	"bigtop/ticket"
)

// loseBy looks for all seats to which a ticket can go, and takes the first one.
func loseBy(h ticket.House, b ticket.Book, show, day int) (ticket.Book, []ticket.Move, api.Errno) {
	switch {
	case !isIn(show, len(h.Dates)) || !isIn(day, 1001):
		return ticket.Book{}, nil, api.ErrRange
	case b.Off[show]:
		return ticket.Book{}, nil, api.ErrTwice
	}
	b = copyBook(b)
	b.Off[show] = true
	var moves []ticket.Move
	for seat, class := range classes(h) {
		buyer := b.Seats[show][seat]
		if buyer <= 0 {
			continue
		}
		b.Seats[show][seat] = 0
		places := []ticket.Move{}
		for later := show + 1; later < len(h.Dates); later++ {
			for _, at := range freeBy(h, b, later, class, day) {
				places = append(places, ticket.Move{Seat: seat, Show: later, At: at})
			}
		}
		if len(places) == 0 {
			places = append(places, ticket.Move{Seat: seat, Show: -1, At: -1})
		} else {
			b.Seats[places[0].Show][places[0].At] = buyer
		}
		moves = append(moves, places[0])
	}
	b.Cash = cashBy(h, b)
	return b, moves, api.OK
}

// P8.4: the chapter's examples.
func TestLoseExamples(t *testing.T) {
	h := house()
	b, _ := ticket.Sell(h, opened(t, h, 0), 0, 2, 7, 3)
	c, moves, e := ticket.Lose(h, b, 0, 4)
	want := ticket.Book{Seats: rows(list(0, 0, 0, 0, 0), list(0, -1, 7, -1, -1)), Off: []bool{true, false}, Cash: 20}
	if !sameBook(c, want) || !slices.Equal(moves, []ticket.Move{{Seat: 2, Show: 1, At: 2}}) || e != api.OK {
		t.Error(c, moves, e)
	}
	b, _ = ticket.Sell(h, b, 0, 3, 8, 3)
	c, moves, e = ticket.Lose(h, b, 0, 4)
	if !sameBook(c, want) || !slices.Equal(moves, []ticket.Move{{Seat: 2, Show: 1, At: 2}, {Seat: 3, Show: -1, At: -1}}) || e != api.OK {
		t.Error(c, moves, e)
	}
}

// losing is a loss, and what becomes of the tickets: a show and a seat for each.
type losing struct {
	name   string
	h      ticket.House
	b      ticket.Book
	day    int
	places [][2]int
}

// losings are of the show 0, whose dear seats 0, 2, .. and cheap ones 1, 3, .. are sold in turn.
func losings(t *testing.T) []losing {
	h := plain(3, 6, 2)
	open := opened(t, h, 0)
	all := sold(t, h, open, 0, 0, 1, 2, 3, 4, 5)
	// taken is the book in which these seats of a later show are not free.
	taken := func(b ticket.Book, show int, seats ...int) ticket.Book { return sold(t, h, b, show, seats...) }
	gone := copyBook(all)
	gone.Seats[1] = list(-1, -1, -1, -1, -1, -1)
	lost, none := copyBook(all), copyBook(all)
	lost.Off[1], none.Off[1], none.Off[2] = true, true, true
	presale := func(one, two int) ticket.House {
		h := copyHouse(h)
		h.From[1][0], h.From[2][0] = one, two
		return h
	}
	money := [2]int{-1, -1}
	return []losing{
		{"no tickets", h, open, 5, nil},
		{"no tickets of this show", h, taken(open, 1, 0, 1), 5, nil},
		{"one ticket", h, sold(t, h, open, 0, 3), 5, [][2]int{{1, 1}}},
		{"tickets of both classes", h, all, 5, [][2]int{{1, 0}, {1, 1}, {1, 2}, {1, 3}, {1, 4}, {1, 5}}},
		{"some seats are in the last show", h, taken(all, 1, 0, 2, 3), 5, [][2]int{{1, 4}, {1, 1}, {2, 0}, {1, 5}, {2, 2}, {2, 1}}},
		{"just as many free seats as tickets", h, taken(taken(all, 1, 0, 2, 4), 2, 1, 3, 5), 5, [][2]int{{2, 0}, {1, 1}, {2, 2}, {1, 3}, {2, 4}, {1, 5}}},
		{"a dear seat less", h, taken(taken(all, 1, 0, 2, 4), 2, 1, 2, 3, 5), 5, [][2]int{{2, 0}, {1, 1}, {2, 4}, {1, 3}, money, {1, 5}}},
		{"no dear seats", h, taken(taken(all, 1, 0, 2, 4), 2, 0, 2, 4), 5, [][2]int{money, {1, 1}, money, {1, 3}, money, {1, 5}}},
		{"no seats", h, taken(taken(all, 1, 0, 1, 2, 3, 4, 5), 2, 0, 1, 2, 3, 4, 5), 5, [][2]int{money, money, money, money, money, money}},
		{"seats that are not held", h, gone, 5, [][2]int{{2, 0}, {2, 1}, {2, 2}, {2, 3}, {2, 4}, {2, 5}}},
		{"a later show that is lost", h, lost, 5, [][2]int{{2, 0}, {2, 1}, {2, 2}, {2, 3}, {2, 4}, {2, 5}}},
		{"later shows that are lost", h, none, 5, [][2]int{money, money, money, money, money, money}},
		{"a show that may not be sold yet", presale(6, 5), sold(t, h, open, 0, 2), 5, [][2]int{{2, 0}}},
		{"a show that may just be sold", presale(5, 5), sold(t, h, open, 0, 2), 5, [][2]int{{1, 0}}},
		{"no show that may be sold yet", presale(6, 7), sold(t, h, open, 0, 2), 5, [][2]int{money}},
		{"the date of the next show", h, sold(t, h, open, 0, 2), 20, [][2]int{{1, 0}}},
		{"the day after it", h, sold(t, h, open, 0, 2), 21, [][2]int{{2, 0}}},
		{"the date of the last show", h, sold(t, h, open, 0, 2), 30, [][2]int{{2, 0}}},
		{"the day after all", h, sold(t, h, open, 0, 2), 31, [][2]int{money}},
		{"MaxDate", h, sold(t, h, open, 0, 2), api.MaxDate, [][2]int{money}},
		{"the day 0", h, sold(t, h, open, 0, 2), 0, [][2]int{{1, 0}}},
	}
}

// P8.4: where tickets go to, and which are paid back.
func TestLose(t *testing.T) {
	for _, x := range losings(t) {
		c, moves, e := ticket.Lose(x.h, x.b, 0, x.day)
		want, by, _ := loseBy(x.h, x.b, 0, x.day)
		if e != api.OK || !sameBook(c, want) || !slices.Equal(moves, by) || len(moves) != len(x.places) {
			t.Error(x.name, c, moves, e)
			continue
		}
		for i, m := range moves {
			if m.Show != x.places[i][0] || m.At != x.places[i][1] {
				t.Error(x.name, i, m)
			}
		}
	}
}

// P8.4: a show that is lost, and one that is not there; a day that is none.
func TestLoseErrors(t *testing.T) {
	h := house()
	b := opened(t, h, 0)
	b.Off[1] = true
	for i, x := range []struct {
		show, day int
		want      api.Errno
	}{
		{0, 0, api.OK}, {0, api.MaxDate, api.OK}, {1, 0, api.ErrTwice}, {1, api.MaxDate, api.ErrTwice}, {2, 0, api.ErrRange}, {-1, 0, api.ErrRange},
		{1, -1, api.ErrRange}, {1, api.MaxDate + 1, api.ErrRange}, {0, -1, api.ErrRange}, {0, api.MaxDate + 1, api.ErrRange}, {0, lowest, api.ErrRange}, {highest, highest, api.ErrRange},
	} {
		if _, moves, e := ticket.Lose(h, b, x.show, x.day); e != x.want || len(moves) > 0 {
			t.Error(i, moves, e)
		}
	}
}

// P8.4, P8.11: tickets of shows that are lost after each other move twice, and are paid back at last; shows that are lost from the last one on leave nowhere to go to.
func TestLostAfterEachOther(t *testing.T) {
	h := plain(3, 4, 1)
	b := sold(t, h, opened(t, h, 0), 0, 1, 2)
	for show, want := range [][]ticket.Move{
		{{Seat: 1, Show: 1, At: 1}, {Seat: 2, Show: 1, At: 0}},
		{{Seat: 0, Show: 2, At: 0}, {Seat: 1, Show: 2, At: 1}},
		{{Seat: 0, Show: -1, At: -1}, {Seat: 1, Show: -1, At: -1}},
	} {
		c, moves, e := ticket.Lose(h, b, show, 10)
		cash := list(70, 70, 0)[show]
		if e != api.OK || !slices.Equal(moves, want) || c.Cash != cash || !slices.Equal(c.Seats[show], make([]int, 4)) {
			t.Error(show, c, moves, e)
		}
		b = c
	}
	b = sold(t, h, opened(t, h, 0), 0, 1, 2)
	for _, show := range list(2, 1) {
		c, moves, e := ticket.Lose(h, b, show, 10)
		if e != api.OK || len(moves) > 0 || c.Cash != 70 {
			t.Error(show, c, moves, e)
		}
		b = c
	}
	if c, moves, e := ticket.Lose(h, b, 0, 10); e != api.OK || c.Cash != 0 || !slices.Equal(moves, []ticket.Move{{Seat: 1, Show: -1, At: -1}, {Seat: 2, Show: -1, At: -1}}) {
		t.Error(c, moves, e)
	}
}

// P8.4, P8.10, P8.11: any loss: each buyer has a seat of the class in a later show or the money, nobody else loses a seat, and the cash falls by what is paid back.
func TestAnyLoss(t *testing.T) {
	d := newDice(8)
	moved, paid := 0, 0
	for range 3000 {
		h := d.house(d.from(1, 4), d.from(1, 3))
		b := d.book(h)
		show, day := d.index(len(h.Dates)), d.from(-1, 12)
		c, moves, e := ticket.Lose(h, b, show, day)
		want, by, f := loseBy(h, b, show, day)
		if !sameBook(c, want) || !slices.Equal(moves, by) || e != f {
			t.Error(h, b, show, day, c, moves, e)
		}
		if e != api.OK {
			continue
		}
		back, expected := 0, copyBook(b)
		for _, m := range moves {
			if m.Show < 0 {
				paid++
				back += h.Prices[classes(h)[m.Seat]]
				continue
			}
			moved++
			if m.Show <= show || classes(h)[m.Seat] != classes(h)[m.At] || expected.Seats[m.Show][m.At] != 0 || !mayBeSoldBy(h, b, m.Show, day) {
				t.Error("no place for a ticket:", h, b, show, day, m)
			}
			expected.Seats[m.Show][m.At] = b.Seats[show][m.Seat]
		}
		for seat, buyer := range b.Seats[show] {
			expected.Seats[show][seat] = min(buyer, 0)
		}
		if !sameRows(c.Seats, expected.Seats) || c.Cash != b.Cash-back || c.Cash != cashBy(h, c) {
			t.Error("others, or the cash:", h, b, show, day, c)
		}
		checkNoSeatLeft(t, h, c, show, day, moves)
	}
	if moved < 100 || paid < 100 {
		t.Error("too few:", moved, paid)
	}
}

// checkNoSeatLeft counts on that seats only become fewer while tickets are moved: one that is free in the end was so for each ticket.
func checkNoSeatLeft(t *testing.T, h ticket.House, c ticket.Book, show, day int, moves []ticket.Move) {
	t.Helper()
	for _, m := range moves {
		for later := show + 1; later < len(h.Dates) && m.Show < 0; later++ {
			if l := freeBy(h, c, later, classes(h)[m.Seat], day); len(l) > 0 {
				t.Error("paid back, though seats are free:", h, c, m, later, l)
			}
		}
	}
}
