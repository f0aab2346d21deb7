package ticket_test

import (
	"slices"
	"testing"

	"bigtop/api"
	"bigtop/ticket"
)

// sortedOnce reports whether the seats rise.
func sortedOnce(l []int) bool {
	return slices.IsSorted(l) && len(slices.Compact(slices.Clone(l))) == len(l)
}

func giveBy(h ticket.House, b ticket.Book, to, show int, seats []int) (ticket.Book, ticket.Message, api.Errno) {
	none := func(e api.Errno) (ticket.Book, ticket.Message, api.Errno) { return ticket.Book{}, ticket.Message{}, e }
	noSeat := func(seat int) bool { return !isIn(seat, len(classes(h))) }
	switch {
	case !isIn(to, len(h.From[0])) || to == b.Agency || !isIn(show, len(h.Dates)) || len(seats) == 0 || !sortedOnce(seats) || slices.ContainsFunc(seats, noSeat):
		return none(api.ErrRange)
	case b.Off[show]:
		return none(api.ErrState)
	case slices.ContainsFunc(seats, func(seat int) bool { return b.Seats[show][seat] < 0 }):
		return none(api.ErrNone)
	case slices.ContainsFunc(seats, func(seat int) bool { return b.Seats[show][seat] > 0 }):
		return none(api.ErrTwice)
	case b.Sent == 1000:
		return none(api.ErrLimit)
	}
	b = copyBook(b)
	for _, seat := range seats {
		b.Seats[show][seat] = -1
	}
	b.Sent++
	return b, ticket.Message{From: b.Agency, To: to, Number: b.Sent, Show: show, Seats: seats}, api.OK
}

func isMessageBy(h ticket.House, m ticket.Message) bool {
	noSeat := func(seat int) bool { return !isIn(seat, len(classes(h))) }
	return isIn(m.From, len(h.From[0])) && isIn(m.To, len(h.From[0])) && m.From != m.To && m.Number >= 1 && m.Number <= 1000 &&
		isIn(m.Show, len(h.Dates)) && len(m.Seats) > 0 && sortedOnce(m.Seats) && !slices.ContainsFunc(m.Seats, noSeat)
}

func takeBy(h ticket.House, b ticket.Book, m ticket.Message) (ticket.Book, api.Errno) {
	switch {
	case !isMessageBy(h, m):
		return ticket.Book{}, api.ErrArg
	case m.To != b.Agency:
		return ticket.Book{}, api.ErrRange
	case slices.Contains(b.Took, ticket.Key{From: m.From, Number: m.Number}):
		return ticket.Book{}, api.ErrTwice
	case slices.ContainsFunc(m.Seats, func(seat int) bool { return b.Seats[m.Show][seat] >= 0 }):
		return ticket.Book{}, api.ErrState
	case len(b.Took) == 1000:
		return ticket.Book{}, api.ErrLimit
	}
	b = copyBook(b)
	for _, seat := range m.Seats {
		b.Seats[m.Show][seat] = 0
	}
	b.Took = append(b.Took, ticket.Key{From: m.From, Number: m.Number})
	return b, api.OK
}

// P8.3: the chapter's example.
func TestGiveExample(t *testing.T) {
	h := house()
	b, m, e := ticket.Give(h, opened(t, h, 0), 1, 0, list(3, 4))
	want := ticket.Book{Seats: rows(list(0, 0, 0, -1, -1), list(0, -1, 0, -1, -1)), Off: []bool{false, false}, Sent: 1}
	if !sameBook(b, want) || !sameMessage(m, ticket.Message{From: 0, To: 1, Number: 1, Show: 0, Seats: list(3, 4)}) || e != api.OK {
		t.Error("Give:", b, m, e)
	}
	c, e := ticket.Take(h, opened(t, h, 1), m)
	want = ticket.Book{Agency: 1, Seats: rows(list(-1, -1, -1, 0, 0), list(-1, 0, -1, 0, 0)), Off: []bool{false, false}, Took: keys(ticket.Key{Number: 1})}
	if !sameBook(c, want) || e != api.OK {
		t.Error("Take:", c, e)
	}
	if d, e := ticket.Take(h, c, m); !sameBook(d, ticket.Book{}) || e != api.ErrTwice {
		t.Error("Take again:", d, e)
	}
}

// P8.3: whom and what may be given, and which error comes first.
func TestGive(t *testing.T) {
	h := house()
	b := sold(t, h, opened(t, h, 0), 0, 1, 2)
	lost, late, last := copyBook(b), copyBook(b), copyBook(b)
	b.Seats[0][4], lost.Seats[0][4], late.Seats[0][4], last.Seats[0][4] = -1, -1, -1, -1
	lost.Off[0], late.Sent, last.Sent = true, api.MaxSent, api.MaxSent-1
	for i, x := range []struct {
		b        ticket.Book
		to, show int
		seats    []int
		want     api.Errno
	}{
		{lost, 0, 0, list(4), api.ErrRange}, {lost, 2, 0, list(4), api.ErrRange}, {lost, -1, 0, list(4), api.ErrRange},
		{b, 1, 2, list(0), api.ErrRange}, {b, 1, -1, list(0), api.ErrRange},
		{lost, 1, 0, nil, api.ErrRange}, {lost, 1, 0, list(), api.ErrRange}, {b, 1, 0, list(3, 3), api.ErrRange},
		{b, 1, 0, list(3, 0), api.ErrRange}, {b, 1, 0, list(0, 3, 2), api.ErrRange},
		{b, 1, 0, list(0, 5), api.ErrRange}, {b, 1, 0, list(-1, 0), api.ErrRange}, {b, 1, 0, list(lowest, highest), api.ErrRange},
		{lost, 1, 0, list(4), api.ErrState}, {lost, 1, 0, list(1), api.ErrState}, {lost, 1, 0, list(0), api.ErrState},
		{late, 1, 0, list(4), api.ErrNone}, {late, 1, 0, list(0, 4), api.ErrNone},
		{b, 1, 0, list(1, 4), api.ErrNone}, {b, 1, 1, list(0, 1), api.ErrNone},
		{late, 1, 0, list(1), api.ErrTwice}, {b, 1, 0, list(0, 1), api.ErrTwice}, {b, 1, 0, list(2, 3), api.ErrTwice},
		{late, 1, 0, list(0), api.ErrLimit}, {last, 1, 0, list(0), api.OK}, {b, 1, 0, list(0, 3), api.OK}, {b, 1, 1, list(0, 2), api.OK},
	} {
		c, m, e := ticket.Give(h, x.b, x.to, x.show, x.seats)
		want, message, f := giveBy(h, x.b, x.to, x.show, x.seats)
		if e != x.want || f != x.want || !sameBook(c, want) || !sameMessage(m, message) {
			t.Error(i, c, m, e)
		}
	}
}

// P8.3: a message that is not valid is none to take, to whomever it is.
func TestTakeNoMessage(t *testing.T) {
	h := three()
	b := opened(t, h, 1)
	good := ticket.Message{From: 0, To: 1, Number: 1, Show: 0, Seats: list(3, 4)}
	numbers := func(set func(*ticket.Message, int), want api.Errno, l ...int) {
		t.Helper()
		for _, n := range l {
			m := copyMessage(good)
			set(&m, n)
			if _, e := ticket.Take(h, b, m); e != want {
				t.Error(m, e)
			}
		}
	}
	from := func(m *ticket.Message, n int) { m.From = n }
	to := func(m *ticket.Message, n int) { m.To = n }
	number := func(m *ticket.Message, n int) { m.Number = n }
	show := func(m *ticket.Message, n int) { m.Show = n }
	seat := func(m *ticket.Message, n int) { m.Seats[1] = n }
	numbers(from, api.OK, 0, 2)
	numbers(from, api.ErrArg, lowest, -1, 1, 3, highest)
	numbers(to, api.OK, 1)
	numbers(to, api.ErrRange, 2)
	numbers(to, api.ErrArg, lowest, -1, 0, 3, highest)
	numbers(number, api.OK, 1, 2, api.MaxSent)
	numbers(number, api.ErrArg, lowest, -1, 0, api.MaxSent+1, highest)
	numbers(show, api.OK, 0)
	numbers(show, api.ErrState, 1)
	numbers(show, api.ErrArg, lowest, -1, 2, highest)
	numbers(seat, api.OK, 4)
	numbers(seat, api.ErrArg, lowest, -1, 0, 2, 3, 5, highest)
	for _, seats := range rows(nil, list(), list(4, 3), list(0, 2, 1), list(0, 1, 1), list(-1, 2), list(4, 5)) {
		m := copyMessage(good)
		m.Seats = seats
		if _, e := ticket.Take(h, b, m); e != api.ErrArg {
			t.Error(m, e)
		}
	}
}

// P8.3: of the errors of a valid message, the one that the table has first.
func TestTakeOrder(t *testing.T) {
	h := three()
	b := opened(t, h, 1)
	b.Took, b.Seats[0][0] = keys(ticket.Key{From: 2, Number: 3}, ticket.Key{From: 0, Number: 1}), 0
	full := copyBook(b)
	full.Took = manyKeys(api.MaxSent, 0)
	message := func(from, to, number int, seats ...int) ticket.Message {
		return ticket.Message{From: from, To: to, Number: number, Seats: seats}
	}
	for i, x := range []struct {
		b    ticket.Book
		m    ticket.Message
		want api.Errno
	}{
		{full, message(1, 1, 1, 0), api.ErrArg}, {full, message(0, 2, 1, 0), api.ErrRange}, {b, message(1, 2, 1, 1), api.ErrRange},
		{full, message(0, 1, 1, 0), api.ErrTwice}, {full, message(0, 1, api.MaxSent, 1), api.ErrTwice}, {b, message(2, 1, 3, 1), api.ErrTwice},
		{full, message(2, 1, 3, 0), api.ErrState}, {b, message(2, 1, 1, 0), api.ErrState}, {b, message(0, 1, 3, 0, 1), api.ErrState},
		{full, message(2, 1, 3, 1), api.ErrLimit}, {b, message(2, 1, 1, 1, 2), api.OK}, {b, message(0, 1, 3, 4), api.OK},
	} {
		c, e := ticket.Take(h, x.b, x.m)
		if want, f := takeBy(h, x.b, x.m); e != x.want || f != x.want || !sameBook(c, want) {
			t.Error(i, c, e)
		}
	}
	full.Took = full.Took[:api.MaxSent-1]
	if c, e := ticket.Take(h, full, message(0, 1, api.MaxSent, 1)); e != api.OK || len(c.Took) != api.MaxSent {
		t.Error("the last message:", e)
	}
	full.Seats[0][1] = 5
	full.Cash = 50
	if _, e := ticket.Take(h, full, message(0, 1, api.MaxSent, 1)); e != api.ErrState {
		t.Error("a seat that is sold:", e)
	}
	b.Off[0] = true
	if c, e := ticket.Take(h, b, message(2, 1, 1, 1)); e != api.OK || c.Seats[0][1] != 0 || !c.Off[0] {
		t.Error("a seat of a lost show:", e)
	}
}

// P8.3: anything given, and any message taken, by any books.
func TestMessages(t *testing.T) {
	d := newDice(6)
	given, taken := map[api.Errno]int{}, map[api.Errno]int{}
	for range 6000 {
		h := d.house(d.from(1, 3), d.from(1, 3))
		b := d.book(h)
		agencies := len(h.From[0])
		to, show, seats := d.index(agencies), d.index(len(h.Dates)), d.seats(h)
		c, m, e := ticket.Give(h, b, to, show, seats)
		if want, message, f := giveBy(h, b, to, show, seats); !sameBook(c, want) || !sameMessage(m, message) || e != f {
			t.Error("Give:", h, b, to, show, seats, c, m, e)
		}
		given[e]++
		x := ticket.Message{From: d.index(agencies), To: d.index(agencies), Number: d.index(5), Show: show, Seats: seats}
		c, e = ticket.Take(h, b, x)
		if want, f := takeBy(h, b, x); !sameBook(c, want) || e != f {
			t.Error("Take:", h, b, x, c, e)
		}
		taken[e]++
	}
	for _, e := range []api.Errno{api.OK, api.ErrRange, api.ErrTwice, api.ErrState} {
		if taken[e] < 50 || given[e] < 50 {
			t.Error("too few of", e, taken, given)
		}
	}
}

// P8.9: two messages that an agency of a sound world may take do the same in both orders, and each only once.
func TestBothOrders(t *testing.T) {
	d := newDice(7)
	found := 0
	for range 400 {
		h := d.house(d.from(1, 3), d.from(2, 3))
		w := d.world(h, ticket.Given, ticket.Given, ticket.Given, ticket.Given, ticket.Taken, ticket.Sold)
		for i, first := range w.Messages {
			for _, second := range w.Messages[i+1:] {
				b := w.Books[first.To]
				one, e := ticket.Take(h, b, first)
				other, f := ticket.Take(h, b, second)
				if second.To != first.To || e != api.OK || f != api.OK {
					continue
				}
				found++
				both, e := ticket.Take(h, one, second)
				late, f := ticket.Take(h, other, first)
				if e != api.OK || f != api.OK || !sameRows(both.Seats, late.Seats) || both.Cash != late.Cash || both.Cash != b.Cash {
					t.Error(h, b, first, second, both, late, e, f)
				}
				before := copyBook(both)
				for _, m := range []ticket.Message{first, second, first} {
					if _, e := ticket.Take(h, both, m); e != api.ErrTwice || !sameBook(both, before) {
						t.Error("taken again:", m, e)
					}
				}
			}
		}
	}
	if found < 100 {
		t.Error("too few messages:", found)
	}
}
