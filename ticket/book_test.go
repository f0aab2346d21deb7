package ticket_test

import (
	"slices"
	"testing"

	"bigtop/api"
	"bigtop/ticket"
)

// three is a house with three agencies, so that a book can have more keys than there may be.
func three() ticket.House {
	h := house()
	h.From = rows(list(0, 5, 0), list(0, 5, 0))
	return h
}

// manyKeys are so many keys of the agencies that are not this one.
func manyKeys(count int, from ...int) (l []ticket.Key) {
	for i := range count {
		l = append(l, ticket.Key{From: from[i/api.MaxSent], Number: i%api.MaxSent + 1})
	}
	return l
}

type bookChange struct {
	name string
	want api.Errno
	set  func(*ticket.Book)
}

// bookChanges are made with the book of the agency 1.
func bookChanges() []bookChange {
	took := func(l ...ticket.Key) func(*ticket.Book) { return func(b *ticket.Book) { b.Took = l } }
	l := []bookChange{
		{"as it is", api.OK, func(*ticket.Book) {}},
		{"a row too few", api.ErrArg, func(b *ticket.Book) { b.Seats = b.Seats[:1] }},
		{"no rows", api.ErrArg, func(b *ticket.Book) { b.Seats = nil }},
		{"a row too many", api.ErrArg, func(b *ticket.Book) { b.Seats = append(b.Seats, list(-1, -1, -1, -1, -1)) }},
		{"a seat too few", api.ErrArg, func(b *ticket.Book) { b.Seats[1] = b.Seats[1][:4] }},
		{"a seat too many", api.ErrArg, func(b *ticket.Book) { b.Seats[0] = append(b.Seats[0], 0) }},
		{"an Off too few", api.ErrArg, func(b *ticket.Book) { b.Off = b.Off[1:] }},
		{"an Off too many", api.ErrArg, func(b *ticket.Book) { b.Off = append(b.Off, true) }},
		{"all lost", api.OK, func(b *ticket.Book) { b.Off = []bool{true, true} }},
		{"a ticket of a lost show", api.OK, func(b *ticket.Book) { b.Off[0], b.Seats[0][2], b.Cash = true, 9, 20 }},
		{"a buyer 1", api.OK, func(b *ticket.Book) { b.Seats[0][2], b.Cash = 1, 20 }},
		{"MaxBuyer", api.OK, func(b *ticket.Book) { b.Seats[0][2], b.Cash = api.MaxBuyer, 20 }},
		{"a buyer beyond it", api.ErrArg, func(b *ticket.Book) { b.Seats[0][2], b.Cash = api.MaxBuyer+1, 20 }},
		{"a seat -1", api.OK, func(b *ticket.Book) { b.Seats[1][1] = -1 }},
		{"a seat that others held at first", api.OK, func(b *ticket.Book) { b.Seats[1][2] = 0 }},
		{"a seat -2", api.ErrArg, func(b *ticket.Book) { b.Seats[1][1] = -2 }},
		{"the Cash one too much", api.ErrArg, func(b *ticket.Book) { b.Cash = 1 }},
		{"the Cash one too little", api.ErrArg, func(b *ticket.Book) { b.Cash = -1 }},
		{"the Cash of two tickets", api.OK, func(b *ticket.Book) { b.Seats[0][1], b.Seats[1][4], b.Cash = 3, 3, 70 }},
		{"the Cash of two tickets, one off", api.ErrArg, func(b *ticket.Book) { b.Seats[0][1], b.Seats[1][4], b.Cash = 3, 3, 71 }},
		{"keys", api.OK, took(ticket.Key{From: 2, Number: 1}, ticket.Key{From: 0, Number: 1}, ticket.Key{From: 2, Number: api.MaxSent})},
		{"a key twice", api.ErrArg, took(ticket.Key{From: 2, Number: 1}, ticket.Key{From: 0, Number: 1}, ticket.Key{From: 2, Number: 1})},
		{"a key of the agency itself", api.ErrArg, took(ticket.Key{From: 1, Number: 1})},
		{"a key of none", api.ErrArg, took(ticket.Key{From: 3, Number: 1})},
		{"a key of -1", api.ErrArg, took(ticket.Key{From: -1, Number: 1})},
		{"a key with the number 0", api.ErrArg, took(ticket.Key{From: 0})},
		{"a key with a number beyond MaxSent", api.ErrArg, took(ticket.Key{From: 0, Number: api.MaxSent + 1})},
		{"MaxSent keys", api.OK, took(manyKeys(api.MaxSent, 0, 2)...)},
		{"MaxSent keys, the last one twice", api.ErrArg, took(append(manyKeys(api.MaxSent-1, 0, 2), ticket.Key{Number: api.MaxSent - 1})...)},
		{"one more key", api.ErrArg, took(manyKeys(api.MaxSent+1, 0, 2)...)},
		{"nothing", api.ErrArg, func(b *ticket.Book) { *b = ticket.Book{} }},
	}
	for _, n := range list(0, 1, api.MaxSent) {
		l = append(l, bookChange{"Sent", api.OK, func(b *ticket.Book) { b.Sent = n }})
	}
	for _, n := range list(lowest, -1, api.MaxSent+1, highest) {
		l = append(l, bookChange{"Sent", api.ErrArg, func(b *ticket.Book) { b.Sent = n }})
	}
	for _, n := range list(lowest, -1, 3, highest) {
		l = append(l, bookChange{"Agency", api.ErrArg, func(b *ticket.Book) { b.Agency = n }})
	}
	for _, n := range list(lowest, highest) {
		l = append(l, bookChange{"a seat", api.ErrArg, func(b *ticket.Book) { b.Seats[0][0] = n }}, bookChange{"Cash", api.ErrArg, func(b *ticket.Book) { b.Cash = n }})
	}
	return l
}

// P8.1: what makes a book valid.
func TestCheckBook(t *testing.T) {
	for i, c := range bookChanges() {
		b := opened(t, three(), 1)
		c.set(&b)
		if e := ticket.CheckBook(three(), b); e != c.want {
			t.Error(i, c.name, e)
		}
		if e := ticket.CheckBook(ticket.House{}, b); e != api.ErrArg {
			t.Error(i, c.name, "no house:", e)
		}
	}
	d := newDice(3)
	for range 300 {
		h := d.house(d.from(1, 4), d.from(1, 4))
		b := d.book(h)
		if e := ticket.CheckBook(h, b); e != api.OK {
			t.Error(h, b, e)
		}
		b.Cash += d.from(1, 9)
		if e := ticket.CheckBook(h, b); e != api.ErrArg {
			t.Error("too much cash:", h, b, e)
		}
	}
}

// P8.1: a book in which all seats of the greatest house are sold.
func TestFullBook(t *testing.T) {
	b := opened(t, full(), api.MaxAgencies-1)
	for show := range b.Seats {
		b.Seats[show] = slices.Repeat(list(api.MaxBuyer), api.MaxSeats)
	}
	b.Cash, b.Sent, b.Took = api.MaxShows*api.MaxSeats*api.MaxFare, api.MaxSent, manyKeys(api.MaxSent, 0, 2)
	if e := ticket.CheckBook(full(), b); e != api.OK {
		t.Error(e)
	}
}

// P8.1, rule R1: calls with a book refuse one that is not valid.
func TestBooksOfCalls(t *testing.T) {
	for i, c := range bookChanges() {
		b := opened(t, three(), 1)
		c.set(&b)
		l, e := ticket.Free(three(), b, 1, 1, 5)
		counts, counted := ticket.Counts(three(), b)
		if e != c.want || counted != c.want || c.want != api.OK && len(l)+len(counts) > 0 {
			t.Error(i, c.name, e, counted, l, counts)
		}
	}
}
