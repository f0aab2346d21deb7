package ticket_test

import (
	"math/rand"
	"slices"
	"testing"

	"bigtop/api"
	"bigtop/ticket"
)

const (
	lowest  = -1 << 63
	highest = 1<<63 - 1
)

func list(l ...int) []int { return l }

func rows(l ...[]int) [][]int { return l }

func sectors(l ...ticket.Sector) []ticket.Sector { return l }

func keys(l ...ticket.Key) []ticket.Key { return l }

// house is that of the chapter's examples.
func house() ticket.House {
	return ticket.House{
		Sectors: sectors(ticket.Sector{Class: 0, Seats: 2}, ticket.Sector{Class: 1, Seats: 3}),
		Prices:  list(50, 20),
		Dates:   list(10, 20),
		From:    rows(list(0, 5), list(0, 5)),
		Holds:   rows(list(0, 0, 0, 0, 0), list(0, 1, 0, 1, 1)),
	}
}

// plain has shows on the days 10, 20, .., in which the agency 0 holds all; seats of the classes 0 and 1 take turns, and all agencies may sell on all days.
func plain(shows, seats, agencies int) ticket.House {
	h := ticket.House{Prices: list(50, 20)}
	for i := range seats {
		h.Sectors = append(h.Sectors, ticket.Sector{Class: i % 2, Seats: 1})
	}
	for show := range shows {
		h.Dates = append(h.Dates, 10*show+10)
		h.From = append(h.From, make([]int, agencies))
		h.Holds = append(h.Holds, make([]int, seats))
	}
	return h
}

// full has as many of all things as there may be, and everything is at its greatest.
func full() ticket.House {
	h := ticket.House{
		Sectors: slices.Repeat(sectors(ticket.Sector{Class: api.MaxClasses - 1, Seats: api.MaxSeats / api.MaxSectors}), api.MaxSectors),
		Prices:  slices.Repeat(list(api.MaxFare), api.MaxClasses),
	}
	for show := range api.MaxShows {
		h.Dates = append(h.Dates, api.MaxDate-api.MaxShows+1+show)
		h.From = append(h.From, slices.Repeat(list(api.MaxDate), api.MaxAgencies))
		h.Holds = append(h.Holds, slices.Repeat(list(api.MaxAgencies-1), api.MaxSeats))
	}
	return h
}

func opened(t *testing.T, h ticket.House, agency int) ticket.Book {
	t.Helper()
	b, e := ticket.Open(h, agency)
	if e != api.OK {
		t.Fatal("Open:", agency, e)
	}
	return b
}

// sold is the book after these seats of the show were sold to the buyers 101, 102, ..
func sold(t *testing.T, h ticket.House, b ticket.Book, show int, seats ...int) ticket.Book {
	t.Helper()
	for i, seat := range seats {
		c, e := ticket.Sell(h, b, show, seat, 101+i, h.Dates[show])
		if e != api.OK {
			t.Fatal("Sell:", show, seat, e)
		}
		b = c
	}
	return b
}

func ran(t *testing.T, h ticket.House, acts ...ticket.Act) ticket.World {
	t.Helper()
	w, errors, e := ticket.Run(h, acts)
	if e != api.OK || slices.ContainsFunc(errors, func(e api.Errno) bool { return e != api.OK }) {
		t.Fatal("Run:", errors, e)
	}
	return w
}

func copyRows(l [][]int) [][]int {
	l = slices.Clone(l)
	for i := range l {
		l[i] = slices.Clone(l[i])
	}
	return l
}

func sameRows(a, b [][]int) bool { return slices.EqualFunc(a, b, slices.Equal) }

func copyHouse(h ticket.House) ticket.House {
	h.Sectors, h.Prices, h.Dates = slices.Clone(h.Sectors), slices.Clone(h.Prices), slices.Clone(h.Dates)
	h.From, h.Holds = copyRows(h.From), copyRows(h.Holds)
	return h
}

func sameHouse(a, b ticket.House) bool {
	return slices.Equal(a.Sectors, b.Sectors) && slices.Equal(a.Prices, b.Prices) && slices.Equal(a.Dates, b.Dates) &&
		sameRows(a.From, b.From) && sameRows(a.Holds, b.Holds)
}

func copyBook(b ticket.Book) ticket.Book {
	b.Seats, b.Off, b.Took = copyRows(b.Seats), slices.Clone(b.Off), slices.Clone(b.Took)
	return b
}

func sameBook(a, b ticket.Book) bool {
	return a.Agency == b.Agency && sameRows(a.Seats, b.Seats) && slices.Equal(a.Off, b.Off) && a.Sent == b.Sent &&
		slices.Equal(a.Took, b.Took) && a.Cash == b.Cash
}

func copyMessage(m ticket.Message) ticket.Message {
	m.Seats = slices.Clone(m.Seats)
	return m
}

func sameMessage(a, b ticket.Message) bool {
	return a.From == b.From && a.To == b.To && a.Number == b.Number && a.Show == b.Show && slices.Equal(a.Seats, b.Seats)
}

func copyWorld(w ticket.World) ticket.World {
	w.Books, w.Messages = slices.Clone(w.Books), slices.Clone(w.Messages)
	for i := range w.Books {
		w.Books[i] = copyBook(w.Books[i])
	}
	for i := range w.Messages {
		w.Messages[i] = copyMessage(w.Messages[i])
	}
	return w
}

func sameWorld(a, b ticket.World) bool {
	return slices.EqualFunc(a.Books, b.Books, sameBook) && slices.EqualFunc(a.Messages, b.Messages, sameMessage)
}

func sameCounts(a, b [][]ticket.Count) bool { return slices.EqualFunc(a, b, slices.Equal) }

// classes are those of all seats.
func classes(h ticket.House) (l []int) {
	for _, s := range h.Sectors {
		l = append(l, slices.Repeat(list(s.Class), s.Seats)...)
	}
	return l
}

// cashBy goes through all seats.
func cashBy(h ticket.House, b ticket.Book) (sum int) {
	for _, row := range b.Seats {
		for seat, class := range classes(h) {
			if row[seat] > 0 {
				sum += h.Prices[class]
			}
		}
	}
	return sum
}

// mayBeSoldBy reports whether the agency of the book may sell the show on the day, as far as it knows.
func mayBeSoldBy(h ticket.House, b ticket.Book, show, day int) bool {
	return !b.Off[show] && day >= h.From[show][b.Agency] && day <= h.Dates[show]
}

// freeBy goes through all seats.
func freeBy(h ticket.House, b ticket.Book, show, class, day int) (l []int) {
	for seat, c := range classes(h) {
		if c == class && b.Seats[show][seat] == 0 && mayBeSoldBy(h, b, show, day) {
			l = append(l, seat)
		}
	}
	return l
}

func countsBy(h ticket.House, b ticket.Book) [][]ticket.Count {
	l := make([][]ticket.Count, len(h.Dates))
	for show := range l {
		l[show] = make([]ticket.Count, len(h.Prices))
		for seat, class := range classes(h) {
			if b.Seats[show][seat] == 0 {
				l[show][class].Free++
			} else if b.Seats[show][seat] > 0 {
				l[show][class].Sold++
			}
		}
	}
	return l
}

// dice gives numbers that are the same in each run.
type dice struct{ *rand.Rand }

func newDice(seed int64) dice { return dice{rand.New(rand.NewSource(seed))} }

// from returns a number from lo to hi.
func (d dice) from(lo, hi int) int { return lo + d.Intn(hi-lo+1) }

// index is mostly one of so many things.
func (d dice) index(size int) int {
	if d.Intn(12) == 0 {
		return list(-1, size)[d.Intn(2)]
	}
	return d.Intn(size)
}

func (d dice) fill(l []int, lo, hi int) []int {
	for i := range l {
		l[i] = d.from(lo, hi)
	}
	return l
}

// house is a small one.
func (d dice) house(shows, agencies int) ticket.House {
	h := ticket.House{Prices: d.fill(make([]int, d.from(1, 3)), 0, 9)}
	for range d.from(1, 3) {
		h.Sectors = append(h.Sectors, ticket.Sector{Class: d.Intn(len(h.Prices)), Seats: d.from(1, 3)})
	}
	day := d.from(0, 5)
	for range shows {
		h.Dates = append(h.Dates, day)
		h.From = append(h.From, d.fill(make([]int, agencies), 0, 6))
		h.Holds = append(h.Holds, d.fill(make([]int, len(classes(h))), 0, agencies-1))
		day += d.from(1, 4)
	}
	return h
}

// book is any valid one of the house; lost shows may have tickets.
func (d dice) book(h ticket.House) ticket.Book {
	b := ticket.Book{Agency: d.Intn(len(h.From[0])), Sent: []int{0, d.from(0, api.MaxSent), api.MaxSent}[d.Intn(3)]}
	for range h.Dates {
		row := make([]int, len(classes(h)))
		for seat := range row {
			row[seat] = []int{-1, 0, d.from(1, 5)}[d.Intn(3)]
		}
		b.Seats = append(b.Seats, row)
		b.Off = append(b.Off, d.Intn(3) == 0)
	}
	for number := range d.from(0, 4) {
		if from := d.Intn(len(h.From[0])); from != b.Agency {
			b.Took = append(b.Took, ticket.Key{From: from, Number: number + 1})
		}
	}
	b.Cash = cashBy(h, b)
	return b
}

// seats are some of the house, rising.
func (d dice) seats(h ticket.House) (l []int) {
	for seat := range classes(h) {
		if d.Intn(len(classes(h))) == 0 {
			l = append(l, seat)
		}
	}
	return l
}

// act is mostly one that makes sense.
func (d dice) act(h ticket.House, messages int) ticket.Act {
	a := ticket.Act{
		Kind:   []uint8{1, 1, 1, 2, 3, 3, 4, 4, 4, 5}[d.Intn(10)],
		Agency: d.Intn(len(h.From[0])), Show: d.Intn(len(h.Dates)), Seat: d.Intn(len(classes(h))), Buyer: d.from(1, 9),
		Day: d.from(0, h.Dates[len(h.Dates)-1]+1), To: d.Intn(len(h.From[0])), Message: d.from(0, messages), Seats: d.seats(h),
	}
	if d.Intn(30) > 0 {
		return a
	}
	n := list(lowest, -1, 6, 1000, 1001, highest)[d.Intn(6)]
	switch d.Intn(8) {
	case 0:
		a.Kind = []uint8{0, 6, 255}[d.Intn(3)]
	case 1:
		a.Agency = n
	case 2:
		a.Show = n
	case 3:
		a.Seat, a.Buyer = n, n
	case 4:
		a.Day = n
	case 5:
		a.To = n
	case 6:
		a.Message = n
	case 7:
		a.Seats = append(a.Seats, n)
	}
	return a
}

// world is one to which acts of these kinds have led.
func (d dice) world(h ticket.House, kinds ...uint8) ticket.World {
	acts := make([]ticket.Act, d.from(1, 40))
	for i := range acts {
		acts[i] = d.act(h, min(i, 5))
		acts[i].Kind = kinds[d.Intn(len(kinds))]
	}
	w, _, _ := ticket.Run(h, acts)
	return w
}
