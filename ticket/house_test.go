package ticket_test

import (
	"slices"
	"testing"

	"bigtop/api"
	"bigtop/ticket"
)

// change is what makes a house valid (want OK) or not.
type change struct {
	name string
	want api.Errno
	set  func(*ticket.House)
}

// numbers makes a change for each number that is valid, and for each one that is not.
func numbers(name string, set func(h *ticket.House, n int), valid, bad []int) (l []change) {
	for _, n := range valid {
		l = append(l, change{name, api.OK, func(h *ticket.House) { set(h, n) }})
	}
	for _, n := range append(bad, lowest, highest) {
		l = append(l, change{name, api.ErrArg, func(h *ticket.House) { set(h, n) }})
	}
	return l
}

func checkChanges(t *testing.T, l []change) {
	t.Helper()
	for i, c := range l {
		h := house()
		c.set(&h)
		if e := ticket.CheckHouse(h); e != c.want {
			t.Error(i, c.name, e)
		}
	}
}

// P8.1: sectors, their classes and seats, and prices.
func TestCheckSectors(t *testing.T) {
	// hold makes the shows fit to the sectors.
	hold := func(h *ticket.House, l []ticket.Sector) {
		h.Sectors = l
		size := max(0, min(len(classes(*h)), 10*api.MaxSeats))
		h.Holds = rows(make([]int, size), make([]int, size))
	}
	many := func(count, seats int) func(*ticket.House) {
		return func(h *ticket.House) {
			hold(h, slices.Repeat(sectors(ticket.Sector{Class: 1, Seats: seats}), count))
		}
	}
	checkChanges(t, []change{
		{"as it is", api.OK, func(*ticket.House) {}},
		{"no sectors", api.ErrArg, many(0, 0)},
		{"1 sector", api.OK, many(1, 3)},
		{"MaxSectors sectors", api.OK, many(10, 3)},
		{"one more sector", api.ErrArg, many(11, 3)},
		{"a sector without seats", api.ErrArg, func(h *ticket.House) { hold(h, sectors(ticket.Sector{Seats: 2}, ticket.Sector{})) }},
		{"sectors with 1 seat", api.OK, many(2, 1)},
		{"sectors with MaxBench seats, together MaxSeats", api.OK, many(2, 50)},
		{"a sector with one more seat", api.ErrArg, many(1, 51)},
		{"together one seat more", api.ErrArg, func(h *ticket.House) {
			hold(h, sectors(ticket.Sector{Seats: 50}, ticket.Sector{Seats: 50}, ticket.Sector{Seats: 1}))
		}},
		{"ten sectors with MaxBench seats", api.ErrArg, many(10, 50)},
		{"no prices", api.ErrArg, func(h *ticket.House) { h.Prices = nil }},
		{"1 price", api.OK, func(h *ticket.House) { h.Sectors[1].Class, h.Prices = 0, list(3) }},
		{"a class without a price", api.ErrArg, func(h *ticket.House) { h.Prices = list(3) }},
		{"MaxClasses prices", api.OK, func(h *ticket.House) { h.Sectors[1].Class, h.Prices = 4, list(1, 2, 3, 4, 5) }},
		{"one more price", api.ErrArg, func(h *ticket.House) { h.Prices = list(1, 2, 3, 4, 5, 6) }},
	})
	checkChanges(t, numbers("seats", func(h *ticket.House, n int) { h.Sectors[1].Seats = n }, list(3), list(-1, 0, 51)))
	checkChanges(t, numbers("class", func(h *ticket.House, n int) { h.Sectors[1].Class = n }, list(0, 1), list(-1, 2)))
	for i := range 2 {
		checkChanges(t, numbers("price", func(h *ticket.House, n int) { h.Prices[i] = n }, list(0, 1, api.MaxFare), list(-1, api.MaxFare+1)))
	}
	spoilt := house()
	spoilt.Sectors = sectors(ticket.Sector{Seats: highest}, ticket.Sector{Seats: highest}, ticket.Sector{Seats: 7})
	if e := ticket.CheckHouse(spoilt); e != api.ErrArg {
		t.Error("seats beyond all numbers:", e)
	}
}

// P8.1: shows, their dates, presales, and who holds their seats.
func TestCheckShows(t *testing.T) {
	show := func(dates ...int) func(*ticket.House) {
		return func(h *ticket.House) {
			h.Dates = dates
			h.From = slices.Repeat(rows(list(0, 0)), len(dates))
			h.Holds = slices.Repeat(rows(list(0, 0, 0, 0, 0)), len(dates))
		}
	}
	share := func(agencies ...int) func(*ticket.House) {
		return func(h *ticket.House) {
			h.Holds = rows(make([]int, 5), make([]int, 5))
			h.From = rows(make([]int, agencies[0]), make([]int, agencies[len(agencies)-1]))
		}
	}
	checkChanges(t, []change{
		{"no shows", api.ErrArg, show()},
		{"1 show", api.OK, show(0)},
		{"MaxShows shows", api.OK, show(0, 1, 2, 3, 4, 5)},
		{"one more show", api.ErrArg, show(0, 1, 2, 3, 4, 5, 6)},
		{"the same date twice", api.ErrArg, show(1, 2, 2)},
		{"falling dates", api.ErrArg, show(1, 3, 2)},
		{"a date at MaxDate", api.OK, show(1, 999, 1000)},
		{"a date beyond it", api.ErrArg, show(1, 999, 1001)},
		{"a date below 0", api.ErrArg, show(-1, 999)},
		{"From with a show too few", api.ErrArg, func(h *ticket.House) { h.From = h.From[:1] }},
		{"From without shows", api.ErrArg, func(h *ticket.House) { h.From = nil }},
		{"From with a show too many", api.ErrArg, func(h *ticket.House) { h.From = append(h.From, list(0, 0)) }},
		{"Holds with a show too few", api.ErrArg, func(h *ticket.House) { h.Holds = h.Holds[:1] }},
		{"Holds with a show too many", api.ErrArg, func(h *ticket.House) { h.Holds = append(h.Holds, list(0, 0, 0, 0, 0)) }},
		{"a seat too few", api.ErrArg, func(h *ticket.House) { h.Holds[1] = h.Holds[1][1:] }},
		{"a seat too many", api.ErrArg, func(h *ticket.House) { h.Holds[1] = append(h.Holds[1], 0) }},
		{"no agencies", api.ErrArg, share(0)},
		{"1 agency", api.OK, share(1)},
		{"MaxAgencies agencies", api.OK, share(6)},
		{"one more agency", api.ErrArg, share(7)},
		{"an agency too few for the second show", api.ErrArg, share(2, 1)},
		{"an agency too many for the second show", api.ErrArg, share(2, 3)},
		{"an agency that holds nothing", api.OK, share(3)},
		{"a house with MaxSeats, and all that there may be", api.OK, func(h *ticket.House) { *h = full() }},
		{"nothing", api.ErrArg, func(h *ticket.House) { *h = ticket.House{} }},
	})
	for i := range 2 {
		checkChanges(t, numbers("From", func(h *ticket.House, n int) { h.From[i][1] = n }, list(0, 11, api.MaxDate), list(-1, api.MaxDate+1)))
		checkChanges(t, numbers("Holds", func(h *ticket.House, n int) { h.Holds[i][4] = n }, list(0, 1), list(-1, 2)))
	}
}

// P8.1: the class of each seat.
func TestClass(t *testing.T) {
	for seat, want := range list(0, 0, 1, 1, 1) {
		if class, e := ticket.Class(house(), seat); class != want || e != api.OK {
			t.Error(seat, class, e)
		}
	}
	d := newDice(1)
	for range 100 {
		h := d.house(1, 1)
		for seat, want := range classes(h) {
			if class, e := ticket.Class(h, seat); class != want || e != api.OK {
				t.Error(h.Sectors, seat, class, e)
			}
		}
		if _, e := ticket.Class(h, len(classes(h))); e != api.ErrRange {
			t.Error(h.Sectors, "one seat more:", e)
		}
	}
	if class, e := ticket.Class(full(), api.MaxSeats-1); class != api.MaxClasses-1 || e != api.OK {
		t.Error("the last seat:", class, e)
	}
}

// P8.1: an agency's book in the first world has what Holds says, all free, and nothing else.
func TestOpen(t *testing.T) {
	want := ticket.Book{Agency: 1, Seats: rows(list(-1, -1, -1, -1, -1), list(-1, 0, -1, 0, 0)), Off: []bool{false, false}}
	if b := opened(t, house(), 1); !sameBook(b, want) {
		t.Error(b)
	}
	d := newDice(2)
	for range 200 {
		h := d.house(d.from(1, 4), d.from(1, 4))
		for agency := range h.From[0] {
			b := opened(t, h, agency)
			if e := ticket.CheckBook(h, b); e != api.OK || b.Agency != agency || b.Sent != 0 || len(b.Took) != 0 || b.Cash != 0 || slices.Contains(b.Off, true) {
				t.Error(h, b, e)
			}
			for show, row := range h.Holds {
				for seat, holder := range row {
					if want := map[bool]int{true: 0, false: -1}[holder == agency]; b.Seats[show][seat] != want {
						t.Error(h, agency, show, seat, b.Seats[show][seat])
					}
				}
			}
		}
	}
}
