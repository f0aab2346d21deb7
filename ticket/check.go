package ticket

import "bigtop/api"

func within(n, lo, hi int) bool { return lo <= n && n <= hi }

func every[T any](l []T, valid func(T) bool) bool {
	for _, x := range l {
		if !valid(x) {
			return false
		}
	}
	return true
}

func rises(l []int) bool {
	for i := 1; i < len(l); i++ {
		if l[i] <= l[i-1] {
			return false
		}
	}
	return true
}

func isPrice(n int) bool { return within(n, 0, api.MaxFare) }

func isDay(n int) bool { return within(n, 0, api.MaxDate) }

func isNumber(n int) bool { return within(n, 1, api.MaxSent) }

func isBuyer(n int) bool { return within(n, 1, api.MaxBuyer) }

func isKind(n uint8) bool { return Sold <= n && n <= Lost }

// Each of the following counts on the lists of the house that it looks at; valid asks for these first.

func (h House) isClass(class int) bool { return within(class, 0, len(h.Prices)-1) }

func (h House) isShow(show int) bool { return within(show, 0, len(h.Dates)-1) }

func (h House) isAgency(agency int) bool { return within(agency, 0, h.agencies()-1) }

func (h House) isSeat(seat int) bool { return within(seat, 0, h.size()-1) }

func (h House) areSeats(l []int) bool { return len(l) > 0 && rises(l) && every(l, h.isSeat) }

func (h House) valid() bool {
	return within(len(h.Prices), 1, api.MaxClasses) && every(h.Prices, isPrice) &&
		within(len(h.Sectors), 1, api.MaxSectors) && every(h.Sectors, h.isSector) && h.size() <= api.MaxSeats &&
		within(len(h.Dates), 1, api.MaxShows) && every(h.Dates, isDay) && rises(h.Dates) &&
		len(h.From) == len(h.Dates) && within(h.agencies(), 1, api.MaxAgencies) && every(h.From, h.isPresale) &&
		len(h.Holds) == len(h.Dates) && every(h.Holds, h.isShared)
}

func (h House) isSector(s Sector) bool { return h.isClass(s.Class) && within(s.Seats, 1, api.MaxBench) }

// isPresale reports whether these can be the days from which the agencies may sell a show.
func (h House) isPresale(from []int) bool { return len(from) == h.agencies() && every(from, isDay) }

// isShared reports whether these can be the agencies of the seats of a show.
func (h House) isShared(holds []int) bool { return len(holds) == h.size() && every(holds, h.isAgency) }

func (h House) isBook(b Book) bool {
	return h.isAgency(b.Agency) &&
		len(b.Seats) == len(h.Dates) && every(b.Seats, h.isRow) &&
		len(b.Off) == len(h.Dates) &&
		within(b.Sent, 0, api.MaxSent) &&
		len(b.Took) <= api.MaxSent && h.areTaken(b) &&
		b.Cash == h.cash(b)
}

func (h House) isRow(row []int) bool {
	return len(row) == h.size() && every(row, func(n int) bool { return n == notHeld || n == free || isBuyer(n) })
}

// areTaken reports whether the book can have taken messages with these keys; what an agency takes is another one's.
func (h House) areTaken(b Book) bool {
	known := map[Key]bool{}
	return every(b.Took, func(k Key) bool {
		twice := known[k]
		known[k] = true
		return !twice && h.isAgency(k.From) && k.From != b.Agency && isNumber(k.Number)
	})
}

func (h House) isMessage(m Message) bool {
	return h.isAgency(m.From) && h.isAgency(m.To) && m.From != m.To &&
		isNumber(m.Number) && h.isShow(m.Show) && h.areSeats(m.Seats)
}

func (h House) isWorld(w World) bool {
	return len(w.Books) == h.agencies() && every(w.Books, h.isBook) && w.isInOrder() && every(w.Messages, h.isMessage)
}
