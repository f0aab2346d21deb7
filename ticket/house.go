package ticket

import "iter"

// These stand in the place of a buyer.
const (
	notHeld = -1
	free    = 0
)

// agencies counts on that there is a show.
func (h House) agencies() int { return len(h.From[0]) }

func (h House) size() int {
	size := 0
	for _, s := range h.Sectors {
		size += s.Seats
	}
	return size
}

func (h House) class(seat int) int {
	sector := 0
	for seat >= h.Sectors[sector].Seats {
		seat -= h.Sectors[sector].Seats
		sector++
	}
	return h.Sectors[sector].Class
}

func (h House) price(seat int) int { return h.Prices[h.class(seat)] }

// ofClass yields the seats of a class in order.
func (h House) ofClass(class int) iter.Seq[int] {
	return func(yield func(int) bool) {
		first := 0
		for _, s := range h.Sectors {
			for seat := first; s.Class == class && seat < first+s.Seats; seat++ {
				if !yield(seat) {
					return
				}
			}
			first += s.Seats
		}
	}
}

// counts tells what the book has of each class, whether a show is lost or not.
func (h House) counts(b Book) [][]Count {
	out := make([][]Count, 0, len(b.Seats))
	for _, row := range b.Seats {
		counts := make([]Count, len(h.Prices))
		for class := range counts {
			for seat := range h.ofClass(class) {
				counts[class].add(row[seat])
			}
		}
		out = append(out, counts)
	}
	return out
}

func (c *Count) add(buyer int) {
	switch buyer {
	case notHeld:
	case free:
		c.Free++
	default:
		c.Sold++
	}
}

// cash is what all that is sold costs.
func (h House) cash(b Book) int {
	sum := 0
	for _, counts := range h.counts(b) {
		for class, c := range counts {
			sum += c.Sold * h.Prices[class]
		}
	}
	return sum
}

func (h House) open(agency int) Book {
	b := Book{Agency: agency, Off: make([]bool, len(h.Dates))}
	for _, holds := range h.Holds {
		row := make([]int, len(holds))
		for seat, holder := range holds {
			if holder != agency {
				row[seat] = notHeld
			}
		}
		b.Seats = append(b.Seats, row)
	}
	return b
}

func (h House) first() World {
	var w World
	for agency := range h.agencies() {
		w.Books = append(w.Books, h.open(agency))
	}
	return w
}
