package ticket

import (
	"iter"
	"slices"

	"bigtop/api"
)

func (m Message) key() Key { return Key{From: m.From, Number: m.Number} }

func (m Message) has(show, seat int) bool { return m.Show == show && slices.Contains(m.Seats, seat) }

// do does an act; one that is refused leaves the world as it was.
func (w *World) do(h House, a Act) api.Errno {
	switch {
	case !isKind(a.Kind):
		return api.ErrArg
	case !h.isAgency(a.Agency) || a.Kind == Taken && !within(a.Message, 0, len(w.Messages)-1):
		return api.ErrRange
	}
	d := newDesk(h, w.Books[a.Agency])
	if a.Kind == Taken {
		d.message = w.Messages[a.Message]
	}
	if e := d.attempt(d.do, a); e != api.OK {
		return e
	}
	w.Books[a.Agency] = d.Book
	if a.Kind == Given {
		w.Messages = append(w.Messages, d.message)
	}
	return api.OK
}

func (w World) isInOrder() bool {
	for agency, b := range w.Books {
		if b.Agency != agency {
			return false
		}
	}
	return true
}

// onTheirWay yields the messages that were not taken.
func (w World) onTheirWay() iter.Seq2[int, Message] {
	return func(yield func(int, Message) bool) {
		took := make([]map[Key]bool, len(w.Books))
		for agency, b := range w.Books {
			took[agency] = map[Key]bool{}
			for _, k := range b.Took {
				took[agency][k] = true
			}
		}
		for i, m := range w.Messages {
			if !took[m.To][m.key()] && !yield(i, m) {
				return
			}
		}
	}
}

func (w World) where(show, seat int) (agency, message int, e api.Errno) {
	for agency, b := range w.Books {
		if b.Seats[show][seat] != notHeld {
			return agency, -1, api.OK
		}
	}
	for i, m := range w.onTheirWay() {
		if m.has(show, seat) {
			return -1, i, api.OK
		}
	}
	return 0, 0, api.ErrNone
}

// isNumbered reports whether the messages of each agency have the numbers 1, 2, .. up to those that it has sent.
func (w World) isNumbered() bool {
	sent := make([]int, len(w.Books))
	for _, m := range w.Messages {
		sent[m.From]++
		if m.Number != sent[m.From] {
			return false
		}
	}
	return slices.EqualFunc(w.Books, sent, func(b Book, n int) bool { return b.Sent == n })
}

// tookWhatWasSent counts on that no two messages have the same key.
func (w World) tookWhatWasSent() bool {
	to := map[Key]int{}
	for _, m := range w.Messages {
		to[m.key()] = m.To
	}
	return every(w.Books, func(b Book) bool {
		return every(b.Took, func(k Key) bool {
			agency, sent := to[k]
			return sent && agency == b.Agency
		})
	})
}

// isOnce reports whether each seat of each show is in exactly one place.
func (h House) isOnce(w World) bool {
	places := make([][]int, len(h.Dates))
	for show := range places {
		places[show] = make([]int, h.size())
		for _, b := range w.Books {
			for seat, buyer := range b.Seats[show] {
				if buyer != notHeld {
					places[show][seat]++
				}
			}
		}
	}
	for _, m := range w.onTheirWay() {
		for _, seat := range m.Seats {
			places[m.Show][seat]++
		}
	}
	return every(places, func(row []int) bool { return every(row, func(n int) bool { return n == 1 }) })
}
