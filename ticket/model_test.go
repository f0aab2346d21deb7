package ticket_test

import (
	"slices"

	"bigtop/api"
	"bigtop/ticket"
)

// A model of a world knows of each seat of each show where it is, so that it can be in one place only: with an agency, or in a message.
type model struct {
	house    ticket.House
	place    [][]int // an agency, or -1 minus the index of a message
	buyer    [][]int // 0 for none
	off      [][]bool
	took     [][]ticket.Key
	messages []ticket.Message
}

func newModel(h ticket.House) *model {
	m := &model{house: h, place: copyRows(h.Holds), buyer: copyRows(h.Holds), off: make([][]bool, len(h.From[0])), took: make([][]ticket.Key, len(h.From[0]))}
	for _, row := range m.buyer {
		clear(row)
	}
	for agency := range m.off {
		m.off[agency] = make([]bool, len(h.Dates))
	}
	return m
}

// question is one of the table of errors.
type question struct {
	bad bool
	e   api.Errno
}

func isIn(n, size int) bool { return n >= 0 && n < size }

func (m *model) isShow(show int) bool { return isIn(show, len(m.house.Dates)) }

func (m *model) isSeat(seat int) bool { return isIn(seat, len(classes(m.house))) }

func (m *model) isAgency(agency int) bool { return isIn(agency, len(m.off)) }

func (m *model) sent(agency int) (n int) {
	for _, message := range m.messages {
		if message.From == agency {
			n++
		}
	}
	return n
}

// questions of an act are asked in order; the later ones count on the answers to the earlier ones.
func (m *model) questions(a ticket.Act) []func() question {
	say := func(e api.Errno, bad func() bool) func() question {
		return func() question { return question{bad(), e} }
	}
	head := []func() question{
		say(api.ErrArg, func() bool { return a.Kind < 1 || a.Kind > 5 }),
		say(api.ErrRange, func() bool {
			return !m.isAgency(a.Agency) || a.Kind == ticket.Taken && !isIn(a.Message, len(m.messages))
		}),
	}
	held := func(seat int) bool { return m.place[a.Show][seat] == a.Agency }
	switch a.Kind {
	case ticket.Sold:
		return append(head,
			say(api.ErrRange, func() bool { return !m.isShow(a.Show) || !m.isSeat(a.Seat) || a.Buyer < 1 || a.Buyer > 1000000 }),
			say(api.ErrState, func() bool { return m.off[a.Agency][a.Show] || a.Day < m.house.From[a.Show][a.Agency] }),
			say(api.ErrLate, func() bool { return a.Day > m.house.Dates[a.Show] }),
			say(api.ErrNone, func() bool { return !held(a.Seat) }),
			say(api.ErrTwice, func() bool { return m.buyer[a.Show][a.Seat] > 0 }))
	case ticket.Refunded:
		return append(head,
			say(api.ErrRange, func() bool { return !m.isShow(a.Show) || !m.isSeat(a.Seat) }),
			say(api.ErrNone, func() bool { return !held(a.Seat) || m.buyer[a.Show][a.Seat] == 0 }))
	case ticket.Given:
		return append(head,
			say(api.ErrRange, func() bool {
				rising := slices.IsSorted(a.Seats) && len(slices.Compact(slices.Clone(a.Seats))) == len(a.Seats)
				return !m.isAgency(a.To) || a.To == a.Agency || !m.isShow(a.Show) || len(a.Seats) == 0 || !rising ||
					slices.ContainsFunc(a.Seats, func(seat int) bool { return !m.isSeat(seat) })
			}),
			say(api.ErrState, func() bool { return m.off[a.Agency][a.Show] }),
			say(api.ErrNone, func() bool { return slices.ContainsFunc(a.Seats, func(seat int) bool { return !held(seat) }) }),
			say(api.ErrTwice, func() bool {
				return slices.ContainsFunc(a.Seats, func(seat int) bool { return m.buyer[a.Show][seat] > 0 })
			}))
	case ticket.Taken:
		return append(head,
			say(api.ErrRange, func() bool { return m.messages[a.Message].To != a.Agency }),
			say(api.ErrTwice, func() bool {
				message := m.messages[a.Message]
				return m.place[message.Show][message.Seats[0]] != -1-a.Message
			}))
	case ticket.Lost:
		return append(head,
			say(api.ErrRange, func() bool { return !m.isShow(a.Show) || a.Day < 0 || a.Day > 1000 }),
			say(api.ErrTwice, func() bool { return m.off[a.Agency][a.Show] }))
	}
	return head
}

func (m *model) do(a ticket.Act) api.Errno {
	for _, ask := range m.questions(a) {
		if q := ask(); q.bad {
			return q.e
		}
	}
	switch a.Kind {
	case ticket.Sold:
		m.buyer[a.Show][a.Seat] = a.Buyer
	case ticket.Refunded:
		m.buyer[a.Show][a.Seat] = 0
	case ticket.Given:
		for _, seat := range a.Seats {
			m.place[a.Show][seat] = -1 - len(m.messages)
		}
		m.messages = append(m.messages, ticket.Message{From: a.Agency, To: a.To, Number: m.sent(a.Agency) + 1, Show: a.Show, Seats: a.Seats})
	case ticket.Taken:
		message := m.messages[a.Message]
		for _, seat := range message.Seats {
			m.place[message.Show][seat] = a.Agency
		}
		m.took[a.Agency] = append(m.took[a.Agency], ticket.Key{From: message.From, Number: message.Number})
	case ticket.Lost:
		m.lose(a)
	}
	return api.OK
}

func (m *model) lose(a ticket.Act) {
	m.off[a.Agency][a.Show] = true
	for seat, class := range classes(m.house) {
		buyer := m.buyer[a.Show][seat]
		if m.place[a.Show][seat] != a.Agency || buyer == 0 {
			continue
		}
		m.buyer[a.Show][seat] = 0
		if show, at := m.other(a, class); show >= 0 {
			m.buyer[show][at] = buyer
		}
	}
}

// other is the first seat that the ticket can go to.
func (m *model) other(a ticket.Act, class int) (show, at int) {
	for show, date := range m.house.Dates {
		for at, c := range classes(m.house) {
			if show > a.Show && !m.off[a.Agency][show] && a.Day >= m.house.From[show][a.Agency] && a.Day <= date &&
				c == class && m.place[show][at] == a.Agency && m.buyer[show][at] == 0 {
				return show, at
			}
		}
	}
	return -1, -1
}

func (m *model) world() (w ticket.World) {
	for agency := range m.off {
		b := ticket.Book{Agency: agency, Off: m.off[agency], Sent: m.sent(agency), Took: m.took[agency]}
		for show, row := range m.place {
			b.Seats = append(b.Seats, slices.Repeat(list(-1), len(row)))
			for seat, place := range row {
				if place == agency {
					b.Seats[show][seat] = m.buyer[show][seat]
				}
			}
		}
		b.Cash = cashBy(m.house, b)
		w.Books = append(w.Books, b)
	}
	w.Messages = m.messages
	return w
}
