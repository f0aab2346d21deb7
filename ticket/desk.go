package ticket

import (
	"iter"
	"slices"

	"bigtop/api"
)

// desk is where an agency works on a copy of its book, with the message that is taken or given, and the moves of a show that is lost.
type desk struct {
	Book
	house   House
	message Message
	moves   []Move
}

func newDesk(h House, b Book) *desk {
	b.Seats = slices.Clone(b.Seats)
	for show, row := range b.Seats {
		b.Seats[show] = slices.Clone(row)
	}
	b.Off, b.Took = slices.Clone(b.Off), slices.Clone(b.Took)
	return &desk{Book: b, house: h}
}

// demand leaves the act with the error, which attempt catches, if what must hold does not.
func demand(holds bool, e api.Errno) {
	if !holds {
		panic(e)
	}
}

// attempt does an act; of one that is refused nothing stays on the desk. ErrFail, which no act has, is what a panic that is no refusal would leave.
func (d *desk) attempt(act func(Act), a Act) (e api.Errno) {
	defer func() {
		if refused, ok := recover().(api.Errno); ok {
			e = refused
		}
		if e != api.OK {
			*d = desk{}
		}
	}()
	e = api.ErrFail
	act(a)
	return api.OK
}

// do is the act that its Kind asks for.
func (d *desk) do(a Act) {
	acts := [...]func(*desk, Act){
		Sold:     (*desk).sell,
		Refunded: (*desk).refund,
		Given:    (*desk).give,
		Taken:    (*desk).take,
		Lost:     (*desk).lose,
	}
	acts[a.Kind](d, a)
}

func (d *desk) isPresold(show, day int) bool { return day >= d.house.From[show][d.Agency] }

func (d *desk) isPast(show, day int) bool { return day > d.house.Dates[show] }

// onSale yields the seats of the show and the class that may be sold on the day.
func (d *desk) onSale(show, class, day int) iter.Seq[int] {
	return func(yield func(int) bool) {
		if d.Off[show] || !d.isPresold(show, day) || d.isPast(show, day) {
			return
		}
		for seat := range d.house.ofClass(class) {
			if d.Seats[show][seat] == free && !yield(seat) {
				return
			}
		}
	}
}

func (d *desk) sell(a Act) {
	demand(d.house.isShow(a.Show) && d.house.isSeat(a.Seat) && isBuyer(a.Buyer), api.ErrRange)
	demand(!d.Off[a.Show] && d.isPresold(a.Show, a.Day), api.ErrState)
	demand(!d.isPast(a.Show, a.Day), api.ErrLate)
	seat := &d.Seats[a.Show][a.Seat]
	demand(*seat != notHeld, api.ErrNone)
	demand(*seat == free, api.ErrTwice)
	*seat = a.Buyer
	d.Cash += d.house.price(a.Seat)
}

func (d *desk) refund(a Act) {
	demand(d.house.isShow(a.Show) && d.house.isSeat(a.Seat), api.ErrRange)
	seat := &d.Seats[a.Show][a.Seat]
	demand(isBuyer(*seat), api.ErrNone)
	*seat = free
	d.Cash -= d.house.price(a.Seat)
}

func (d *desk) give(a Act) {
	demand(d.house.isAgency(a.To) && a.To != d.Agency && d.house.isShow(a.Show) && d.house.areSeats(a.Seats), api.ErrRange)
	demand(!d.Off[a.Show], api.ErrState)
	row := d.Seats[a.Show]
	demand(every(a.Seats, func(seat int) bool { return row[seat] != notHeld }), api.ErrNone)
	demand(every(a.Seats, func(seat int) bool { return row[seat] == free }), api.ErrTwice)
	demand(d.Sent < api.MaxSent, api.ErrLimit)
	for _, seat := range a.Seats {
		row[seat] = notHeld
	}
	d.Sent++
	d.message = Message{From: d.Agency, To: a.To, Number: d.Sent, Show: a.Show, Seats: slices.Clone(a.Seats)}
}

// take is about the message that lies on the desk; the act has nothing to add.
func (d *desk) take(Act) {
	m := d.message
	row := d.Seats[m.Show]
	demand(m.To == d.Agency, api.ErrRange)
	demand(!slices.Contains(d.Took, m.key()), api.ErrTwice)
	demand(every(m.Seats, func(seat int) bool { return row[seat] == notHeld }), api.ErrState)
	demand(len(d.Took) < api.MaxSent, api.ErrLimit)
	for _, seat := range m.Seats {
		row[seat] = free
	}
	d.Took = append(d.Took, m.key())
}

func (d *desk) lose(a Act) {
	demand(d.house.isShow(a.Show) && isDay(a.Day), api.ErrRange)
	demand(!d.Off[a.Show], api.ErrTwice)
	d.Off[a.Show] = true
	for seat, buyer := range d.Seats[a.Show] {
		if isBuyer(buyer) {
			d.Seats[a.Show][seat] = free
			d.moves = append(d.moves, d.move(a, seat, buyer))
		}
	}
}

// move finds another seat for a buyer of the lost show, or pays back.
func (d *desk) move(a Act, seat, buyer int) Move {
	for show := a.Show + 1; show < len(d.Seats); show++ {
		for at := range d.onSale(show, d.house.class(seat), a.Day) {
			d.Seats[show][at] = buyer
			return Move{Seat: seat, Show: show, At: at}
		}
	}
	d.Cash -= d.house.price(seat)
	return Move{Seat: seat, Show: -1, At: -1}
}
