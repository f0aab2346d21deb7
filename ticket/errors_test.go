package ticket_test

import (
	"slices"
	"strings"
	"testing"

	"bigtop/api"
	"bigtop/ticket"
)

// args are what calls are made of; a defect spoils some of them.
type args struct {
	h                                    ticket.House
	b                                    ticket.Book
	w                                    ticket.World
	m                                    ticket.Message
	agency, to, show, seat, class, buyer int
	day                                  int
	seats                                []int
	acts                                 []ticket.Act
}

type defect struct {
	name  string
	want  api.Errno
	spoil func(*args)
}

// goodArgs have the book of the agency 0, who sold the seat 4 of the show 0 and may be sent the seat 3 of the show 1.
func goodArgs() args {
	a := args{h: three(), to: 1, class: 1, buyer: 7, day: 3, seats: list(0, 2)}
	a.acts = []ticket.Act{
		{Kind: ticket.Sold, Seat: 4, Buyer: 7, Day: 3},
		{Kind: ticket.Given, Agency: 1, Show: 1, Seats: list(3)},
		{Kind: ticket.Given, Agency: 0, To: 2, Show: 1, Seats: list(2)},
		{Kind: ticket.Taken, Agency: 2, Message: 1},
	}
	a.w, _, _ = ticket.Run(a.h, a.acts)
	a.b, a.m = copyBook(a.w.Books[0]), copyMessage(a.w.Messages[0])
	return a
}

func is(name string, want api.Errno, spoil func(*args)) defect { return defect{name, want, spoil} }

func houseDefects() []defect {
	return []defect{
		is("no sectors", api.ErrArg, func(a *args) { a.h.Sectors = nil }),
		is("a class without a price", api.ErrArg, func(a *args) { a.h.Prices = list(5) }),
		is("falling dates", api.ErrArg, func(a *args) { a.h.Dates[1] = 0 }),
		is("no agencies", api.ErrArg, func(a *args) { a.h.From = rows(nil, nil) }),
		is("a seat of no agency", api.ErrArg, func(a *args) { a.h.Holds[1][1] = 3 }),
	}
}

func bookDefects() []defect {
	return append(houseDefects(),
		is("a book of no agency", api.ErrArg, func(a *args) { a.b.Agency = 3 }),
		is("no rows", api.ErrArg, func(a *args) { a.b.Seats = nil }),
		is("no Off", api.ErrArg, func(a *args) { a.b.Off = nil }),
		is("Sent below 0", api.ErrArg, func(a *args) { a.b.Sent = -1 }),
		is("a key of itself", api.ErrArg, func(a *args) { a.b.Took = keys(ticket.Key{From: 0, Number: 1}) }),
		is("too little Cash", api.ErrArg, func(a *args) { a.b.Cash-- }))
}

func worldDefects() []defect {
	return append(houseDefects(),
		is("no books", api.ErrArg, func(a *args) { a.w.Books = nil }),
		is("another order", api.ErrArg, func(a *args) { slices.Reverse(a.w.Books) }),
		is("a message to none", api.ErrArg, func(a *args) { a.w.Messages[0].To = 3 }))
}

// outOfRange are defects with ErrRange.
func outOfRange(name string, set func(*args, int), numbers ...int) (l []defect) {
	for _, n := range append(numbers, lowest, -1, highest) {
		l = append(l, is(name, api.ErrRange, func(a *args) { set(a, n) }))
	}
	return l
}

func showDefects() []defect {
	return outOfRange("show", func(a *args, n int) { a.show = n }, 2)
}

func seatDefects() []defect {
	return outOfRange("seat", func(a *args, n int) { a.seat = n }, 5)
}

func dayDefects() []defect {
	return outOfRange("day", func(a *args, n int) { a.day = n }, api.MaxDate+1)
}

func isLost(a *args) { a.b.Off[0] = true }

func sellDefects() []defect {
	return slices.Concat(bookDefects(), showDefects(), seatDefects(),
		outOfRange("buyer", func(a *args, n int) { a.buyer = n }, 0, api.MaxBuyer+1),
		[]defect{
			is("a lost show", api.ErrState, isLost),
			is("a day before From", api.ErrState, func(a *args) { a.h.From[0][0] = 12 }),
			is("a late day", api.ErrLate, func(a *args) { a.day = 11 }),
			is("a seat that is not held", api.ErrNone, func(a *args) { a.b.Seats[0][0], a.b.Cash = -1, 20 }),
			is("a seat that is sold", api.ErrTwice, func(a *args) { a.b.Seats[0][0], a.b.Cash = 3, 70 }),
		})
}

func refundDefects() []defect {
	return slices.Concat(bookDefects(), showDefects(), seatDefects(), []defect{
		is("a seat that is not held", api.ErrNone, func(a *args) { a.b.Seats[0][4], a.b.Cash = -1, 0 }),
		is("a seat that is free", api.ErrNone, func(a *args) { a.b.Seats[0][4], a.b.Cash = 0, 0 }),
	})
}

func giveDefects() []defect {
	return slices.Concat(bookDefects(), showDefects(), outOfRange("to", func(a *args, n int) { a.to = n }, 0, 3),
		[]defect{
			is("no seats", api.ErrRange, func(a *args) { a.seats = nil }),
			is("a seat twice", api.ErrRange, func(a *args) { a.seats = list(0, 0) }),
			is("no seat", api.ErrRange, func(a *args) { a.seats = list(0, 5) }),
			is("a lost show", api.ErrState, isLost),
			is("a seat that is not held", api.ErrNone, func(a *args) { a.b.Seats[0][2] = -1 }),
			is("a seat that is sold", api.ErrTwice, func(a *args) { a.b.Seats[0][0], a.b.Cash = 3, 70 }),
			is("MaxSent", api.ErrLimit, func(a *args) { a.b.Sent = api.MaxSent }),
		})
}

func takeDefects() []defect {
	return append(bookDefects(),
		is("a message from its receiver", api.ErrArg, func(a *args) { a.m.From = a.m.To }),
		is("a message without seats", api.ErrArg, func(a *args) { a.m.Seats = nil }),
		is("a message to another one", api.ErrRange, func(a *args) { a.m.To = 2 }),
		is("a message that was taken", api.ErrTwice, func(a *args) { a.b.Took = keys(ticket.Key{From: 1, Number: 1}) }),
		is("a seat that is held", api.ErrState, func(a *args) { a.b.Seats[1][3] = 0 }),
		is("MaxSent keys", api.ErrLimit, func(a *args) { a.b.Took = manyKeys(api.MaxSent, 2) }))
}

// call has run, and zero tells whether all results beside the error are zero values.
type call struct {
	name    string
	run     func(args) (zero bool, e api.Errno)
	defects []defect
}

func isZero(b ticket.Book) bool { return sameBook(b, ticket.Book{}) }

func calls() []call {
	return []call{
		{"CheckHouse", func(a args) (bool, api.Errno) { return true, ticket.CheckHouse(a.h) }, houseDefects()},
		{"CheckBook", func(a args) (bool, api.Errno) { return true, ticket.CheckBook(a.h, a.b) }, bookDefects()},
		{"Class", func(a args) (bool, api.Errno) {
			class, e := ticket.Class(a.h, a.seat+4)
			return class == 0, e
		}, append(houseDefects(), outOfRange("seat", func(a *args, n int) { a.seat = max(n, lowest+4) - 4 }, 5)...)},
		{"Open", func(a args) (bool, api.Errno) {
			b, e := ticket.Open(a.h, a.agency)
			return isZero(b), e
		}, append(houseDefects(), outOfRange("agency", func(a *args, n int) { a.agency = n }, 3)...)},
		{"Sell", func(a args) (bool, api.Errno) {
			b, e := ticket.Sell(a.h, a.b, a.show, a.seat, a.buyer, a.day)
			return isZero(b), e
		}, sellDefects()},
		{"Refund", func(a args) (bool, api.Errno) {
			if a.seat == 0 {
				a.seat = 4
			}
			b, e := ticket.Refund(a.h, a.b, a.show, a.seat)
			return isZero(b), e
		}, refundDefects()},
		{"Give", func(a args) (bool, api.Errno) {
			b, m, e := ticket.Give(a.h, a.b, a.to, a.show, a.seats)
			return isZero(b) && sameMessage(m, ticket.Message{}), e
		}, giveDefects()},
		{"Take", func(a args) (bool, api.Errno) {
			b, e := ticket.Take(a.h, a.b, a.m)
			return isZero(b), e
		}, takeDefects()},
		{"Lose", func(a args) (bool, api.Errno) {
			b, moves, e := ticket.Lose(a.h, a.b, a.show, a.day)
			return isZero(b) && len(moves) == 0, e
		}, append(slices.Concat(bookDefects(), showDefects(), dayDefects()), is("a lost show", api.ErrTwice, isLost))},
		{"Free", func(a args) (bool, api.Errno) {
			l, e := ticket.Free(a.h, a.b, a.show, a.class, a.day)
			return len(l) == 0, e
		}, slices.Concat(bookDefects(), showDefects(), dayDefects(), outOfRange("class", func(a *args, n int) { a.class = n }, 2))},
		{"Counts", func(a args) (bool, api.Errno) {
			l, e := ticket.Counts(a.h, a.b)
			return len(l) == 0, e
		}, bookDefects()},
		{"Run", func(a args) (bool, api.Errno) {
			w, errors, e := ticket.Run(a.h, a.acts)
			return len(w.Books)+len(w.Messages)+len(errors) == 0, e
		}, append(houseDefects(), is("too many acts", api.ErrLimit, func(a *args) { a.acts = make([]ticket.Act, api.MaxActs+1) }))},
		{"Where", func(a args) (bool, api.Errno) {
			agency, message, e := ticket.Where(a.h, a.w, a.show, a.seat)
			return agency == 0 && message == 0, e
		}, append(slices.Concat(worldDefects(), showDefects(), seatDefects()),
			is("a seat that is nowhere", api.ErrNone, func(a *args) { a.w.Books[0].Seats[0][0] = -1 }))},
	}
}

// Rules R1 and R2, P8.1 to P8.7: each call gets each of its defects alone, and with all those that are examined later.
func TestErrors(t *testing.T) {
	for _, x := range calls() {
		if zero, e := x.run(goodArgs()); e != api.OK || zero != strings.HasPrefix(x.name, "Check") {
			t.Error(x.name, "without defects:", zero, e)
		}
		for i, f := range x.defects {
			alone, late := goodArgs(), goodArgs()
			f.spoil(&alone)
			for k := len(x.defects) - 1; k >= i; k-- {
				if x.defects[k].want != f.want || k == i {
					x.defects[k].spoil(&late)
				}
			}
			if f.want == api.ErrArg {
				late.show, late.seat, late.seats, late.day = highest, lowest, nil, lowest
			}
			for _, a := range []args{alone, late} {
				if zero, e := x.run(a); e != f.want || !zero {
					t.Error(x.name, f.name, e, zero)
				}
			}
		}
	}
}

func callAll(a args) {
	for _, x := range calls() {
		x.run(a)
	}
	ticket.Sound(a.h, a.w)
}

func sameArgs(a, b args) bool {
	sameAct := func(x, y ticket.Act) bool {
		seats := slices.Equal(x.Seats, y.Seats)
		x.Seats, y.Seats = nil, nil
		return seats && x.Kind == y.Kind && x.Agency == y.Agency && x.Show == y.Show && x.Seat == y.Seat && x.Message == y.Message
	}
	return sameHouse(a.h, b.h) && sameBook(a.b, b.b) && sameWorld(a.w, b.w) && sameMessage(a.m, b.m) &&
		slices.Equal(a.seats, b.seats) && slices.EqualFunc(a.acts, b.acts, sameAct)
}

// spoilBook writes over all that a book has, and behind the ends of its lists.
func spoilBook(b ticket.Book) {
	for _, row := range b.Seats {
		for i := range row[:cap(row)] {
			row[:cap(row)][i] = 77
		}
	}
	clear(b.Seats[:cap(b.Seats)])
	for i := range b.Off {
		b.Off[i] = !b.Off[i]
	}
	for i := range b.Took[:cap(b.Took)] {
		b.Took[:cap(b.Took)][i] = ticket.Key{From: 77}
	}
}

// Rule R4: no call changes an argument, and results are new memory.
func TestMemory(t *testing.T) {
	a, good := goodArgs(), goodArgs()
	spare := make([]ticket.Key, 1, 9)
	spare[0] = ticket.Key{From: 2, Number: 1}
	a.b.Took, good.b.Took = spare, keys(spare[0])
	callAll(a)
	var books []ticket.Book
	add := func(b ticket.Book, e api.Errno) {
		t.Helper()
		if e != api.OK {
			t.Fatal(e)
		}
		books = append(books, b)
	}
	add(ticket.Open(a.h, 0))
	add(ticket.Sell(a.h, a.b, 0, 0, 7, 3))
	add(ticket.Refund(a.h, a.b, 0, 4))
	add(ticket.Take(a.h, a.b, a.m))
	given, message, e := ticket.Give(a.h, a.b, 1, 0, a.seats)
	add(given, e)
	lost, moves, e := ticket.Lose(a.h, a.b, 0, 3)
	add(lost, e)
	moves[0].Seat = 77
	message.Seats[0] = 77
	w, errors, _ := ticket.Run(a.h, a.acts)
	kept := copyWorld(w)
	again, _, _ := ticket.Run(a.h, a.acts)
	books = append(books, again.Books...)
	errors[0] = 77
	for i := range again.Messages {
		again.Messages[i].Seats[0] = 77
	}
	for i, b := range books {
		l := make([]ticket.Book, 0, len(books))
		for _, other := range books[i+1:] {
			l = append(l, copyBook(other))
		}
		spoilBook(b)
		if !slices.EqualFunc(l, books[i+1:], sameBook) {
			t.Error("books share memory:", i)
		}
	}
	if !sameWorld(w, kept) || !sameArgs(a, good) || spare[:9][1] != (ticket.Key{}) {
		t.Error("results share memory with arguments, or with each other")
	}
}

// The same arguments give the same results.
func TestNoHiddenState(t *testing.T) {
	d := newDice(12)
	for range 200 {
		h, other := d.house(3, 3), d.house(2, 2)
		acts := make([]ticket.Act, 30)
		for i := range acts {
			acts[i] = d.act(h, 3)
		}
		w, errors, e := ticket.Run(h, acts)
		ticket.Run(other, acts)
		again, errorsAgain, f := ticket.Run(copyHouse(h), slices.Clone(acts))
		if !sameWorld(w, again) || !slices.Equal(errors, errorsAgain) || e != f {
			t.Error(h, acts)
		}
	}
}

// Rule R3: nil lists and empty ones are the same.
func TestEmptyLists(t *testing.T) {
	a := goodArgs()
	a.b.Took, a.seats, a.w.Books[0].Took = keys(), list(), keys()
	if e := ticket.CheckBook(a.h, a.b); e != api.OK || !ticket.Sound(a.h, a.w) {
		t.Error("no keys:", e)
	}
	if _, _, e := ticket.Give(a.h, a.b, 1, 0, a.seats); e != api.ErrRange {
		t.Error("no seats:", e)
	}
	w, _, _ := ticket.Run(a.h, nil)
	w.Messages = []ticket.Message{}
	if !ticket.Sound(a.h, w) {
		t.Error("no messages")
	}
}

// P1: any arguments; a panic would end the test.
func TestAnyArguments(t *testing.T) {
	d := newDice(13)
	number := func() int {
		return list(lowest, lowest+1, -1<<32, -2, -1, 0, 1, 2, 3, 4, 5, 6, 7, 10, 20, 50, 51, 100, 101, 255, 1000, 1001, api.MaxFare, api.MaxBuyer, api.MaxBuyer+1, 1<<62, highest-1, highest)[d.Intn(28)]
	}
	for range 5000 {
		a := goodArgs()
		for range d.from(0, 4) {
			d.spoil(&a, number)
		}
		callAll(a)
	}
	callAll(args{})
}

// shorter returns some of the first elements, and maybe one more.
func shorter[T any](d dice, l []T, more T) []T {
	l = slices.Clone(l[:d.Intn(len(l)+1)])
	if d.Intn(2) == 0 {
		l = append(l, more)
	}
	return l
}

// spoil sets something to some number.
func (d dice) spoil(a *args, number func() int) {
	one := d.Intn(2)
	switch d.Intn(14) {
	case 0:
		a.agency, a.to, a.show, a.seat = number(), number(), number(), number()
	case 1:
		a.class, a.buyer, a.day = number(), number(), number()
	case 2:
		a.seats = shorter(d, a.seats, number())
	case 3:
		a.h.Sectors = shorter(d, a.h.Sectors, ticket.Sector{Class: number(), Seats: number()})
	case 4:
		a.h.Prices = shorter(d, a.h.Prices, number())
	case 5:
		a.h.Dates = shorter(d, a.h.Dates, number())
	case 6:
		a.h.From = shorter(d, a.h.From, list(number(), 0, 0))
	case 7:
		a.h.Holds = shorter(d, a.h.Holds, list(0, 0, number(), 0, 0))
	case 8:
		a.b.Agency, a.b.Sent, a.b.Cash = one, number(), []int{a.b.Cash, number()}[one]
	case 9:
		a.b.Seats = shorter(d, a.b.Seats, list(0, 0, number(), 0, 0))
		a.b.Off = shorter(d, a.b.Off, false)
	case 10:
		a.b.Took = shorter(d, a.b.Took, ticket.Key{From: number(), Number: number()})
	case 11:
		a.m = ticket.Message{From: number(), To: 0, Number: number(), Show: number(), Seats: shorter(d, a.m.Seats, number())}
	case 12:
		a.w.Books, a.w.Messages = shorter(d, a.w.Books, ticket.Book{Agency: number()}), shorter(d, a.w.Messages, ticket.Message{From: number(), To: number(), Seats: list(number())})
	case 13:
		a.acts = append(a.acts, ticket.Act{Kind: uint8(number()), Agency: one, Show: number(), Seat: number(), Buyer: number(), Day: number(), To: number(), Message: number(), Seats: list(number())})
	}
}
