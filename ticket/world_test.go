package ticket_test

import (
	"slices"
	"testing"

	"bigtop/api"
	"bigtop/ticket"
)

// P8.6: no acts lead to the first world.
func TestRunNothing(t *testing.T) {
	for _, acts := range [][]ticket.Act{nil, {}} {
		w, errors, e := ticket.Run(house(), acts)
		want := ticket.World{Books: []ticket.Book{opened(t, house(), 0), opened(t, house(), 1)}}
		if !sameWorld(w, want) || len(errors) > 0 || e != api.OK || !ticket.Sound(house(), w) {
			t.Error(w, errors, e)
		}
	}
}

// P8.6: 1, MaxActs and one more act; each is done once, in order.
func TestRunMany(t *testing.T) {
	for _, n := range list(1, api.MaxActs) {
		acts := slices.Repeat([]ticket.Act{{Kind: ticket.Sold, Seat: 2, Buyer: 7, Day: 3}, {Kind: ticket.Refunded, Seat: 2}}, n)[:n]
		w, errors, e := ticket.Run(house(), acts)
		if e != api.OK || !slices.Equal(errors, make([]api.Errno, n)) || w.Books[0].Cash != n%2*20 {
			t.Error(n, e)
		}
		w, errors, e = ticket.Run(house(), append(acts, make([]ticket.Act, api.MaxActs+1-n)...))
		if len(w.Books) > 0 || len(w.Messages) > 0 || len(errors) > 0 || e != api.ErrLimit {
			t.Error("one more:", len(errors), e)
		}
	}
}

// P8.6: each error that an act may have; it changes nothing, and the next acts are done.
func TestRunErrors(t *testing.T) {
	h := three()
	head := []ticket.Act{
		{Kind: ticket.Given, To: 1, Seats: list(3, 4)},
		{Kind: ticket.Taken, Agency: 1},
		{Kind: ticket.Given, To: 2, Seats: list(0)},
		{Kind: ticket.Sold, Seat: 2, Buyer: 7, Day: 3},
		{Kind: ticket.Lost, Agency: 1, Show: 1, Day: 3},
	}
	before := ran(t, h, head...)
	for i, x := range []struct {
		a    ticket.Act
		want api.Errno
	}{
		{ticket.Act{}, api.ErrArg}, {ticket.Act{Kind: 6}, api.ErrArg}, {ticket.Act{Kind: 255}, api.ErrArg},
		{ticket.Act{Kind: 0, Agency: 3}, api.ErrArg}, {ticket.Act{Kind: 6, Agency: -1, Message: 9}, api.ErrArg},
		{ticket.Act{Kind: ticket.Sold, Agency: 3, Seat: 1, Buyer: 7, Day: 3}, api.ErrRange}, {ticket.Act{Kind: ticket.Sold, Agency: -1, Seat: 1, Buyer: 7, Day: 3}, api.ErrRange},
		{ticket.Act{Kind: ticket.Refunded, Agency: lowest, Seat: 2}, api.ErrRange}, {ticket.Act{Kind: ticket.Given, Agency: 3, To: 1, Seats: list(1)}, api.ErrRange},
		{ticket.Act{Kind: ticket.Taken, Agency: 3, Message: 1}, api.ErrRange}, {ticket.Act{Kind: ticket.Lost, Agency: highest}, api.ErrRange},
		{ticket.Act{Kind: ticket.Sold, Seat: 1, Buyer: 0, Day: 3}, api.ErrRange}, {ticket.Act{Kind: ticket.Sold, Seat: 5, Buyer: 1, Day: 3}, api.ErrRange},
		{ticket.Act{Kind: ticket.Sold, Show: 2, Buyer: 1, Day: 3}, api.ErrRange},
		{ticket.Act{Kind: ticket.Sold, Agency: 1, Show: 1, Seat: 1, Buyer: 1, Day: 30}, api.ErrState}, {ticket.Act{Kind: ticket.Sold, Agency: 1, Seat: 3, Buyer: 1, Day: 4}, api.ErrState},
		{ticket.Act{Kind: ticket.Sold, Seat: 2, Buyer: 7, Day: 11}, api.ErrLate}, {ticket.Act{Kind: ticket.Sold, Seat: 3, Buyer: 7, Day: 3}, api.ErrNone},
		{ticket.Act{Kind: ticket.Sold, Seat: 2, Buyer: 7, Day: 3}, api.ErrTwice},
		{ticket.Act{Kind: ticket.Refunded, Seat: 5}, api.ErrRange}, {ticket.Act{Kind: ticket.Refunded, Seat: 1}, api.ErrNone}, {ticket.Act{Kind: ticket.Refunded, Agency: 1, Seat: 2}, api.ErrNone},
		{ticket.Act{Kind: ticket.Given, To: 0, Seats: list(1)}, api.ErrRange}, {ticket.Act{Kind: ticket.Given, To: 3, Seats: list(1)}, api.ErrRange}, {ticket.Act{Kind: ticket.Given, To: 1}, api.ErrRange},
		{ticket.Act{Kind: ticket.Given, Agency: 1, To: 2, Show: 1, Seats: list(1)}, api.ErrState}, {ticket.Act{Kind: ticket.Given, To: 1, Seats: list(2, 3)}, api.ErrNone},
		{ticket.Act{Kind: ticket.Given, To: 1, Seats: list(1, 2)}, api.ErrTwice},
		{ticket.Act{Kind: ticket.Taken, Message: 2}, api.ErrRange}, {ticket.Act{Kind: ticket.Taken, Message: -1}, api.ErrRange},
		{ticket.Act{Kind: ticket.Taken, Agency: 1, Message: 1}, api.ErrRange}, {ticket.Act{Kind: ticket.Taken, Agency: 0, Message: 0}, api.ErrRange},
		{ticket.Act{Kind: ticket.Taken, Agency: 1, Message: 0}, api.ErrTwice},
		{ticket.Act{Kind: ticket.Lost, Show: 2}, api.ErrRange}, {ticket.Act{Kind: ticket.Lost, Day: api.MaxDate + 1}, api.ErrRange}, {ticket.Act{Kind: ticket.Lost, Agency: 1, Show: 1}, api.ErrTwice},
	} {
		w, errors, e := ticket.Run(h, append(slices.Clone(head), x.a))
		if e != api.OK || len(errors) != 6 || errors[5] != x.want || !sameWorld(w, before) {
			t.Error(i, errors, e)
		}
		w, errors, _ = ticket.Run(h, append(slices.Clone(head), x.a, ticket.Act{Kind: ticket.Taken, Agency: 2, Message: 1}))
		if len(errors) != 7 || errors[5] != x.want || errors[6] != api.OK || w.Books[2].Seats[0][0] != 0 {
			t.Error(i, "and another one:", errors)
		}
	}
	// Fields that do not matter to a Kind may have any value.
	w, errors, _ := ticket.Run(h, []ticket.Act{{Kind: ticket.Lost, Show: 0, Day: 3, Seat: -1, Buyer: -1, To: -1, Message: -1, Seats: list(-1)}, {Kind: ticket.Sold, Show: 1, Seat: 2, Buyer: 7, Day: 3, To: -1, Message: -1, Seats: list(9)}})
	if !slices.Equal(errors, make([]api.Errno, 2)) || !w.Books[0].Off[0] || w.Books[0].Cash != 20 {
		t.Error("other fields:", errors)
	}
}

// P8.6, P8.8, P8.12: any acts do what they do in the model, where each seat is in one place; so the world is sound, and all seats are counted.
func TestRun(t *testing.T) {
	d := newDice(10)
	found := map[api.Errno]int{}
	for range 1500 {
		h := d.house(d.from(1, 3), d.from(1, 3))
		m := newModel(h)
		acts := make([]ticket.Act, d.from(0, 60))
		want := make([]api.Errno, len(acts))
		for i := range acts {
			acts[i] = d.act(h, len(m.messages))
			want[i] = m.do(acts[i])
			found[want[i]]++
		}
		w, errors, e := ticket.Run(h, acts)
		if e != api.OK || !slices.Equal(errors, want) || !sameWorld(w, m.world()) {
			t.Fatal(h, acts, errors, want)
		}
		if !ticket.Sound(h, w) {
			t.Error("not sound:", h, acts)
		}
		checkPlaces(t, m, w)
		checkAllSeats(t, h, w)
	}
	for _, e := range []api.Errno{api.OK, api.ErrArg, api.ErrRange, api.ErrTwice, api.ErrNone, api.ErrState, api.ErrLate} {
		if found[e] < 100 {
			t.Error("too few of", e, found)
		}
	}
}

// checkPlaces compares with the model (P8.7).
func checkPlaces(t *testing.T, m *model, w ticket.World) {
	t.Helper()
	for show, row := range m.place {
		for seat, place := range row {
			want := [2]int{place, -1}
			if place < 0 {
				want = [2]int{-1, -1 - place}
			}
			if agency, message, e := ticket.Where(m.house, w, show, seat); agency != want[0] || message != want[1] || e != api.OK {
				t.Error("Where:", show, seat, agency, message, e, want)
			}
		}
	}
}

// checkAllSeats adds up the counts of all agencies and the seats on their way (P8.12).
func checkAllSeats(t *testing.T, h ticket.House, w ticket.World) {
	t.Helper()
	l := classes(h)
	for show := range h.Dates {
		sums := make([]int, len(h.Prices))
		for _, b := range w.Books {
			counts, e := ticket.Counts(h, b)
			if e != api.OK {
				t.Fatal(e)
			}
			for class, c := range counts[show] {
				sums[class] += c.Free + c.Sold
			}
		}
		for _, m := range w.Messages {
			if taken := slices.Contains(w.Books[m.To].Took, ticket.Key{From: m.From, Number: m.Number}); taken || m.Show != show {
				continue
			}
			for _, seat := range m.Seats {
				sums[l[seat]]++
			}
		}
		for _, class := range l {
			sums[class]--
		}
		if !slices.Equal(sums, make([]int, len(sums))) {
			t.Error("seats too many, or too few:", h, show, sums)
		}
	}
}

// P8.8: a message that is taken again and again, in between other acts, has its effect once.
func TestTakenAgain(t *testing.T) {
	take := ticket.Act{Kind: ticket.Taken, Agency: 1}
	acts := []ticket.Act{
		{Kind: ticket.Given, To: 1, Seats: list(3, 4)}, take, take, {Kind: ticket.Sold, Agency: 1, Seat: 3, Buyer: 7, Day: 5}, take,
		{Kind: ticket.Given, Agency: 1, To: 0, Seats: list(4)}, take, {Kind: ticket.Taken, Message: 1}, take,
		{Kind: ticket.Sold, Seat: 4, Buyer: 8, Day: 5}, take, {Kind: ticket.Lost, Agency: 1, Day: 5}, take,
	}
	w, errors, _ := ticket.Run(house(), acts)
	for i, e := range errors {
		if want := acts[i].Kind == ticket.Taken && acts[i].Agency == 1 && i > 1; want != (e == api.ErrTwice) || !want && e != api.OK {
			t.Error(i, e)
		}
	}
	if !ticket.Sound(house(), w) || w.Books[1].Seats[0][3] != 0 || w.Books[1].Seats[0][4] != -1 || w.Books[0].Seats[0][4] != 8 {
		t.Error(w)
	}
}

// sent is a sound world: the seats 3 and 4 of the show 0 are given to 1, who took them, and 0 to 2, who did not; 1 sold the seat 3.
func sent(t *testing.T) ticket.World {
	return ran(t, three(),
		ticket.Act{Kind: ticket.Given, To: 1, Seats: list(3, 4)},
		ticket.Act{Kind: ticket.Given, To: 2, Seats: list(0)},
		ticket.Act{Kind: ticket.Taken, Agency: 1},
		ticket.Act{Kind: ticket.Given, Agency: 1, To: 0, Show: 1, Seats: list(3)},
		ticket.Act{Kind: ticket.Sold, Agency: 1, Seat: 3, Buyer: 7, Day: 5},
	)
}

// worldChange makes a world that is not valid (so that Where has an error), or one that is valid and not sound.
type worldChange struct {
	name  string
	valid bool
	set   func(*ticket.World)
}

func worldChanges() []worldChange {
	swap := func(w *ticket.World, i, k int) {
		w.Messages[i].Number, w.Messages[k].Number = w.Messages[k].Number, w.Messages[i].Number
	}
	return []worldChange{
		{"a book too few", false, func(w *ticket.World) { w.Books = w.Books[:2] }},
		{"no books", false, func(w *ticket.World) { w.Books = nil }},
		{"a book too many", false, func(w *ticket.World) { w.Books = append(w.Books, w.Books[2]) }},
		{"books in another order", false, func(w *ticket.World) { w.Books[0], w.Books[1] = w.Books[1], w.Books[0] }},
		{"a book twice", false, func(w *ticket.World) { w.Books[2] = w.Books[1] }},
		{"a book that is not valid", false, func(w *ticket.World) { w.Books[1].Cash++ }},
		{"a message to its sender", false, func(w *ticket.World) { w.Messages[2].To = 1 }},
		{"a message without seats", false, func(w *ticket.World) { w.Messages[1].Seats = nil }},
		{"a message with the number 0", false, func(w *ticket.World) { w.Messages[0].Number = 0 }},
		{"a message beyond MaxSent", false, func(w *ticket.World) { w.Messages[0].Number = api.MaxSent + 1 }},
		{"a message of another show", false, func(w *ticket.World) { w.Messages[2].Show = 2 }},
		{"a message to none", false, func(w *ticket.World) { w.Messages[2].To = 3 }},
		{"numbers with a gap", true, func(w *ticket.World) { w.Messages[1].Number, w.Books[0].Sent = 3, 3 }},
		{"numbers from 2", true, func(w *ticket.World) { w.Messages[2].Number, w.Books[1].Sent = 2, 2 }},
		{"a number twice", true, func(w *ticket.World) { w.Messages[1].Number = 1 }},
		{"numbers in another order", true, func(w *ticket.World) { swap(w, 0, 1); w.Books[1].Took[0].Number = 2 }},
		{"a Sent too great", true, func(w *ticket.World) { w.Books[2].Sent = 1 }},
		{"a Sent too small", true, func(w *ticket.World) { w.Books[0].Sent = 1 }},
		{"a key of no message", true, func(w *ticket.World) { w.Books[1].Took = append(w.Books[1].Took, ticket.Key{From: 0, Number: 3}) }},
		{"a key of nobody's message", true, func(w *ticket.World) { w.Books[1].Took = append(w.Books[1].Took, ticket.Key{From: 2, Number: 1}) }},
		{"a key of a message to another one", true, func(w *ticket.World) { w.Books[1].Took = append(w.Books[1].Took, ticket.Key{From: 0, Number: 2}) }},
		{"a message that was taken, but its seats were not", true, func(w *ticket.World) { w.Books[2].Took = keys(ticket.Key{From: 0, Number: 2}) }},
		{"a seat that was taken, but its message was not", true, func(w *ticket.World) { w.Books[2].Seats[0][0] = 0 }},
		{"a seat in no place", true, func(w *ticket.World) { w.Books[0].Seats[1][2] = -1 }},
		{"a seat in two books", true, func(w *ticket.World) { w.Books[0].Seats[0][4] = 0 }},
		{"a seat sold in two books", true, func(w *ticket.World) { w.Books[0].Seats[0][3], w.Books[0].Cash = 9, 20 }},
		{"a seat in a book and in a message", true, func(w *ticket.World) { w.Books[0].Seats[0][0] = 0 }},
		{"a seat in two messages", true, func(w *ticket.World) {
			w.Messages = append(w.Messages, ticket.Message{From: 1, To: 2, Number: 2, Show: 1, Seats: list(3)})
			w.Books[1].Sent = 2
		}},
		{"a message less", true, func(w *ticket.World) { w.Messages = w.Messages[:2] }},
		{"a message without its seat", true, func(w *ticket.World) { w.Messages[1].Seats[0] = 1 }},
	}
}

// P8.7: what is not valid, and what is not sound.
func TestSound(t *testing.T) {
	if !ticket.Sound(three(), sent(t)) {
		t.Fatal("the world is sound")
	}
	if ticket.Sound(ticket.House{}, sent(t)) || ticket.Sound(house(), sent(t)) || ticket.Sound(ticket.House{}, ticket.World{}) {
		t.Error("another house")
	}
	for _, c := range worldChanges() {
		w := sent(t)
		c.set(&w)
		if ticket.Sound(three(), w) {
			t.Error("Sound:", c.name)
		}
		want := api.OK
		if !c.valid {
			want = api.ErrArg
		}
		if _, _, e := ticket.Where(three(), w, 0, 1); e != want {
			t.Error("Where:", c.name, e)
		}
	}
}

// P8.7: where seats are; in worlds that are not sound, the first agency, or else the first message; or nowhere.
func TestWhere(t *testing.T) {
	check := func(name string, w ticket.World, show, seat, wantAgency, wantMessage int, want api.Errno) {
		t.Helper()
		if agency, message, e := ticket.Where(three(), w, show, seat); agency != wantAgency || message != wantMessage || e != want {
			t.Error(name, agency, message, e)
		}
	}
	w := sent(t)
	check("never sent", w, 0, 1, 0, -1, api.OK)
	check("taken, and sold", w, 0, 3, 1, -1, api.OK)
	check("taken", w, 0, 4, 1, -1, api.OK)
	check("on its way", w, 0, 0, -1, 1, api.OK)
	check("on its way back", w, 1, 3, -1, 2, api.OK)
	check("no show", w, 2, 0, 0, 0, api.ErrRange)
	check("no show", w, -1, 0, 0, 0, api.ErrRange)
	check("no seat", w, 0, 5, 0, 0, api.ErrRange)
	check("no seat", w, 0, -1, 0, 0, api.ErrRange)
	w.Books[2].Seats[0][4] = 0
	check("two agencies", w, 0, 4, 1, -1, api.OK)
	w.Books[2].Seats[0][0] = 0
	check("an agency and a message", w, 0, 0, 2, -1, api.OK)
	w = sent(t)
	w.Messages = append(w.Messages, ticket.Message{From: 1, To: 2, Number: 2, Show: 0, Seats: list(0)}, ticket.Message{From: 1, To: 2, Number: 3, Show: 0, Seats: list(2, 3)})
	w.Books[0].Seats[0][2], w.Books[1].Seats[0][3], w.Books[1].Cash = -1, -1, 0
	check("two messages", w, 0, 0, -1, 1, api.OK)
	check("a message that was taken, and one that was not", w, 0, 3, -1, 4, api.OK)
	w.Books[2].Took = keys(ticket.Key{From: 0, Number: 2})
	check("two messages, of which the first was taken", w, 0, 0, -1, 3, api.OK)
	w.Books[2].Took = keys(ticket.Key{From: 0, Number: 2}, ticket.Key{From: 1, Number: 2}, ticket.Key{From: 1, Number: 3})
	check("messages that were taken", w, 0, 0, 0, 0, api.ErrNone)
	check("messages that were taken", w, 0, 2, 0, 0, api.ErrNone)
	check("the same seat of another show", w, 1, 0, 0, -1, api.OK)
}

// P8.7: a sound world in which one thing is changed at random is sound only if all that the chapter asks for still holds.
func TestSpoiltWorlds(t *testing.T) {
	d := newDice(11)
	sound := 0
	for range 1500 {
		h := d.house(d.from(1, 2), d.from(2, 3))
		w := d.world(h, ticket.Given, ticket.Given, ticket.Given, ticket.Taken, ticket.Sold, ticket.Lost)
		d.spoilWorld(h, &w)
		want := isSoundBy(h, w)
		if got := ticket.Sound(h, w); got != want {
			t.Error(h, w, got)
		}
		if want {
			sound++
		}
	}
	if sound < 50 || sound > 1000 {
		t.Error("sound worlds:", sound)
	}
}

func (d dice) spoilWorld(h ticket.House, w *ticket.World) {
	b := &w.Books[d.Intn(len(w.Books))]
	show := d.Intn(len(h.Dates))
	row := b.Seats[show]
	seat := d.Intn(len(row))
	switch d.Intn(7) {
	case 0:
		row[seat] = d.from(-1, 1)
		b.Cash = cashBy(h, *b)
	case 1:
		b.Sent = d.from(0, 2)
	case 2:
		b.Took = append(b.Took, ticket.Key{From: d.Intn(len(w.Books)), Number: d.from(1, 2)})
	case 3:
		if len(b.Took) > 0 {
			b.Took = b.Took[1:]
		}
	case 4:
		if len(w.Messages) > 0 {
			w.Messages[d.Intn(len(w.Messages))].Number = d.from(1, 3)
		}
	case 5:
		b.Sent++
		w.Messages = append(w.Messages, ticket.Message{From: b.Agency, To: d.Intn(len(w.Books)), Number: b.Sent, Show: show, Seats: list(seat)})
		row[seat] = []int{-1, row[seat]}[d.Intn(2)]
		b.Cash = cashBy(h, *b)
	case 6:
		b.Off[show] = !b.Off[show]
	}
}

// isSoundBy asks for what the chapter asks for, seat by seat and message by message.
func isSoundBy(h ticket.House, w ticket.World) bool {
	for agency, b := range w.Books {
		if b.Agency != agency || ticket.CheckBook(h, b) != api.OK {
			return false
		}
		var numbers, sent []int
		for _, m := range w.Messages {
			if m.From == agency {
				numbers = append(numbers, m.Number)
				sent = append(sent, len(sent)+1)
			}
		}
		if !slices.Equal(numbers, sent) || len(sent) != b.Sent {
			return false
		}
		for _, k := range b.Took {
			if !slices.ContainsFunc(w.Messages, func(m ticket.Message) bool { return m.From == k.From && m.Number == k.Number && m.To == agency }) {
				return false
			}
		}
	}
	for _, m := range w.Messages {
		if !isMessageBy(h, m) {
			return false
		}
	}
	for show := range h.Dates {
		for seat := range classes(h) {
			places := 0
			for _, b := range w.Books {
				if b.Seats[show][seat] >= 0 {
					places++
				}
			}
			for _, m := range w.Messages {
				if m.Show == show && slices.Contains(m.Seats, seat) && !slices.Contains(w.Books[m.To].Took, ticket.Key{From: m.From, Number: m.Number}) {
					places++
				}
			}
			if places != 1 {
				return false
			}
		}
	}
	return true
}
