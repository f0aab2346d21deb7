package gale

import (
	"iter"
	"slices"

	"bigtop/api"
)

// place is a spot at a minute.
type place struct{ spot, minute int }

// emptied is a hall from which people are sent out within the minutes. Who was
// sent is on a way, waits at a spot from one minute to the next, or is outside.
type emptied struct {
	Hall
	minutes int
	inside  []int         // who was not sent yet, at each spot
	plan    [][]int       // who enters each way, at each minute
	waits   map[place]int // who waits until the next minute
}

func fill(h Hall, minutes int) *emptied {
	x := &emptied{Hall: h, minutes: minutes, inside: slices.Clone(h.People), waits: map[place]int{}}
	for range h.Ways {
		x.plan = append(x.plan, make([]int, minutes))
	}
	return x
}

// prolong keeps who was sent, as they are out in time with a minute more, too.
func (x *emptied) prolong() {
	x.minutes++
	for i := range x.plan {
		x.plan[i] = append(x.plan[i], 0)
	}
}

func (x *emptied) anyInside() bool { return slices.Max(x.inside) > 0 }

// waiting is what people do who take no way.
const waiting = -1

// step is how a place is reached from another one: people take a way, or wait.
// If it is taken back, people who were sent from this place to the other one go
// on from this place instead, and others take over from the other one. A step
// from a place to itself begins there, with people who were not sent yet.
type step struct {
	from place
	way  int
	back bool
}

// room is for how many more people a step to p may be taken.
func (x *emptied) room(p place, s step) int {
	switch {
	case s.from == p:
		return x.inside[p.spot]
	case s.way == waiting && s.back:
		return x.waits[p]
	case s.way == waiting:
		return api.MaxSpots * api.MaxPeople
	case s.back:
		return x.plan[s.way][p.minute]
	}
	return x.Ways[s.way].Cap - x.plan[s.way][s.from.minute]
}

func (x *emptied) take(p place, s step, people int) {
	switch {
	case s.from == p:
		x.inside[p.spot] -= people
	case s.way == waiting && s.back:
		x.waits[p] -= people
	case s.way == waiting:
		x.waits[s.from] += people
	case s.back:
		x.plan[s.way][p.minute] -= people
	default:
		x.plan[s.way][s.from.minute] += people
	}
}

// steps are all steps from p, with the places to which they lead, but that people wait: search knows it.
func (x *emptied) steps(p place) iter.Seq2[place, step] {
	return func(yield func(place, step) bool) {
		for i, w := range x.Ways {
			end, begin := p.minute+w.Minutes, p.minute-w.Minutes
			if w.From == p.spot && end <= x.minutes && !yield(place{w.To, end}, step{p, i, false}) ||
				w.To == p.spot && begin >= 0 && !yield(place{w.From, begin}, step{p, i, true}) {
				return
			}
		}
		if p.minute > 0 {
			yield(place{p.spot, p.minute - 1}, step{p, waiting, true})
		}
	}
}

// search reaches places, the nearest ones first, until it is out. Where a spot
// is reached, it is reached at all later minutes by waiting, and only the steps
// to an earlier minute than all before are kept.
func (x *emptied) search() (reached map[place]step, out place, found bool) {
	reached = map[place]step{}
	first := slices.Repeat([]int{x.minutes + 1}, len(x.People))
	var queue []place
	reach := func(p place, s step) bool {
		if p.minute >= first[p.spot] || x.room(p, s) == 0 {
			return false
		}
		reached[p] = s
		for minute := p.minute; minute < first[p.spot]; minute++ {
			queue = append(queue, place{p.spot, minute})
		}
		first[p.spot] = p.minute
		return true
	}
	for spot := range x.People {
		begin := place{spot, 0}
		reach(begin, step{from: begin})
	}
search:
	for i := 0; i < len(queue); i++ {
		for p, s := range x.steps(queue[i]) {
			if reach(p, s) && p.spot == outside {
				out, found = p, true
				break search
			}
		}
	}
	return reached, out, found
}

// retrace follows the steps from where they lead to where they begin.
func retrace(reached map[place]step, p place) iter.Seq2[place, step] {
	return func(yield func(place, step) bool) {
		for {
			s, kept := reached[p]
			if !kept {
				s = step{from: place{p.spot, p.minute - 1}, way: waiting}
			}
			if !yield(p, s) || s.from == p {
				return
			}
			p = s.from
		}
	}
}

// send sends people out until no more can be, and returns what is reached then.
func (x *emptied) send() map[place]step {
	for {
		reached, out, found := x.search()
		if !found {
			return reached
		}
		people := x.room(out, reached[out])
		for p, s := range retrace(reached, out) {
			people = least(people, x.room(p, s))
		}
		for p, s := range retrace(reached, out) {
			x.take(p, s, people)
		}
	}
}

// cut leads between what is reached and what is not. Where a spot is reached, it
// is also reached later, by waiting, so that its first minute tells all.
func (x *emptied) cut(reached map[place]step) []int {
	cut := slices.Repeat([]int{x.minutes + 1}, len(x.People))
	for p := range reached {
		cut[p.spot] = least(cut[p.spot], p.minute)
	}
	return cut
}
