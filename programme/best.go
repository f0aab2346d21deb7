package programme

import (
	"iter"

	"bigtop/api"
)

// only leaves out what is not wanted.
func only[T any](all iter.Seq[T], wanted func(T) bool) iter.Seq[T] {
	return func(yield func(T) bool) {
		for x := range all {
			if wanted(x) && !yield(x) {
				return
			}
		}
	}
}

// following are the acts that can stand next without a fault.
func (s Show) following(at state) iter.Seq[turn] { return only(s.left(at), s.mayStand) }

// left are the acts that do not stand yet, as if they were next.
func (s Show) left(at state) iter.Seq[turn] {
	return func(yield func(turn) bool) {
		for act := range (s.allActs() &^ at.acts).members() {
			if !yield(turn{s.Acts[act], at, act}) {
				return
			}
		}
	}
}

// goingOn is what the turn costs, with what after says of all that follows it.
func (s Show) goingOn(t turn, after func(state) int) int {
	_, cost := s.changeTo(t)
	return cost + after(t.next())
}

// least is the least cost of going on until all acts stand. MaxTable, which is more than
// any programme costs, tells that there is no way on.
func (s Show) least(at state, after func(state) int) int {
	if at.acts == s.allActs() {
		return 0
	}
	cost := api.MaxTable
	for t := range s.following(at) {
		cost = min(cost, s.goingOn(t, after))
	}
	return cost
}

// remembering returns a function that tells the least cost from a state on; known gets all that it had to find out.
func (s Show) remembering(known map[state]int) func(state) int {
	var after func(state) int
	after = func(at state) int {
		cost, ok := known[at]
		if !ok {
			cost = s.least(at, after)
			known[at] = cost
		}
		return cost
	}
	return after
}

// best goes on with the least act that keeps the least cost; known gets the costs of all states that can be reached.
func (s Show) best(known map[state]int) (order []int, cost int, found bool) {
	after := s.remembering(known)
	cost = after(state{})
	if cost == api.MaxTable {
		return nil, 0, false
	}
	var goOn func(at state)
	goOn = func(at state) {
		for t := range s.following(at) {
			if s.goingOn(t, after) == after(at) {
				order = append(order, t.index)
				goOn(t.next())
				return
			}
		}
	}
	goOn(state{})
	return order, cost, true
}
