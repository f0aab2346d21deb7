package programme

import "iter"

// state is what an order has come to: its acts, the last one, and the one before it, or the last one again if there is just one.
type state struct {
	acts         set
	last, before int
}

func (x state) then(act int) state {
	before := x.last
	if x.acts == 0 {
		before = act
	}
	return state{x.acts.with(act), act, before}
}

// turn is an act in its place: behind what the order has come to.
type turn struct {
	Act
	state
	index int
}

func (t turn) next() state { return t.then(t.index) }

// turns are the acts in the places of an order.
func (s Show) turns(order []int) iter.Seq2[int, turn] {
	return func(yield func(int, turn) bool) {
		var at state
		for place, act := range order {
			t := turn{s.Acts[act], at, act}
			if !yield(place, t) {
				return
			}
			at = t.next()
		}
	}
}

// question asks for one kind of fault.
type question struct {
	kind    uint8
	applies func(Show, turn) bool
}

func questions() [3]question {
	return [...]question{{LongChange, Show.isLong}, {NoRest, Show.isTired}, {TooEarly, Show.isEarly}}
}

// fault is the first place that has a fault, and the least kind there; the kind is 0 if there is none.
func (s Show) fault(order []int) (place int, why uint8) {
	asked := questions()
asking:
	for i, t := range s.turns(order) {
		for _, q := range asked {
			if q.applies(s, t) {
				place, why = i, q.kind
				break asking
			}
		}
	}
	return place, why
}

func (s Show) mayStand(t turn) bool {
	asked := questions()
	return every(asked[:], func(q question) bool { return !q.applies(s, t) })
}

func (s Show) isLong(t turn) bool {
	minutes, _ := s.changeTo(t)
	return minutes > s.Cover
}

// isTired need not know whether there is an act two places back: where there is none,
// before is the act one place back, for which the persons with any Rest count already.
func (s Show) isTired(t turn) bool {
	return t.acts != 0 && (s.needsRest(t.last, t, 1) || s.needsRest(t.before, t, 2))
}

// needsRest reports whether the act and the turn share a person whose Rest is at least this.
func (s Show) needsRest(act int, t turn, least int) bool {
	for person := range (s.Acts[act].cast() & t.cast()).members() {
		if s.Rest[person] >= least {
			return true
		}
	}
	return false
}

func (s Show) isEarly(t turn) bool {
	kept := func(p [2]int) bool { return p[1] != t.index || t.acts.has(p[0]) }
	return !every(s.Before, kept)
}

// cast is the set of persons that play the act.
func (a Act) cast() set { return set(a.Casts[0]) }
