package wagon

import (
	"iter"

	"bigtop/api"
)

// working is a lorry at work: it takes the things in the order of their numbers,
// and its lanes have their doors behind those that it has taken.
type working struct {
	Lorry
	things []Thing
	doors  [api.MaxLanes]door
}

func atWork(l Lorry, things []Thing) working {
	w := working{Lorry: l, things: things}
	for i, room := range l.Lanes {
		w.doors[i] = openDoor(room)
	}
	return w
}

// places are the lanes of the things in the first packing that can be loaded.
// Each thing goes into the least lane behind which the later ones can still be loaded.
func (w working) places() (lanes []int, found bool) {
	if !w.bears(w.things) {
		return nil, false
	}
loading:
	for i := range w.things {
		for lane, next := range w.ways(i) {
			if next.loads(i + 1) {
				w, lanes = next, append(lanes, lane)
				continue loading
			}
		}
		break loading
	}
	return lanes, len(lanes) == len(w.things)
}

// ways are the lanes for a thing, each with the lorry behind it.
func (w working) ways(thing int) iter.Seq2[int, working] {
	return func(yield func(int, working) bool) {
		for lane := range w.Lanes {
			d, ok := w.doors[lane].behind(w.things[thing])
			if !ok {
				continue
			}
			next := w
			next.doors[lane] = d
			if !yield(lane, next) {
				return
			}
		}
	}
}

// loads reports whether all things from this one on can be loaded.
func (w working) loads(from int) bool {
	var all rest
	for i := from; i < len(w.things); i++ {
		all.things[i] = true
	}
	return search{w, map[rest]bool{}}.ends(all)
}

// rest is what a search has left: the things that are in none of the lanes
// before this one.
type rest struct {
	lane   int
	things group
}

// search fills lane by lane, and remembers which rests have no end: there are
// far fewer of them than ways that lead to them.
type search struct {
	working
	dead map[rest]bool
}

func (s search) ends(r rest) bool {
	switch {
	case r.things == group{}:
		return true
	case s.longs(r.things) > s.room(r.lane) || s.dead[r]:
		return false
	}
	for next := range s.fillings(r) {
		if s.ends(next) {
			return true
		}
	}
	s.dead[r] = true
	return false
}

func (s search) longs(g group) (n int) {
	for i, t := range s.things {
		if g[i] {
			n += t.Long
		}
	}
	return n
}

// room is what the lanes from this one on have left together.
func (s search) room(from int) (n int) {
	for i := from; i < len(s.Lanes); i++ {
		n += s.doors[i].room
	}
	return n
}

// fillings are what is left when the next lane has taken as many things as it can:
// one that takes fewer leaves more for the others, and makes nothing easier.
func (s search) fillings(r rest) iter.Seq[rest] {
	return func(yield func(rest) bool) {
		s.fill(r, group{}, 0, s.doors[r.lane], yield)
	}
}

// fill goes on with the things from this one on; it reports whether the search goes on.
func (s search) fill(r rest, taken group, from int, d door, yield func(rest) bool) bool {
	for i := from; i < len(s.things); i++ {
		next, ok := d.behind(s.things[i])
		if !r.things[i] || !ok {
			continue
		}
		without, with := r, taken
		without.things[i], with[i] = false, true
		if !s.fill(without, with, i+1, next, yield) {
			return false
		}
	}
	return !s.full(r, taken) || yield(rest{r.lane + 1, r.things})
}

// full reports whether none of the things that are left fits between those that are taken.
func (s search) full(r rest, taken group) bool {
	for i := range s.things {
		with := taken
		with[i] = true
		if r.things[i] && s.fit(r.lane, with) {
			return false
		}
	}
	return true
}

func (s search) fit(lane int, g group) bool {
	d, ok := s.doors[lane], true
	for i, t := range s.things {
		if !g[i] {
			continue
		}
		if d, ok = d.behind(t); !ok {
			return false
		}
	}
	return true
}
