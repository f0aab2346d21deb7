package wagon

import "bigtop/api"

// group is some of the things of a lorry, by their numbers.
type group [api.MaxThings]bool

// door is what a lane has left behind its last thing: its room, and the greatest
// Need that a thing may have there without standing in the way.
type door struct{ room, need int }

func openDoor(room int) door { return door{room, api.MaxOrder} }

// behind is the door when one more thing stands there, if it fits.
func (d door) behind(t Thing) (door, bool) {
	return door{d.room - t.Long, t.Need}, t.Long <= d.room && t.Need <= d.need
}

// bears reports whether the lorry may take the things, whatever lanes they are in.
func (l Lorry) bears(things []Thing) bool {
	low := func(t Thing) bool { return t.High <= l.Height }
	return every(things, low) && masses(things) <= l.Carries
}

func (l Lorry) right(things []Thing, packing [][]int) bool {
	if len(packing) != len(l.Lanes) || !l.bears(things) || !onceEach(packing, len(things)) {
		return false
	}
	for i, lane := range packing {
		if !fits(openDoor(l.Lanes[i]), things, lane) {
			return false
		}
	}
	return true
}

func fits(d door, things []Thing, lane []int) bool {
	ok := true
	for _, i := range lane {
		if d, ok = d.behind(things[i]); !ok {
			return false
		}
	}
	return true
}

// onceEach reports whether the lanes have each of so many things once, and nothing else.
func onceEach(packing [][]int, things int) bool {
	var seen group
	found := 0
	for _, lane := range packing {
		for _, i := range lane {
			if !within(i, 0, things-1) || seen[i] {
				return false
			}
			seen[i] = true
			found++
		}
	}
	return found == things
}

func rises(l []int) bool {
	for i := 1; i < len(l); i++ {
		if l[i-1] >= l[i] {
			return false
		}
	}
	return true
}

func masses(things []Thing) int {
	l := make([]int, 0, len(things))
	for _, t := range things {
		l = append(l, t.Mass)
	}
	return sum(l...)
}

func sum(l ...int) (n int) {
	for _, x := range l {
		n += x
	}
	return n
}
