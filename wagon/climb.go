package wagon

import "slices"

// climbs reports whether numbers and Needs of the list rise.
func climbs(things []Thing, l []int) bool {
	for i, thing := range l {
		if !within(thing, 0, len(things)-1) || i > 0 && (l[i-1] >= thing || things[l[i-1]].Need >= things[thing].Need) {
			return false
		}
	}
	return true
}

func longestClimb(things []Thing) []int {
	from := make([][]int, len(things)) // the best climb that begins with each thing
	best := func(first, above int) (longest []int) {
		for i := first; i < len(things); i++ {
			if things[i].Need > above && len(from[i]) > len(longest) {
				longest = from[i]
			}
		}
		return longest
	}
	for i := len(things) - 1; i >= 0; i-- {
		from[i] = slices.Concat([]int{i}, best(i+1, things[i].Need))
	}
	return best(0, -1)
}
