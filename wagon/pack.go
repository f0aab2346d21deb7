package wagon

import (
	"cmp"
	"slices"
)

// pack looks for the first packing: any things may stand in one lane, as its
// order keeps everything out of the way, so they are loaded as if they were all
// needed together.
func pack(l Lorry, things []Thing) (packing [][]int, found bool) {
	lanes, found := atWork(l, together(things)).places()
	if !found {
		return nil, false
	}
	packing = rows(l, lanes)
	for i, lane := range packing {
		packing[i] = sorted(lane, func(thing int) int { return -things[thing].Need })
	}
	return packing, true
}

func load(l Lorry, things []Thing) (packing [][]int, found bool) {
	lanes, found := atWork(l, things).places()
	if !found {
		return nil, false
	}
	return rows(l, lanes), true
}

func together(things []Thing) []Thing {
	l := slices.Clone(things)
	for i := range l {
		l[i].Need = 0
	}
	return l
}

// rows are the things of each lane, by their numbers.
func rows(l Lorry, lanes []int) [][]int {
	out := make([][]int, len(l.Lanes))
	for thing, lane := range lanes {
		out[lane] = append(out[lane], thing)
	}
	return out
}

// sorted is a copy of the list by rising keys; what has the same key keeps its order.
func sorted[T any](l []T, key func(T) int) []T {
	out := slices.Clone(l)
	slices.SortStableFunc(out, func(a, b T) int { return cmp.Compare(key(a), key(b)) })
	return out
}
