package wagon

import (
	"slices"

	"bigtop/api"
)

// fill packs lorry by lorry, and returns how many things are left after the last one.
func fill(lorries []Lorry, things []Thing) (train [][][]int, rest int) {
	queue := make([]int, len(things))
	for i := range queue {
		queue[i] = i
	}
	queue = sorted(queue, func(thing int) int { return things[thing].Need })
	for _, l := range lorries {
		n := l.share(pick(things, queue))
		train = append(train, packNumbers(l, things, slices.Sorted(slices.Values(queue[:n]))))
		queue = queue[n:]
	}
	return train, len(queue)
}

// share is how many of the first things the lorry takes. Where more have a right
// packing, fewer have one, so the first number that has none ends it.
func (l Lorry) share(things []Thing) int {
	most := min(len(things), api.MaxThings)
	for n := 1; n <= most; n++ {
		if first := things[:n]; !l.bears(first) || !atWork(l, together(first)).loads(0) {
			return n - 1
		}
	}
	return most
}

// packNumbers is the first packing of the things with these numbers, which rise.
func packNumbers(l Lorry, things []Thing, numbers []int) [][]int {
	packing, _ := pack(l, pick(things, numbers))
	for _, lane := range packing {
		for i, place := range lane {
			lane[i] = numbers[place]
		}
	}
	return packing
}

func pick(things []Thing, numbers []int) []Thing {
	l := make([]Thing, 0, len(numbers))
	for _, i := range numbers {
		l = append(l, things[i])
	}
	return l
}
