package wagon_test

import (
	"math/rand"
	"slices"
	"testing"

	"bigtop/api"
	"bigtop/wagon"
)

const (
	lowest  = -1 << 63
	highest = 1<<63 - 1
)

// lorry is that of the chapter's examples.
func lorry() wagon.Lorry {
	return wagon.Lorry{Lanes: []int{60, 50}, Height: 30, Carries: 1000, Empty: 800, Rear: 100, Axle: 1500, Deck: 10}
}

// things are those of the chapter's examples.
func things() []wagon.Thing {
	return []wagon.Thing{
		{Long: 30, High: 20, Mass: 100, Need: 5},
		{Long: 30, High: 25, Mass: 200, Need: 2},
		{Long: 20, High: 30, Mass: 300, Need: 7},
		{Long: 20, High: 10, Mass: 50, Need: 2},
	}
}

func lanes(rooms ...int) wagon.Lorry {
	l := lorry()
	l.Lanes = rooms
	return l
}

// row is things of these lengths, needed together; they weigh nothing.
func row(longs ...int) []wagon.Thing {
	var l []wagon.Thing
	for _, n := range longs {
		l = append(l, wagon.Thing{Long: n, High: 1})
	}
	return l
}

// needed is short things with these Needs.
func needed(needs ...int) []wagon.Thing {
	var l []wagon.Thing
	for _, n := range needs {
		l = append(l, wagon.Thing{Long: 1, High: 1, Need: n})
	}
	return l
}

// equally is so many things that are like one of the chapter's, but weigh little.
func equally(n int) []wagon.Thing {
	return slices.Repeat([]wagon.Thing{{Long: 1, High: 1, Mass: 1, Need: 1}}, n)
}

func list(l ...int) []int { return l }

// in is the packing with these lanes.
func in(lanes ...[]int) [][]int { return lanes }

func samePacking(a, b [][]int) bool { return slices.EqualFunc(a, b, slices.Equal) }

func sameTrain(a, b [][][]int) bool { return slices.EqualFunc(a, b, samePacking) }

// isRight is told by the words of the chapter.
func isRight(l wagon.Lorry, things []wagon.Thing, packing [][]int) bool {
	mass := 0
	for _, t := range things {
		mass += t.Mass
		if t.High > l.Height {
			return false
		}
	}
	if mass > l.Carries || len(packing) != len(l.Lanes) {
		return false
	}
	if all := slices.Sorted(slices.Values(slices.Concat(packing...))); !slices.Equal(all, countTo(len(things))) {
		return false
	}
	for i, lane := range packing {
		long := 0
		for at, a := range lane {
			long += things[a].Long
			for _, nearer := range lane[at+1:] {
				if things[nearer].Need > things[a].Need {
					return false
				}
			}
		}
		if long > l.Lanes[i] {
			return false
		}
	}
	return true
}

func isLoadable(l wagon.Lorry, things []wagon.Thing, packing [][]int) bool {
	for _, lane := range packing {
		for at := range lane {
			if at > 0 && lane[at-1] >= lane[at] {
				return false
			}
		}
	}
	return isRight(l, things, packing)
}

// countTo is the numbers below n.
func countTo(n int) []int {
	var l []int
	for i := range n {
		l = append(l, i)
	}
	return l
}

// firstOf tries the lanes of things one by one, the least lane first, until a packing is as it should be.
func firstOf(l wagon.Lorry, things []wagon.Thing, places []int, build func(places []int) [][]int, good func([][]int) bool) [][]int {
	if len(places) == len(things) {
		if p := build(places); good(p) {
			return p
		}
		return nil
	}
	for lane := range l.Lanes {
		if p := firstOf(l, things, append(slices.Clone(places), lane), build, good); p != nil {
			return p
		}
	}
	return nil
}

// firstRight and firstLoadable are nil if there is none.
func firstRight(l wagon.Lorry, things []wagon.Thing) [][]int {
	return firstOf(l, things, nil, func(places []int) [][]int {
		p := make([][]int, len(l.Lanes))
		for need := api.MaxOrder; need >= 0; need-- {
			for i, lane := range places {
				if things[i].Need == need {
					p[lane] = append(p[lane], i)
				}
			}
		}
		return p
	}, func(p [][]int) bool { return isRight(l, things, p) })
}

func firstLoadable(l wagon.Lorry, things []wagon.Thing) [][]int {
	return firstOf(l, things, nil, func(places []int) [][]int {
		p := make([][]int, len(l.Lanes))
		for i, lane := range places {
			p[lane] = append(p[lane], i)
		}
		return p
	}, func(p [][]int) bool { return isLoadable(l, things, p) })
}

func isClimb(things []wagon.Thing, l []int) bool {
	for i, a := range l {
		if a < 0 || a >= len(things) {
			return false
		}
		if i > 0 && !(l[i-1] < a && things[l[i-1]].Need < things[a].Need) {
			return false
		}
	}
	return true
}

// bestClimb tries all lists with rising numbers.
func bestClimb(things []wagon.Thing) []int {
	var best []int
	for set := range 1 << len(things) {
		var l []int
		for i := range things {
			if set>>i&1 == 1 {
				l = append(l, i)
			}
		}
		if isClimb(things, l) && (len(l) > len(best) || len(l) == len(best) && slices.Compare(l, best) < 0) {
			best = l
		}
	}
	return best
}

// A dice makes things that are valid, from a seed.
type dice struct{ *rand.Rand }

func newDice(seed int64) dice { return dice{rand.New(rand.NewSource(seed))} }

func (d dice) from(lo, hi int) int { return lo + d.Intn(hi-lo+1) }

func (d dice) thing() wagon.Thing {
	return wagon.Thing{Long: d.from(1, 12), High: d.from(1, 20), Mass: d.from(0, 50), Need: d.from(0, 6)}
}

func (d dice) things(n int) []wagon.Thing {
	var l []wagon.Thing
	for range n {
		l = append(l, d.thing())
	}
	return l
}

// lorryFor has little more room than the things need, and sometimes less; now and then they are too high or too heavy for it.
func (d dice) lorryFor(things []wagon.Thing, lanes int) wagon.Lorry {
	l := wagon.Lorry{Height: d.from(19, 25), Empty: d.from(0, 99), Rear: d.from(1, 40), Axle: d.from(0, 500), Deck: d.from(0, 9)}
	long, mass := 0, 0
	for _, t := range things {
		long += t.Long
		mass += t.Mass
	}
	for range lanes {
		l.Lanes = append(l.Lanes, max(1, long/lanes+d.from(-2, 5)))
	}
	l.Carries = max(0, mass+d.from(-3, 60))
	return l
}

// number is one that may be from lo to hi.
type number[T any] struct {
	name   string
	set    func(*T, int)
	lo, hi int
}

// checkNumbers sets each number to its limits, to 0 and 1, and beyond its limits.
func checkNumbers[T any](t *testing.T, good func() T, check func(T) api.Errno, l []number[T]) {
	t.Helper()
	for _, x := range l {
		for _, n := range []int{x.lo, x.hi, 0, 1, x.lo - 1, x.hi + 1, lowest, highest} {
			want := api.ErrArg
			if x.lo <= n && n <= x.hi {
				want = api.OK
			}
			v := good()
			x.set(&v, n)
			if e := check(v); e != want {
				t.Error(x.name, n, e)
			}
		}
	}
}
