package programme_test

import (
	"iter"
	"math/rand"
	"slices"
	"testing"

	"bigtop/api"
	"bigtop/programme"
)

const (
	lowest  = -1 << 63
	highest = 1<<63 - 1
)

func list(l ...int) []int { return l }

func pairs(l ...[2]int) [][2]int { return l }

// casts are sets of persons.
func casts(l ...uint16) []uint16 { return l }

// show is that of the chapter's examples.
func show() programme.Show {
	return programme.Show{
		Acts: []programme.Act{
			{Minutes: 10, Tension: 40, Rigs: 1, Casts: casts(1)},
			{Minutes: 8, Tension: 60, Rigs: 2, Casts: casts(2+4, 2+8)},
			{Minutes: 12, Tension: 50, Rigs: 1, Casts: casts(1 + 8), Spare: true},
		},
		Rest: list(1, 0, 0, 0), In: list(3, 5), Out: list(2, 4), Cover: 9, Dull: 1,
	}
}

// plain has so many acts of nobody that need nothing.
func plain(acts int) programme.Show {
	return programme.Show{Acts: slices.Repeat([]programme.Act{{Minutes: 5, Casts: casts(0)}}, acts)}
}

// played has an act of each of these casts.
func played(rest []int, l ...uint16) programme.Show {
	s := plain(len(l))
	s.Rest = rest
	for i, cast := range l {
		s.Acts[i].Casts = casts(cast)
	}
	return s
}

// rigged has acts that need these kinds, each of which takes a minute to bring in and two to take out.
func rigged(cover int, l ...uint16) programme.Show {
	s := plain(len(l))
	s.In, s.Out, s.Cover = slices.Repeat(list(1), 10), slices.Repeat(list(2), 10), cover
	for i, rigs := range l {
		s.Acts[i].Rigs = rigs
	}
	return s
}

// tense has acts of these tensions.
func tense(dull int, l ...int) programme.Show {
	s := plain(len(l))
	s.Dull = dull
	for i, tension := range l {
		s.Acts[i].Tension = tension
	}
	return s
}

func withPairs(s programme.Show, l ...[2]int) programme.Show {
	s.Before = l
	return s
}

// full has as many of all things as there may be, and everything is at its greatest.
func full() programme.Show {
	s := programme.Show{Rest: slices.Repeat(list(api.MaxApart), api.MaxPersons), Cover: api.MaxCover, Dull: api.MaxDull}
	s.In, s.Out = slices.Repeat(list(api.MaxSetup), api.MaxRigs), slices.Repeat(list(api.MaxSetup), api.MaxRigs)
	for i := range api.MaxTurns {
		s.Acts = append(s.Acts, programme.Act{Minutes: api.MaxPlay, Tension: api.MaxTension, Rigs: 1<<api.MaxRigs - 1, Casts: casts(3<<(2*i), 1<<(2*i), 0, 1<<16-1), Spare: true})
	}
	for i := range api.MaxPairs {
		s.Before = append(s.Before, [2]int{i % 7, 7})
	}
	return s
}

func copyShow(s programme.Show) programme.Show {
	s.Acts = slices.Clone(s.Acts)
	for i, act := range s.Acts {
		s.Acts[i].Casts = slices.Clone(act.Casts)
	}
	s.Rest, s.In, s.Out, s.Before = slices.Clone(s.Rest), slices.Clone(s.In), slices.Clone(s.Out), slices.Clone(s.Before)
	return s
}

func sameShow(a, b programme.Show) bool {
	sameAct := func(a, b programme.Act) bool {
		return a.Minutes == b.Minutes && a.Tension == b.Tension && a.Rigs == b.Rigs && slices.Equal(a.Casts, b.Casts) && a.Spare == b.Spare
	}
	return slices.EqualFunc(a.Acts, b.Acts, sameAct) && slices.Equal(a.Rest, b.Rest) && slices.Equal(a.In, b.In) && slices.Equal(a.Out, b.Out) &&
		a.Cover == b.Cover && a.Dull == b.Dull && slices.Equal(a.Before, b.Before)
}

func sameTable(a, b [][]int) bool { return slices.EqualFunc(a, b, slices.Equal) }

func sameAbsence(a, b programme.Absence) bool {
	return slices.Equal(a.Order, b.Order) && a.Exception == b.Exception && a.Dark == b.Dark
}

func copyTable(l [][]int) [][]int {
	l = slices.Clone(l)
	for i := range l {
		l[i] = slices.Clone(l[i])
	}
	return l
}

func isIn(i int, set uint16) bool { return set/(1<<i)%2 == 1 }

// changeBy adds up kind by kind.
func changeBy(s programme.Show, a, b int) (minutes, cost int) {
	for kind := range s.In {
		switch needs, needed := isIn(kind, s.Acts[b].Rigs), isIn(kind, s.Acts[a].Rigs); {
		case needs && !needed:
			minutes += s.In[kind]
		case needed && !needs:
			minutes += s.Out[kind]
		}
	}
	cost = minutes
	if s.Acts[a].Tension > s.Acts[b].Tension {
		cost += s.Dull * (s.Acts[a].Tension - s.Acts[b].Tension)
	}
	return minutes, cost
}

// haveInCommon are the persons in the casts of both acts whose Rest is one of these.
func haveInCommon(s programme.Show, a, b int, rests ...int) bool {
	for person, rest := range s.Rest {
		if isIn(person, s.Acts[a].Casts[0]) && isIn(person, s.Acts[b].Casts[0]) && slices.Contains(rests, rest) {
			return true
		}
	}
	return false
}

// faultAt is the least fault at the place i, told by the words of the chapter; 0 is none. The order need not have all acts.
func faultAt(s programme.Show, order []int, i int) uint8 {
	if i > 0 {
		if minutes, _ := changeBy(s, order[i-1], order[i]); minutes > s.Cover {
			return programme.LongChange
		}
		if haveInCommon(s, order[i-1], order[i], 1, 2) {
			return programme.NoRest
		}
	}
	if i > 1 && haveInCommon(s, order[i-2], order[i], 2) {
		return programme.NoRest
	}
	for _, p := range s.Before {
		if p[1] == order[i] && !slices.Contains(order[:i], p[0]) {
			return programme.TooEarly
		}
	}
	return 0
}

func faultBy(s programme.Show, order []int) (place int, why uint8) {
	for i := range order {
		if why := faultAt(s, order, i); why != 0 {
			return i, why
		}
	}
	return 0, 0
}

func costBy(s programme.Show, order []int) (n int) {
	for i := 1; i < len(order); i++ {
		_, cost := changeBy(s, order[i-1], order[i])
		n += cost
	}
	return n
}

// orders are all orders of so many acts, the least list first.
func orders(acts int) iter.Seq[[]int] {
	return func(yield func([]int) bool) {
		var grow func([]int) bool
		grow = func(l []int) bool {
			if len(l) == acts {
				return yield(l)
			}
			for act := range acts {
				if !slices.Contains(l, act) && !grow(append(slices.Clone(l), act)) {
					return false
				}
			}
			return true
		}
		grow(nil)
	}
}

// bestBy tries all orders.
func bestBy(s programme.Show) (best []int, least int, found bool) {
	for order := range orders(len(s.Acts)) {
		if _, why := faultBy(s, order); why != 0 {
			continue
		}
		if cost := costBy(s, order); !found || cost < least {
			best, least, found = order, cost, true
		}
	}
	return best, least, found
}

// membersBy are the acts of a row of a table.
func membersBy(row int) (l []int) {
	for act := range 16 {
		if isIn(act, uint16(row)) {
			l = append(l, act)
		}
	}
	return l
}

// mattersBy reports whether a right table has a number of this kind for the last act a and the one before it.
func mattersBy(row, a, b int) bool {
	l := membersBy(row)
	if a == b {
		return len(l) == 1 && l[0] == a
	}
	return slices.Contains(l, a) && slices.Contains(l, b)
}

// mostBy is the greatest number that may stand there, told by the words of the chapter.
func mostBy(s programme.Show, table [][]int, row, a, b int) int {
	n := len(s.Acts)
	if row == 1<<n-1 {
		return 0
	}
	most := api.MaxTable
	for c := range n {
		if isIn(c, uint16(row)) {
			continue
		}
		// An order that ends with these acts: all others of the set stand before them.
		order := slices.DeleteFunc(membersBy(row), func(act int) bool { return act == a || act == b })
		if b != a {
			order = append(order, b)
		}
		order = append(order, a, c)
		if faultAt(s, order, len(order)-1) == 0 {
			_, cost := changeBy(s, a, c)
			most = min(most, cost+table[row|1<<c][c*n+a])
		}
	}
	return most
}

// numbers are the places of the numbers that matter: rows, and acts a and b.
func numbers(s programme.Show) (l [][3]int) {
	for row := range 1 << len(s.Acts) {
		for a := range s.Acts {
			for b := range s.Acts {
				if mattersBy(row, a, b) {
					l = append(l, [3]int{row, a, b})
				}
			}
		}
	}
	return l
}

// greatestTable has the greatest numbers with which a table is right; those that do not matter are this one.
func greatestTable(s programme.Show, other int) (table [][]int) {
	n := len(s.Acts)
	for range 1 << n {
		table = append(table, slices.Repeat(list(other), n*n))
	}
	l := numbers(s)
	slices.Reverse(l) // sets with more acts have greater numbers
	for _, x := range l {
		table[x[0]][x[1]*n+x[2]] = mostBy(s, table, x[0], x[1], x[2])
	}
	return table
}

func isRightBy(s programme.Show, table [][]int) bool {
	n := len(s.Acts)
	for _, x := range numbers(s) {
		number := table[x[0]][x[1]*n+x[2]]
		if number > mostBy(s, table, x[0], x[1], x[2]) || x[0] == 1<<n-1 && number != 0 {
			return false
		}
	}
	return true
}

// boundBy is the least of no numbers if each act is the second one of a pair; found is false then.
func boundBy(s programme.Show, table [][]int) (bound int, found bool) {
	for a := range s.Acts {
		if slices.ContainsFunc(s.Before, func(p [2]int) bool { return p[1] == a }) {
			continue
		}
		if n := table[1<<a][a*len(s.Acts)+a]; !found || n < bound {
			bound, found = n, true
		}
	}
	return bound, found
}

// provesBy is what ProveBest has to report of a table with numbers that are within their limits.
func provesBy(s programme.Show, order []int, cost int, table [][]int) bool {
	if _, why := faultBy(s, order); why != 0 || costBy(s, order) != cost || !isRightBy(s, table) {
		return false
	}
	bound, _ := boundBy(s, table)
	return bound >= cost
}

// withoutBy tells the show without a person by the words of the chapter.
func withoutBy(s programme.Show, person int) (less programme.Show, kept []int, exception int, e api.Errno) {
	less = copyShow(s)
	less.Acts, less.Before = nil, nil
	at := map[int]int{}
	for i, act := range s.Acts {
		stays := slices.DeleteFunc(slices.Clone(act.Casts), func(cast uint16) bool { return isIn(person, cast) })
		if len(stays) == 0 && !act.Spare {
			return programme.Show{}, nil, i, api.ErrFail
		}
		if len(stays) > 0 {
			act.Casts, at[i] = stays, len(kept)
			less.Acts, kept = append(less.Acts, act), append(kept, i)
		}
	}
	if len(kept) == 0 {
		return programme.Show{}, nil, 0, api.ErrNone
	}
	for _, p := range s.Before {
		a, isKept := at[p[0]]
		b, areKept := at[p[1]]
		if isKept && areKept {
			less.Before = append(less.Before, [2]int{a, b})
		}
	}
	return less, kept, 0, api.OK
}

func absenceBy(s programme.Show, person int) programme.Absence {
	less, kept, exception, e := withoutBy(s, person)
	if e == api.ErrFail {
		return programme.Absence{Exception: exception}
	}
	best, _, found := bestBy(less)
	if e != api.OK || !found {
		return programme.Absence{Exception: -1, Dark: true}
	}
	for i, act := range best {
		best[i] = kept[act]
	}
	return programme.Absence{Order: best, Exception: -1}
}

// A dice makes things that are valid, from a seed.
type dice struct{ *rand.Rand }

func newDice(seed int64) dice { return dice{rand.New(rand.NewSource(seed))} }

func (d dice) from(lo, hi int) int { return lo + d.Intn(hi-lo+1) }

func (d dice) numbers(n, lo, hi int) (l []int) {
	for range n {
		l = append(l, d.from(lo, hi))
	}
	return l
}

// set has each of n with one chance in so many.
func (d dice) set(n, chance int) (set uint16) {
	for i := range n {
		if d.Intn(chance) == 0 {
			set |= 1 << i
		}
	}
	return set
}

func (d dice) act(persons, kinds int) programme.Act {
	act := programme.Act{Minutes: d.from(1, 60), Tension: d.from(0, 9), Rigs: d.set(kinds, 2), Spare: d.Intn(2) == 0}
	for range d.from(1, api.MaxCasts) {
		act.Casts = append(act.Casts, d.set(persons, 4))
	}
	return act
}

// show has so many acts; programmes are neither sure nor rare.
func (d dice) show(acts int) programme.Show {
	persons, kinds := d.from(0, 6), d.from(0, 4)
	s := programme.Show{
		Rest: d.numbers(persons, 0, 2), In: d.numbers(kinds, 0, 8), Out: d.numbers(kinds, 0, 8), Cover: d.from(6, 24), Dull: d.from(0, 3),
	}
	for range acts {
		s.Acts = append(s.Acts, d.act(persons, kinds))
	}
	for range d.from(0, acts-1) {
		if a, b := d.Intn(acts), d.Intn(acts); a != b {
			s.Before = append(s.Before, [2]int{a, b})
		}
	}
	return s
}

// number is one that may be from lo to hi.
type number[T any] struct {
	name   string
	set    func(*T, int)
	lo, hi int
}

// checkNumbers sets each number to its limits, to 0 and 1, and beyond its limits.
func checkNumbers[T any](t *testing.T, good func() T, check func(T) api.Errno, l []number[T]) {
	t.Helper()
	for _, x := range l {
		for _, n := range []int{x.lo, x.hi, 0, 1, x.lo - 1, x.hi + 1, lowest, highest} {
			want := api.ErrArg
			if x.lo <= n && n <= x.hi {
				want = api.OK
			}
			v := good()
			x.set(&v, n)
			if e := check(v); e != want {
				t.Error(x.name, n, e)
			}
		}
	}
}
