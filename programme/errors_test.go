package programme_test

import (
	"slices"
	"testing"

	"bigtop/api"
	"bigtop/programme"
)

// args are what calls are made of; a defect spoils some of them.
type args struct {
	s      programme.Show
	a, b   int
	order  []int
	cost   int
	table  [][]int
	person int
}

type defect struct {
	name  string
	want  api.Errno
	spoil func(*args)
}

func goodArgs() args {
	order, cost, table, _ := programme.Best(show())
	return args{s: show(), a: 0, b: 1, order: order, cost: cost, table: table, person: 3}
}

func notValid(name string, spoil func(*args)) defect { return defect{name, api.ErrArg, spoil} }

func showDefects() []defect {
	return []defect{
		notValid("no acts", func(a *args) { a.s.Acts = nil }),
		notValid("too many acts", func(a *args) { a.s.Acts = slices.Repeat(a.s.Acts, 3) }),
		notValid("a Rest of three", func(a *args) { a.s.Rest = list(3, 0, 0, 0) }),
		notValid("an In too few", func(a *args) { a.s.In = list(3) }),
		notValid("a Cover below 0", func(a *args) { a.s.Cover = -1 }),
		notValid("a Dull that is too great", func(a *args) { a.s.Dull = 11 }),
		notValid("a pair of the same act", func(a *args) { a.s.Before = pairs([2]int{1, 1}) }),
	}
}

// outOfRange are defects with ErrRange.
func outOfRange(name string, set func(*args, int), numbers ...int) (l []defect) {
	for _, n := range numbers {
		l = append(l, defect{name, api.ErrRange, func(a *args) { set(a, n) }})
	}
	return l
}

func orderDefects() []defect {
	return slices.Concat(showDefects(), []defect{
		{"no order", api.ErrRange, func(a *args) { a.order = nil }},
		{"an order that is too short", api.ErrRange, func(a *args) { a.order = list(0, 1) }},
		{"an order that is too long", api.ErrRange, func(a *args) { a.order = list(0, 1, 2, 3) }},
		{"an act twice", api.ErrRange, func(a *args) { a.order = list(0, 1, 0) }},
	}, outOfRange("an act that is not there", func(a *args, n int) { a.order = list(0, n, 2) }, lowest, -1, 3, highest))
}

func programmeDefects() []defect {
	return append(orderDefects(),
		defect{"no rest", api.ErrFail, func(a *args) { a.s.Rest = list(2, 0, 0, 0) }},
		defect{"a change that is too long", api.ErrFail, func(a *args) { a.s.Cover = 6 }},
		defect{"an act too early", api.ErrFail, func(a *args) { a.s.Before = pairs([2]int{2, 0}) }})
}

// call has run, and zero tells whether all results beside the error are zero values.
type call struct {
	name    string
	run     func(args) (zero bool, e api.Errno)
	defects []defect
}

func calls() []call {
	numbers := list(lowest, -1, 4, highest)
	return []call{
		{"CheckShow", func(a args) (bool, api.Errno) { return true, programme.CheckShow(a.s) }, showDefects()},
		{"Change", func(a args) (bool, api.Errno) {
			minutes, cost, e := programme.Change(a.s, a.a, a.b)
			return minutes == 0 && cost == 0, e
		}, slices.Concat(showDefects(), outOfRange("a", func(a *args, n int) { a.a = n }, append(numbers, 1)...), outOfRange("b", func(a *args, n int) { a.b = n }, append(numbers, 3)...))},
		{"Fault", func(a args) (bool, api.Errno) {
			place, why, e := programme.Fault(a.s, a.order)
			return place == 0 && why == 0, e
		}, orderDefects()},
		{"Cost", func(a args) (bool, api.Errno) {
			cost, e := programme.Cost(a.s, a.order)
			return cost == 0, e
		}, programmeDefects()},
		{"Sheet", func(a args) (bool, api.Errno) {
			starts, end, e := programme.Sheet(a.s, a.order)
			return len(starts) == 0 && end == 0, e
		}, programmeDefects()},
		{"Best", func(a args) (bool, api.Errno) {
			order, cost, table, e := programme.Best(a.s)
			return len(order) == 0 && cost == 0 && len(table) == 0, e
		}, append(showDefects(), defect{"no programme", api.ErrNone, func(a *args) { a.s.Cover = 6 }})},
		{"Without", func(a args) (bool, api.Errno) {
			less, kept, exception, e := programme.Without(a.s, a.person)
			return sameShow(less, programme.Show{}) && len(kept) == 0 && exception == 0, e
		}, append(slices.Concat(showDefects(), outOfRange("person", func(a *args, n int) { a.person = n }, numbers...)), withoutDefects()...)},
		{"Absences", func(a args) (bool, api.Errno) {
			l, e := programme.Absences(a.s)
			return len(l) == 0, e
		}, showDefects()},
	}
}

// withoutDefects have the act 0 as the exception: all that is beside an error is a zero value then, too.
func withoutDefects() []defect {
	return []defect{
		{"an exception", api.ErrFail, func(a *args) { a.s.Acts[0].Casts, a.s.Acts[0].Spare = casts(8), false }},
		{"no act that is left", api.ErrNone, func(a *args) {
			for i := range a.s.Acts {
				a.s.Acts[i].Casts, a.s.Acts[i].Spare = casts(8), true
			}
		}},
	}
}

// Rules R1 and R2, P7.1 to P7.6: each call gets each of its defects alone, and with all those that are examined later.
func TestErrors(t *testing.T) {
	good := goodArgs()
	for _, x := range calls() {
		want := api.OK
		if x.name == "Fault" {
			want = api.ErrNone
		}
		if zero, e := x.run(goodArgs()); e != want || zero && x.name != "CheckShow" && x.name != "Fault" {
			t.Error(x.name, "without defects:", zero, e)
		}
		for i, f := range x.defects {
			alone, late := goodArgs(), goodArgs()
			f.spoil(&alone)
			for k := len(x.defects) - 1; k >= i; k-- {
				if x.defects[k].want != f.want || k == i {
					x.defects[k].spoil(&late)
				}
			}
			for _, a := range []args{alone, late} {
				if zero, e := x.run(a); e != f.want || !zero {
					t.Error(x.name, f.name, e, zero)
				}
			}
		}
	}
	for _, f := range programmeDefects() {
		a := goodArgs()
		f.spoil(&a)
		if programme.ProveBest(a.s, a.order, a.cost, good.table) {
			t.Error("ProveBest", f.name)
		}
	}
}

// Rule R4: no call changes an argument, and results are new memory.
func TestMemory(t *testing.T) {
	a, good := goodArgs(), goodArgs()
	a.s.Before, good.s.Before = pairs([2]int{0, 1}), pairs([2]int{0, 1})
	spare := make([]int, 3, 6)
	copy(spare, a.order)
	a.order = spare
	callAll(a)
	less, kept, _, _ := programme.Without(a.s, 3)
	again, keptAgain, _, _ := programme.Without(a.s, 3)
	order, _, table, _ := programme.Best(a.s)
	_, _, tableAgain, _ := programme.Best(a.s)
	starts, _, _ := programme.Sheet(a.s, a.order)
	absences, _ := programme.Absences(a.s)
	less.Rest[0], less.In[0], less.Out[0], less.Before[0], less.Acts[0].Minutes, less.Acts[0].Casts[0], less.Acts[1].Casts[0] = 77, 77, 77, [2]int{7, 7}, 77, 77, 77
	order[0], starts[0], kept[0], absences[2].Order[0] = 77, 77, 77, 77
	for i := range table {
		table[i][0] = 77
		table[i] = append(table[i], 78)
		table[i][len(table[i])-2] = 79
	}
	if table[1][0] != 77 || sameTable(table, tableAgain) || tableAgain[1][0] == 77 || absences[3].Order[0] == 77 {
		t.Error("results share memory")
	}
	if again.Rest[0] == 77 || again.Acts[0].Minutes == 77 || again.Acts[0].Casts[0] == 77 || keptAgain[0] == 77 || again.Before[0][0] == 7 {
		t.Error("results of two calls share memory:", again)
	}
	if !sameShow(a.s, good.s) || !slices.Equal(a.order, good.order) || !sameTable(a.table, good.table) || spare[:6][3] != 0 {
		t.Error("an argument was changed:", a.s, a.order)
	}
}

// The same arguments give the same results.
func TestNoHiddenState(t *testing.T) {
	d := newDice(81)
	for range 200 {
		x, y := d.show(d.from(1, 6)), d.show(d.from(1, 6))
		order, cost, table, e := programme.Best(x)
		absences, _ := programme.Absences(x)
		programme.Best(y)
		programme.Absences(y)
		if o, c, again, f := programme.Best(copyShow(x)); !slices.Equal(order, o) || c != cost || !sameTable(table, again) || e != f {
			t.Error("Best:", x, order, o)
		}
		if again, _ := programme.Absences(copyShow(x)); !slices.EqualFunc(absences, again, sameAbsence) {
			t.Error("Absences:", x, absences, again)
		}
	}
}

// Rule R3: nil lists and empty ones are the same.
func TestEmptyLists(t *testing.T) {
	s := programme.Show{Acts: []programme.Act{{Minutes: 1, Casts: casts(0)}, {Minutes: 1, Casts: casts(0)}}}
	x := copyShow(s)
	x.Rest, x.In, x.Out, x.Before = list(), list(), list(), pairs()
	order, cost, table, e := programme.Best(s)
	o, c, again, f := programme.Best(x)
	if !slices.Equal(order, o) || cost != c || !sameTable(table, again) || e != f || e != api.OK {
		t.Error(order, o, cost, c, e, f)
	}
}

// P1: any arguments; a panic would end the test.
func TestAnyArguments(t *testing.T) {
	d := newDice(82)
	number := func() int {
		return []int{lowest, lowest + 1, -1 << 32, -64, -63, -2, -1, 0, 1, 2, 3, 4, 7, 8, 10, 11, 15, 16, 17, 30, 31, 60, 61, 63, 64, 65, 100, api.MaxTable, api.MaxTable + 1, 1 << 62, highest - 1, highest}[d.Intn(32)]
	}
	for range 5000 {
		a := goodArgs()
		for range d.from(0, 4) {
			d.spoil(&a, number)
		}
		callAll(a)
	}
	callAll(args{})
}

// spoil sets something to some number.
func (d dice) spoil(a *args, number func() int) {
	act := d.from(0, 2)
	switch d.Intn(12) {
	case 0:
		a.a, a.b, a.person, a.cost = number(), number(), number(), number()
	case 1:
		a.order = append(slices.Clone(a.order[:d.Intn(len(a.order)+1)]), number())
	case 2:
		a.order = slices.Repeat(a.order, d.from(0, 4))
	case 3:
		a.table = append(copyTable(a.table[:d.Intn(len(a.table)+1)]), list(number()))
	case 4:
		if len(a.table) > 1 && len(a.table[1]) > 0 {
			a.table[1][d.Intn(len(a.table[1]))] = number()
		}
	case 5:
		a.s.Acts = a.s.Acts[:d.Intn(len(a.s.Acts)+1)]
	case 6:
		a.s.Cover, a.s.Dull = []int{9, number()}[d.Intn(2)], []int{1, number()}[d.Intn(2)]
	case 7:
		a.s.Before = append(slices.Clone(a.s.Before), [2]int{number(), number()})
	case 8:
		a.s.Rest = append(slices.Clone(a.s.Rest[:d.Intn(len(a.s.Rest)+1)]), number())
	case 9:
		a.s.In = append(slices.Clone(a.s.In), number())
		a.s.Out = append(slices.Clone(a.s.Out), number())
	case 10:
		if act < len(a.s.Acts) {
			a.s.Acts[act].Minutes, a.s.Acts[act].Tension, a.s.Acts[act].Rigs = []int{5, number()}[d.Intn(2)], number(), uint16(number())
		}
	case 11:
		if act < len(a.s.Acts) {
			a.s.Acts[act].Casts = append(slices.Clone(a.s.Acts[act].Casts), uint16(number()))[d.Intn(2):]
		}
	}
}

func callAll(a args) {
	programme.CheckShow(a.s)
	programme.Change(a.s, a.a, a.b)
	programme.Fault(a.s, a.order)
	programme.Cost(a.s, a.order)
	programme.Sheet(a.s, a.order)
	programme.Best(a.s)
	programme.ProveBest(a.s, a.order, a.cost, a.table)
	programme.Without(a.s, a.person)
	programme.Absences(a.s)
}
