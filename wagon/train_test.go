package wagon_test

import (
	"slices"
	"testing"

	"bigtop/api"
	"bigtop/wagon"
)

func train(l ...wagon.Lorry) []wagon.Lorry { return l }

// weighing is the lorry with lanes for many, that carries so much.
func weighing(carries int) wagon.Lorry {
	l := lanes(100, 100)
	l.Carries = carries
	return l
}

// P5.5: lorries that get the first things by need, as many as fit, none, or MaxThings; and things that are left.
func TestFill(t *testing.T) {
	mixed := row(20, 30, 10, 20, 25)
	for i, n := range []int{5, 1, 1, 9, 7} {
		mixed[i].Need = n
	}
	high := row(5, 5, 5)
	high[1].High = 31
	tall := lanes(60, 50)
	tall.Height = 31
	heavy := equally(5)
	forty := equally(api.MaxCargo)
	for _, x := range []struct {
		name    string
		lorries []wagon.Lorry
		things  []wagon.Thing
		want    [][][]int // nil: something is left
	}{
		{"the chapter's things", train(lorry()), things(), [][][]int{in(list(0, 1), list(2, 3))}},
		{"the chapter's things, and a lorry more", train(lorry(), lorry()), things(), [][][]int{in(list(0, 1), list(2, 3)), in(nil, nil)}},
		{"no things", train(lorry(), lanes(1)), nil, [][][]int{in(nil, nil), in(nil)}},
		{"the first ones by need", train(lanes(40), lanes(30, 20), lanes(20)), mixed, [][][]int{in(list(1, 2)), in(list(4), list(0)), in(list(3))}},
		{"some are left", train(lanes(40), lanes(30, 20)), mixed, nil},
		{"one is left", train(lanes(40), lanes(30, 20), lanes(19)), mixed, nil},
		{"a lorry in the middle that gets nothing", train(lanes(40), lanes(19, 19), lanes(30, 20), lanes(20)), mixed, [][][]int{in(list(1, 2)), in(nil, nil), in(list(4), list(0)), in(list(3))}},
		{"not a later one that fits", train(lanes(30), lanes(60)), row(20, 20, 10), [][][]int{in(list(0)), in(list(1, 2))}},
		{"one too high for the first lorry", train(lorry(), tall), high, [][][]int{in(list(0), nil), in(list(1, 2), nil)}},
		{"one too high for all", train(lorry(), lorry()), high, nil},
		{"just carried", train(weighing(2), weighing(3)), heavy, [][][]int{in(list(0, 1), nil), in(list(2, 3, 4), nil)}},
		{"one that nobody carries", train(weighing(2), weighing(2)), heavy, nil},
		{"at most MaxThings", train(weighing(99), weighing(99)), equally(16), [][][]int{in(countTo(14), nil), in(list(14, 15), nil)}},
		{"at most MaxThings, and no lorry more", train(weighing(99)), equally(15), nil},
		{"MaxThings", train(weighing(99)), equally(14), [][][]int{in(countTo(14), nil)}},
		{"MaxCargo", train(weighing(99), weighing(99), weighing(99)), forty, [][][]int{in(countTo(14), nil), in(countTo(28)[14:], nil), in(countTo(40)[28:], nil)}},
		{"MaxCargo, and MaxLorries", train(weighing(0), weighing(14), weighing(13), weighing(12), weighing(0), weighing(1)), forty, [][][]int{in(nil, nil), in(countTo(14), nil), in(countTo(27)[14:], nil), in(countTo(39)[27:], nil), in(nil, nil), in(list(39), nil)}},
		{"lanes by numbers, order by need", train(lanes(2, 2)), needed(1, 2, 3, 4), [][][]int{in(list(1, 0), list(3, 2))}},
		{"lanes by the numbers of the whole list", train(lanes(1), lanes(2, 2)), needed(7, 0, 9, 8, 7), [][][]int{in(list(1)), in(list(2, 0), list(3, 4))}},
		{"the same need, by number", train(lanes(2), lanes(2)), needed(3, 3, 3, 3), [][][]int{in(list(0, 1)), in(list(2, 3))}},
		{"a lane for one needed earlier", train(lanes(3, 4)), row(4, 3), [][][]int{in(list(1), list(0))}},
	} {
		want := api.OK
		if x.want == nil {
			want = api.ErrNone
		}
		if l, e := wagon.Fill(x.lorries, x.things); !sameTrain(l, x.want) || e != want {
			t.Error(x.name, l, e)
		}
	}
}

// fillByHand tries, for each lorry, the first things of those that are left, most of them first.
func fillByHand(lorries []wagon.Lorry, things []wagon.Thing) (out [][][]int, left int) {
	queue := countTo(len(things))
	slices.SortFunc(queue, func(a, b int) int {
		if things[a].Need != things[b].Need {
			return things[a].Need - things[b].Need
		}
		return a - b
	})
	for _, l := range lorries {
		for n := min(len(queue), api.MaxThings); ; n-- {
			numbers := slices.Sorted(slices.Values(queue[:n]))
			var some []wagon.Thing
			for _, i := range numbers {
				some = append(some, things[i])
			}
			p := firstRight(l, some)
			if p == nil {
				continue
			}
			for _, lane := range p {
				for at, i := range lane {
					lane[at] = numbers[i]
				}
			}
			out = append(out, p)
			queue = queue[n:]
			break
		}
	}
	return out, len(queue)
}

// P5.5 and P5.12, by the definitions: trains of small lorries.
func TestFillByDefinition(t *testing.T) {
	d := newDice(31)
	filled, shared := 0, 0
	for range 500 {
		l := d.things(d.from(0, 7))
		var lorries []wagon.Lorry
		for range d.from(1, 4) {
			by := d.lorryFor(l, d.from(1, 2))
			for i, room := range by.Lanes {
				by.Lanes[i] = max(1, room*2/3)
			}
			lorries = append(lorries, by)
		}
		want, left := fillByHand(lorries, l)
		got, e := wagon.Fill(lorries, l)
		if left > 0 {
			if len(got) > 0 || e != api.ErrNone {
				t.Error("something is left:", lorries, l, got, e)
			}
			continue
		}
		if !sameTrain(got, want) || e != api.OK {
			t.Error("Fill:", lorries, l, got, e, want)
		}
		filled++
		if checkTrain(t, l, got) > 1 {
			shared++
		}
		more, e := wagon.Fill(append(lorries, lorry()), l)
		if e != api.OK || len(more) != len(got)+1 || !sameTrain(more[:len(got)], got) || !samePacking(more[len(got)], in(nil, nil)) {
			t.Error("a lorry more:", lorries, l, got, more, e)
		}
	}
	if filled < 200 || shared < 100 {
		t.Error("hardly any trains:", filled, shared)
	}
}

// checkTrain asks for the order of the lorries, and for each thing once; it returns how many lorries have things.
func checkTrain(t *testing.T, things []wagon.Thing, train [][][]int) (used int) {
	t.Helper()
	last := 0
	var all []int
	for _, packing := range train {
		numbers := slices.Concat(packing...)
		if len(numbers) == 0 {
			continue
		}
		used++
		all = append(all, numbers...)
		var needs []int
		for _, i := range numbers {
			needs = append(needs, things[i].Need)
		}
		if slices.Min(needs) < last {
			t.Error("out of order:", things, train)
		}
		last = slices.Max(needs)
		checkOff(t, things, packing)
	}
	slices.Sort(all)
	if !slices.Equal(all, countTo(len(things))) {
		t.Error("not each thing once:", things, train)
	}
	return used
}

// P5.5 and P5.12: long trains, that are right lorry by lorry, and into which not one thing more fits.
func TestFillLong(t *testing.T) {
	d := newDice(32)
	filled := 0
	for range 60 {
		l := d.things(d.from(20, api.MaxCargo))
		var lorries []wagon.Lorry
		for range api.MaxLorries {
			by := d.lorryFor(l, d.from(1, 6))
			for i, room := range by.Lanes {
				by.Lanes[i] = max(12, room/d.from(2, 5))
			}
			by.Height, by.Carries = 20, d.from(100, 2000)
			lorries = append(lorries, by)
		}
		got, e := wagon.Fill(lorries, l)
		if e != api.OK {
			continue
		}
		filled++
		checkTrain(t, l, got)
		queue := countTo(len(l))
		slices.SortStableFunc(queue, func(a, b int) int { return l[a].Need - l[b].Need })
		for k, p := range got {
			n := len(slices.Concat(p...))
			checkLorryOf(t, lorries[k], l, queue, n, p)
			queue = queue[n:]
		}
	}
	if filled < 20 {
		t.Error("hardly any trains:", filled)
	}
}

// checkLorryOf asks whether the lorry has the first packing of the first n things of the queue, and no room for one more.
func checkLorryOf(t *testing.T, by wagon.Lorry, things []wagon.Thing, queue []int, n int, got [][]int) {
	t.Helper()
	pick := func(numbers []int) (l []wagon.Thing) {
		for _, i := range numbers {
			l = append(l, things[i])
		}
		return l
	}
	numbers := slices.Sorted(slices.Values(queue[:n]))
	p, e := wagon.Pack(by, pick(numbers))
	for _, lane := range p {
		for at, i := range lane {
			lane[at] = numbers[i]
		}
	}
	if !samePacking(p, got) || e != api.OK {
		t.Error("another packing:", by, numbers, p, e, got)
	}
	if n < len(queue) && n < api.MaxThings {
		if p, e := wagon.Pack(by, pick(queue[:n+1])); e != api.ErrNone {
			t.Error("one more fits:", by, queue[:n+1], p, e)
		}
	}
}
