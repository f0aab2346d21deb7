package rigging_test

import (
	"slices"
	"testing"

	"bigtop/api"
	"bigtop/rigging"
)

func entry(day, number, hours int) rigging.Entry {
	return rigging.Entry{Day: day, Number: number, Hours: hours}
}

func checked(day, number, hours int) rigging.Entry {
	return rigging.Entry{Day: day, Number: number, Hours: hours, Checked: true}
}

// winch is the gear of the chapter's examples, and its log.
func winch() ([]rigging.Gear, []rigging.Entry) {
	return []rigging.Gear{{Days: 30, Hours: 10}}, []rigging.Entry{checked(5, 0, 0), entry(6, 0, 8), entry(7, 0, 3)}
}

// P3.5
func TestCheckLogNumbers(t *testing.T) {
	gear := func() []rigging.Gear { return []rigging.Gear{{Days: 1, Hours: 1}, {Days: 7, Hours: 7}} }
	noLog := func(l []rigging.Gear) api.Errno { return rigging.CheckLog(l, nil) }
	checkNumbers(t, gear, noLog, []number[[]rigging.Gear]{
		{"days", func(l *[]rigging.Gear, n int) { (*l)[1].Days = n }, 1, api.MaxAge},
		{"hours of work", func(l *[]rigging.Gear, n int) { (*l)[1].Hours = n }, 1, api.MaxUsed},
		{"days of the first one", func(l *[]rigging.Gear, n int) { (*l)[0].Days = n }, 1, api.MaxAge},
	})
	log := func() []rigging.Entry { return []rigging.Entry{entry(3, 0, 5), checked(3, 1, 5), entry(9, 0, 5)} }
	check := func(l []rigging.Entry) api.Errno { return rigging.CheckLog(gear(), l) }
	checkNumbers(t, log, check, []number[[]rigging.Entry]{
		{"first day", func(l *[]rigging.Entry, n int) { (*l)[0].Day = n }, 0, 3},
		{"middle day", func(l *[]rigging.Entry, n int) { (*l)[1].Day = n }, 3, 9},
		{"last day", func(l *[]rigging.Entry, n int) { (*l)[2].Day = n }, 3, api.MaxDay},
		{"number", func(l *[]rigging.Entry, n int) { (*l)[2].Number = n }, 0, 1},
		{"hours of a check", func(l *[]rigging.Entry, n int) { (*l)[1].Hours = n }, 0, 24},
		{"hours", func(l *[]rigging.Entry, n int) { (*l)[2].Hours = n }, 0, 24},
	})
}

// P3.5, rules R1 and R3
func TestCheckLogShapes(t *testing.T) {
	gears := func(n int) []rigging.Gear { return slices.Repeat([]rigging.Gear{{Days: 1, Hours: 1}}, n) }
	entries := func(n int, x rigging.Entry) []rigging.Entry { return slices.Repeat([]rigging.Entry{x}, n) }
	for _, x := range []struct {
		name string
		gear []rigging.Gear
		log  []rigging.Entry
		want api.Errno
	}{
		{"nothing", nil, nil, api.OK},
		{"nothing, in lists", gears(0), entries(0, entry(0, 0, 0)), api.OK},
		{"an entry of no gear", nil, entries(1, entry(0, 0, 0)), api.ErrArg},
		{"no entries", gears(1), nil, api.OK},
		{"as many gears as there may be", gears(api.MaxGear), entries(1, entry(0, api.MaxGear-1, 0)), api.OK},
		{"one gear more", gears(api.MaxGear + 1), nil, api.ErrLimit},
		{"as many entries as there may be", gears(1), entries(api.MaxNotes, entry(5, 0, 0)), api.OK},
		{"one entry more", gears(1), entries(api.MaxNotes+1, entry(5, 0, 0)), api.ErrLimit},
		{"one gear more, not as described", make([]rigging.Gear, api.MaxGear+1), nil, api.ErrLimit},
		{"one entry more, with a gear that is not as described", make([]rigging.Gear, 1), entries(api.MaxNotes+1, entry(5, 0, 0)), api.ErrLimit},
		{"one entry more, not as described", gears(1), entries(api.MaxNotes+1, entry(-5, 0, 0)), api.ErrLimit},
		{"a gear that is not as described", make([]rigging.Gear, 1), nil, api.ErrArg},
		{"days that fall", gears(2), []rigging.Entry{entry(5, 0, 1), entry(4, 1, 1)}, api.ErrArg},
		{"days that fall after some", gears(2), []rigging.Entry{entry(5, 0, 1), entry(5, 1, 1), entry(6, 1, 1), entry(5, 1, 1)}, api.ErrArg},
	} {
		if e := rigging.CheckLog(x.gear, x.log); e != x.want {
			t.Error(x.name, e)
		}
	}
}

// P3.5 and P3.6: the chapter's examples.
func TestChaptersGear(t *testing.T) {
	gear, log := winch()
	for day, want := range map[int][]int{4: {0}, 6: nil, 7: {0}, 36: {0}} {
		if l, e := rigging.Stale(gear, log, day); !slices.Equal(l, want) || e != api.OK {
			t.Error("Stale:", day, l, e)
		}
	}
	if n, e := rigging.Until(gear, log, 0, 6, 1); n != 8 || e != api.OK {
		t.Error("Until:", n, e)
	}
}

// P3.5
func TestStale(t *testing.T) {
	one := []rigging.Gear{{Days: 10, Hours: 20}}
	two := []rigging.Gear{{Days: 10, Hours: 20}, {Days: 3, Hours: 5}}
	for _, x := range []struct {
		name string
		gear []rigging.Gear
		log  []rigging.Entry
		day  int
		want []int
	}{
		{"no gear", nil, nil, 5, nil},
		{"never checked, an empty log", two, nil, 0, []int{0, 1}},
		{"never checked, but it worked", one, []rigging.Entry{entry(1, 0, 1)}, 2, []int{0}},
		{"not yet checked", one, []rigging.Entry{checked(6, 0, 1)}, 5, []int{0}},
		{"checked on the day", one, []rigging.Entry{checked(5, 0, 1)}, 5, nil},
		{"checked on the first day", one, []rigging.Entry{checked(0, 0, 1)}, 0, nil},
		{"as many days as it may", one, []rigging.Entry{checked(5, 0, 1)}, 15, nil},
		{"a day more", one, []rigging.Entry{checked(5, 0, 1)}, 16, []int{0}},
		{"checked twice", one, []rigging.Entry{checked(5, 0, 1), checked(7, 0, 1)}, 17, nil},
		{"checked twice, a day more", one, []rigging.Entry{checked(5, 0, 1), checked(7, 0, 1)}, 18, []int{0}},
		{"checked again later", one, []rigging.Entry{checked(5, 0, 1), checked(17, 0, 1)}, 16, []int{0}},
		{"as many hours as it may", one, []rigging.Entry{checked(5, 0, 1), entry(6, 0, 12), entry(6, 0, 8)}, 6, nil},
		{"an hour more, on another day", one, []rigging.Entry{checked(5, 0, 1), entry(6, 0, 12), entry(6, 0, 8), entry(8, 0, 1)}, 8, []int{0}},
		{"an hour more, later", one, []rigging.Entry{checked(5, 0, 1), entry(6, 0, 12), entry(6, 0, 8), entry(8, 0, 1)}, 7, nil},
		{"hours of the check do not count", one, []rigging.Entry{checked(5, 0, 24)}, 5, nil},
		{"hours before the check of the day do not count", one, []rigging.Entry{checked(1, 0, 0), entry(5, 0, 24), checked(5, 0, 24)}, 5, nil},
		{"hours behind the check of the day count", one, []rigging.Entry{checked(5, 0, 24), entry(5, 0, 21)}, 5, []int{0}},
		{"hours of another one", two, []rigging.Entry{checked(5, 0, 0), checked(5, 1, 0), entry(6, 1, 6)}, 6, []int{1}},
		{"a check of another one", two, []rigging.Entry{checked(5, 1, 0)}, 6, []int{0}},
		{"both", two, []rigging.Entry{checked(5, 1, 0), checked(6, 0, 0), entry(6, 0, 21), entry(6, 1, 6)}, 6, []int{0, 1}},
		{"the last day", one, []rigging.Entry{checked(api.MaxDay, 0, 24)}, api.MaxDay, nil},
		{"the last day, too late", one, []rigging.Entry{checked(api.MaxDay-11, 0, 24)}, api.MaxDay, []int{0}},
	} {
		if l, e := rigging.Stale(x.gear, x.log, x.day); !slices.Equal(l, x.want) || e != api.OK {
			t.Error(x.name, l, e)
		}
	}
}

// P3.6
func TestUntil(t *testing.T) {
	one := []rigging.Gear{{Days: 10, Hours: 20}}
	fresh := []rigging.Entry{checked(5, 0, 24)}
	for _, x := range []struct {
		name       string
		gear       []rigging.Gear
		log        []rigging.Entry
		day, hours int
		want       int
	}{
		{"never checked", one, nil, 7, 0, 7},
		{"not yet checked", one, fresh, 4, 1, 4},
		{"by days alone", one, fresh, 5, 0, 16},
		{"by days alone, from another day", one, fresh, 9, 0, 16},
		{"by days, on the day itself", one, fresh, 16, 0, 16},
		{"by days, already past", one, fresh, 30, 0, 30},
		{"by days, with too few hours", one, fresh, 5, 1, 16},
		{"as many hours as it may, by days", one, fresh, 5, 2, 15},
		{"by hours", one, fresh, 5, 10, 7},
		{"by hours, just met", one, fresh, 5, 20, 6},
		{"by hours, at once", one, fresh, 5, 21, 5},
		{"by hours, with those of the day", one, append(fresh, entry(5, 0, 1)), 5, 20, 5},
		{"by hours, with those between", one, append(fresh, entry(6, 0, 15), entry(7, 0, 3)), 6, 2, 8},
		{"by hours of the log alone", one, append(fresh, entry(6, 0, 21)), 6, 0, 6},
		{"checked later, which is not looked at", one, append(fresh, checked(8, 0, 1)), 7, 5, 11},
		{"work later, which is not looked at", one, append(fresh, entry(8, 0, 24)), 7, 5, 11},
		{"checked on the day", one, append(fresh, entry(8, 0, 24), checked(8, 0, 1)), 8, 5, 12},
		{"beyond the last day", []rigging.Gear{{Days: api.MaxAge, Hours: 1}}, []rigging.Entry{checked(api.MaxDay, 0, 0)}, api.MaxDay, 0, api.MaxDay + api.MaxAge + 1},
		{"much work", []rigging.Gear{{Days: api.MaxAge, Hours: api.MaxUsed}}, []rigging.Entry{checked(0, 0, 0)}, 0, 24, 833},
		{"on the first day", one, []rigging.Entry{checked(0, 0, 0)}, 0, 24, 0},
	} {
		if n, e := rigging.Until(x.gear, x.log, 0, x.day, x.hours); n != x.want || e != api.OK {
			t.Error(x.name, n, e)
		}
	}
	two := []rigging.Gear{{Days: 10, Hours: 20}, {Days: 4, Hours: 9}}
	log := []rigging.Entry{checked(5, 0, 0), checked(5, 1, 0), entry(5, 0, 15)}
	for number, want := range []int{7, 9} {
		if n, e := rigging.Until(two, log, number, 5, 2); n != want || e != api.OK {
			t.Error("of two:", number, n, e)
		}
	}
}

// isStale is told by the words of the chapter, from the end of the log.
func isStale(gear []rigging.Gear, log []rigging.Entry, number, day int) bool {
	worked := 0
	for _, x := range slices.Backward(log) {
		if x.Day > day || x.Number != number {
			continue
		}
		if x.Checked {
			return day-x.Day > gear[number].Days || worked > gear[number].Hours
		}
		worked += x.Hours
	}
	return true
}

// P3.5, P3.6 and P3.13
func TestGearByDefinition(t *testing.T) {
	d := newDice(21)
	for range 1000 {
		gear, log := d.hours()
		for day := range 30 {
			var want []int
			for i := range gear {
				if isStale(gear, log, i, day) {
					want = append(want, i)
				}
			}
			if l, e := rigging.Stale(gear, log, day); !slices.Equal(l, want) || e != api.OK {
				t.Error(gear, log, day, l, want, e)
			}
		}
		number, day, hours := d.Intn(len(gear)), d.Intn(20), d.from(0, 24)
		last := slices.DeleteFunc(slices.Clone(log), func(x rigging.Entry) bool { return x.Day > day })
		want := day
		for last = append(last, entry(want, number, hours)); !isStale(gear, last, number, want); last = append(last, entry(want, number, hours)) {
			want++
		}
		n, e := rigging.Until(gear, log, number, day, hours)
		if n != want || e != api.OK {
			t.Error(gear, log, number, day, hours, n, want, e)
		}
		// P3.13: on the day before it would not be stale.
		before := slices.DeleteFunc(last, func(x rigging.Entry) bool { return x.Day >= n })
		if l, e := rigging.Stale(gear, before, max(n-1, 0)); n > day && (slices.Contains(l, number) || e != api.OK) {
			t.Error("the day before:", gear, before, number, n, l, e)
		}
	}
}

// P3.13
func TestStaysStale(t *testing.T) {
	d := newDice(22)
	for range 1000 {
		gear, log := d.hours()
		day := 15
		if len(log) > 0 {
			day = log[len(log)-1].Day
		}
		l, _ := rigging.Stale(gear, log, day)
		for later := day; later < day+20; later++ {
			again, e := rigging.Stale(gear, log, later)
			for _, i := range l {
				if !slices.Contains(again, i) || e != api.OK {
					t.Error("not stale any more:", gear, log, day, later, i, e)
				}
			}
			l = again
		}
		number := d.Intn(len(gear))
		fresh := append(log, checked(day, number, d.from(0, 24)))
		if l, e := rigging.Stale(gear, fresh, day); slices.Contains(l, number) || e != api.OK {
			t.Error("checked on the day:", gear, fresh, day, l, e)
		}
	}
}
