package rigging

import "bigtop/api"

func isDay(n int) bool { return within(n, 0, api.MaxDay) }

func isShift(hours int) bool { return within(hours, 0, 24) }

func (g Gear) valid() bool {
	return within(g.Days, 1, api.MaxAge) && within(g.Hours, 1, api.MaxUsed)
}

func loggable(log []Entry, gears int) bool {
	day := 0
	for _, x := range log {
		if !within(x.Day, day, api.MaxDay) || !within(x.Number, 0, gears-1) || !isShift(x.Hours) {
			return false
		}
		day = x.Day
	}
	return true
}

// use is a gear with the day of its last check, and its hours of work behind that.
type use struct {
	Gear
	checked    bool
	last, work int
}

func used(g Gear, number int, log []Entry, day int) use {
	u := use{Gear: g}
	for _, x := range log {
		switch {
		case x.Number != number || x.Day > day: // not looked at
		case x.Checked:
			u.checked, u.last, u.work = true, x.Day, 0
		default:
			u.work += x.Hours
		}
	}
	return u
}

func (u use) stale(day int) bool {
	return !u.checked || day-u.last > u.Days || u.work > u.Hours
}

// until ends without hours of work too: days pass.
func (u use) until(day, hours int) int {
	for ; ; day++ {
		u.work += hours
		if u.stale(day) {
			return day
		}
	}
}

func stale(gear []Gear, log []Entry, day int) []int {
	var l []int
	for i, g := range gear {
		if used(g, i, log, day).stale(day) {
			l = append(l, i)
		}
	}
	return l
}
