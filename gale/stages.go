package gale

import (
	"slices"

	"bigtop/api"
	"bigtop/canvas"
)

const whole = 100 // of a Cover, in hundredths

func (s Site) valid() bool {
	return s.windy() && s.leveled() && s.staged() && within(s.Open, 0, len(s.Stages)-2)
}

func (s Site) windy() bool {
	return within(len(s.Base), 1, api.MaxCorners) && every(s.Base, func(v canvas.Vector) bool {
		return within(v.X, -api.MaxBase, api.MaxBase) && within(v.Y, -api.MaxBase, api.MaxBase)
	})
}

func (s Site) leveled() bool {
	return within(len(s.Levels), 1, api.MaxLevels) && every(s.Levels, Level.valid) && ordered(s.Levels, Level.below)
}

func (l Level) valid() bool { return isStrength(l.Upto) && within(l.Push, 0, api.MaxTimes) }

func (l Level) below(next Level) bool { return l.Upto < next.Upto && l.Push <= next.Push }

func (s Site) staged() bool {
	if !within(len(s.Stages), 2, api.MaxStages) {
		return false
	}
	last := len(s.Stages) - 1
	return every(s.Stages[:last], Stage.valid) && s.Stages[last] == Stage{} && ordered(s.Stages, Stage.above)
}

func (s Stage) valid() bool { return within(s.Cover, 0, whole) && within(s.Minutes, 1, api.MaxLower) }

func (s Stage) above(next Stage) bool { return s.Cover > next.Cover }

func (s Site) has(stage int) bool { return within(stage, 0, len(s.Stages)-1) }

// reefed copies the guys, as those of t are an argument's.
func reefed(t canvas.Tent, cover int) canvas.Tent {
	t = slices.Clone(t)
	for i, h := range t {
		t[i].Area = (h.Area*cover + whole - 1) / whole
		t[i].Guys = slices.Clone(h.Guys)
	}
	return t
}

func (s Site) wind(l Level) []canvas.Vector {
	wind := slices.Clone(s.Base)
	for i, v := range wind {
		wind[i] = canvas.Vector{X: v.X * l.Push, Y: v.Y * l.Push}
	}
	return wind
}

// raised is a site with a tent at some stage on it.
type raised struct {
	Site
	tests []canvas.Test
	tent  canvas.Tent
}

func (r raised) falls(l Level) bool {
	head, _, _, _ := canvas.Weakest(r.tests, r.tent, r.wind(l))
	return head >= 0
}

func (r raised) limit() int {
	switch first := slices.IndexFunc(r.Levels, r.falls); first {
	case -1:
		return r.Levels[len(r.Levels)-1].Upto
	case 0:
		return -1
	default:
		return r.Levels[first-1].Upto
	}
}

func (s Site) limits(l []canvas.Test, t canvas.Tent) []int {
	limits := make([]int, len(s.Stages))
	for i, stage := range s.Stages {
		limits[i] = raised{s, l, reefed(t, stage.Cover)}.limit()
	}
	limits[len(limits)-1] = api.MaxStrength
	return limits
}

func (s Site) limited(limits []int) bool {
	known := func(n int) bool { return within(n, -1, api.MaxStrength) }
	notFalling := func(a, b int) bool { return a <= b }
	return len(limits) == len(s.Stages) && every(limits, known) &&
		ordered(limits, notFalling) && limits[len(limits)-1] == api.MaxStrength
}

func foreseen(worst []int) bool {
	return within(len(worst), 1, api.MaxAhead) && every(worst, isStrength)
}

// deadline is -1 if there is none.
func deadline(limit int, worst []int) int {
	hour := slices.IndexFunc(worst, func(n int) bool { return n > limit })
	if hour < 0 {
		return -1
	}
	return 60 * hour
}

// plan goes from the last stage to the first one, so that the least of the
// latest begins that it has is that of the next stage: as limits do not fall,
// the next stage has one wherever any later stage has.
func (s Site) plan(limits, worst []int, now, out int) (begin []int, call int, inTime bool) {
	begin, call = slices.Repeat([]int{-1}, len(limits)), -1
	var later []int
	for i := len(limits) - 1; i >= now; i-- {
		due := deadline(limits[i], worst)
		if due < 0 {
			continue
		}
		begin[i] = least(due, later...) - s.Stages[i].Minutes
		later = append(later, begin[i])
		first := begin[i]
		if i == s.Open {
			call = begin[i] - out
			first = call
		}
		if first < 0 {
			return nil, 0, false
		}
	}
	return begin, call, true
}
