package gale_test

import (
	"slices"
	"testing"

	"bigtop/api"
	"bigtop/canvas"
	"bigtop/gale"
)

// P2.2
func TestCheckSiteNumbers(t *testing.T) {
	checkNumbers(t, site, gale.CheckSite, []number[gale.Site]{
		{"base x", func(s *gale.Site, n int) { s.Base[1].X = n }, -api.MaxBase, api.MaxBase},
		{"base y", func(s *gale.Site, n int) { s.Base[3].Y = n }, -api.MaxBase, api.MaxBase},
		{"first upto", func(s *gale.Site, n int) { s.Levels[0].Upto = n }, 0, 59},
		{"middle upto", func(s *gale.Site, n int) { s.Levels[1].Upto = n }, 31, 89},
		{"last upto", func(s *gale.Site, n int) { s.Levels[2].Upto = n }, 61, api.MaxStrength},
		{"first push", func(s *gale.Site, n int) { s.Levels[0].Push = n }, 0, 7},
		{"middle push", func(s *gale.Site, n int) { s.Levels[1].Push = n }, 4, 10},
		{"last push", func(s *gale.Site, n int) { s.Levels[2].Push = n }, 7, api.MaxTimes},
		{"first cover", func(s *gale.Site, n int) { s.Stages[0].Cover = n }, 51, 100},
		{"middle cover", func(s *gale.Site, n int) { s.Stages[1].Cover = n }, 1, 99},
		{"last cover", func(s *gale.Site, n int) { s.Stages[2].Cover = n }, 0, 0},
		{"first minutes", func(s *gale.Site, n int) { s.Stages[0].Minutes = n }, 1, api.MaxLower},
		{"middle minutes", func(s *gale.Site, n int) { s.Stages[1].Minutes = n }, 1, api.MaxLower},
		{"last minutes", func(s *gale.Site, n int) { s.Stages[2].Minutes = n }, 0, 0},
		{"open", func(s *gale.Site, n int) { s.Open = n }, 0, 1},
	})
}

// P2.2
func TestCheckSiteShapes(t *testing.T) {
	levels := func(n int) func(*gale.Site) {
		return func(s *gale.Site) {
			s.Levels = nil
			for i := range n {
				s.Levels = append(s.Levels, gale.Level{Upto: i})
			}
		}
	}
	stages := func(n int) func(*gale.Site) {
		return func(s *gale.Site) {
			s.Stages = nil
			for i := range n - 1 {
				s.Stages = append(s.Stages, gale.Stage{Cover: n - i, Minutes: 1})
			}
			s.Stages = append(s.Stages, gale.Stage{})
		}
	}
	corners := func(n int) func(*gale.Site) {
		return func(s *gale.Site) { s.Base = make([]canvas.Vector, n) }
	}
	for _, x := range []struct {
		name  string
		shape func(*gale.Site)
		want  api.Errno
	}{
		{"the chapter's", func(*gale.Site) {}, api.OK},
		{"nothing", func(s *gale.Site) { *s = gale.Site{} }, api.ErrArg},
		{"no corners", corners(0), api.ErrArg},
		{"no base", func(s *gale.Site) { s.Base = nil }, api.ErrArg},
		{"one corner", corners(1), api.OK},
		{"as many corners as there may be", corners(api.MaxCorners), api.OK},
		{"one corner more", corners(api.MaxCorners + 1), api.ErrArg},
		{"no levels", levels(0), api.ErrArg},
		{"one level", levels(1), api.OK},
		{"as many levels as there may be", levels(api.MaxLevels), api.OK},
		{"one level more", levels(api.MaxLevels + 1), api.ErrArg},
		{"no stages", func(s *gale.Site) { s.Stages = nil }, api.ErrArg},
		{"one stage", stages(1), api.ErrArg},
		{"two stages", stages(2), api.OK},
		{"as many stages as there may be", stages(api.MaxStages), api.OK},
		{"one stage more", stages(api.MaxStages + 1), api.ErrArg},
		{"open in the last stage but one", func(s *gale.Site) { stages(5)(s); s.Open = 3 }, api.OK},
		{"open in the last stage", func(s *gale.Site) { stages(5)(s); s.Open = 4 }, api.ErrArg},
	} {
		s := site()
		x.shape(&s)
		if e := gale.CheckSite(s); e != x.want {
			t.Error(x.name, e)
		}
	}
}

// P2.2
func TestReefed(t *testing.T) {
	s := site()
	s.Stages = []gale.Stage{{Cover: 100, Minutes: 1}, {Cover: 99, Minutes: 1}, {Cover: 50, Minutes: 1}, {Cover: 33, Minutes: 1}, {Cover: 1, Minutes: 1}, {}}
	big := append(tent(0, 1, 2, 100, 101, 150, api.MaxArea), canvas.Head{Area: 7, Bears: 9})
	for stage, want := range [][]int{
		{0, 1, 2, 100, 101, 150, 1000, 7},
		{0, 1, 2, 99, 100, 149, 990, 7},
		{0, 1, 1, 50, 51, 75, 500, 4},
		{0, 1, 1, 33, 34, 50, 330, 3},
		{0, 1, 1, 1, 2, 2, 10, 1},
		{0, 0, 0, 0, 0, 0, 0, 0},
	} {
		expected := append(tent(want[:7]...), canvas.Head{Area: want[7], Bears: 9})
		if got, e := gale.Reefed(big, s, stage); e != api.OK || !sameTent(got, expected) {
			t.Error(stage, got, e)
		}
	}
	if got, e := gale.Reefed(tent(100), site(), 1); e != api.OK || !sameTent(got, tent(50)) {
		t.Error("the chapter's:", got, e)
	}
	for _, stage := range []int{-1, 6, lowest, highest} {
		if got, e := gale.Reefed(big, s, stage); e != api.ErrRange || got != nil {
			t.Error(stage, got, e)
		}
	}
}

// P2.2: 56000 hundredths are what the guys of a head hold along each axis.
func TestLimits(t *testing.T) {
	for _, x := range []struct {
		name  string
		tent  canvas.Tent
		shape func(*gale.Site)
		want  []int
	}{
		{"the chapter's", tent(100), func(*gale.Site) {}, []int{30, 90, 1000}},
		{"just what it bears", tent(80), func(*gale.Site) {}, []int{60, 90, 1000}},
		{"one more than it bears", tent(81), func(*gale.Site) {}, []int{30, 90, 1000}},
		{"rounded up", tent(111), func(*gale.Site) {}, []int{30, 90, 1000}},
		{"one more, rounded up", tent(113), func(*gale.Site) {}, []int{30, 60, 1000}},
		{"not in the first level", tent(141), func(*gale.Site) {}, []int{-1, 60, 1000}},
		{"in no wind at all", tent(561), func(*gale.Site) {}, []int{-1, -1, 1000}},
		{"no area", tent(0), func(*gale.Site) {}, []int{90, 90, 1000}},
		{"the second head is weaker", tent(10, 113, 20), func(*gale.Site) {}, []int{30, 60, 1000}},
		{"a strength of 0", tent(200), func(s *gale.Site) { s.Levels[0] = gale.Level{} }, []int{0, 0, 1000}},
		{"one level", tent(100), func(s *gale.Site) { s.Levels = s.Levels[:1] }, []int{30, 30, 1000}},
		{"one level that is too strong", tent(150), func(s *gale.Site) { s.Levels = s.Levels[:1] }, []int{-1, 30, 1000}},
		{"up to the strongest", tent(10), func(s *gale.Site) { s.Levels[2].Upto = api.MaxStrength }, []int{1000, 1000, 1000}},
		{"the last corner is the strong one", tent(100), func(s *gale.Site) { s.Base = []canvas.Vector{{}, {X: 1}, {X: 50, Y: -100}} }, []int{30, 90, 1000}},
		{"a weak wind", tent(100), func(s *gale.Site) { s.Base = []canvas.Vector{{X: 56, Y: 56}, {X: -56, Y: 56}} }, []int{90, 90, 1000}},
		{"levels with the same push", tent(100), func(s *gale.Site) { s.Levels[1].Push, s.Levels[2].Push = 5, 5 }, []int{90, 90, 1000}},
		{"more stages", tent(200), func(s *gale.Site) {
			s.Stages = []gale.Stage{{Cover: 100, Minutes: 1}, {Cover: 70, Minutes: 1}, {Cover: 41, Minutes: 1}, {Cover: 40, Minutes: 1}, {Cover: 28, Minutes: 1}, {}}
		}, []int{-1, 30, 30, 60, 90, 1000}},
	} {
		s := site()
		x.shape(&s)
		if got, e := gale.Limits(pulled(), x.tent, s); e != api.OK || !slices.Equal(got, x.want) {
			t.Error(x.name, got, e)
		}
	}
	if got, e := gale.Limits(nil, tent(1), site()); e != api.OK || !slices.Equal(got, []int{-1, -1, 1000}) {
		t.Error("a soil that was not tested:", got, e)
	}
}

func stands(t *testing.T, l []canvas.Test, x canvas.Tent, s gale.Site, level gale.Level) bool {
	t.Helper()
	var wind []canvas.Vector
	for _, v := range s.Base {
		wind = append(wind, canvas.Vector{X: level.Push * v.X, Y: level.Push * v.Y})
	}
	head, _, _, e := canvas.Weakest(l, x, wind)
	if e != api.OK {
		t.Fatal(l, x, wind, e)
	}
	return head == -1
}

// P2.2 by its definition, and P2.7
func TestLessSail(t *testing.T) {
	d := newDice(3)
	seen := map[bool]int{}
	for range 600 {
		s, x := d.site(), d.tent()
		limits, e := gale.Limits(pulled(), x, s)
		if e != api.OK || len(limits) != len(s.Stages) || !slices.IsSorted(limits) || limits[len(limits)-1] != api.MaxStrength {
			t.Fatal(s, x, limits, e)
		}
		for stage := range limits[1:] {
			small, _ := gale.Reefed(x, s, stage)
			want, holds := -1, true
			for _, level := range s.Levels {
				now := stands(t, pulled(), small, s, level)
				if level.Upto <= limits[stage] && !now {
					t.Error("it does not stand:", s, x, stage, level)
				}
				if holds = holds && now; holds {
					want = level.Upto
				}
			}
			if limits[stage] != want {
				t.Error(s, x, limits, "stage", stage, "is not", want)
			}
			seen[holds]++
		}
	}
	if seen[true] < 100 || seen[false] < 100 {
		t.Error("too few of a kind:", seen)
	}
}

// P2.3
func TestPlan(t *testing.T) {
	limits := []int{30, 60, 1000}
	for _, x := range []struct {
		name           string
		worst          []int
		now, out, open int
		begin          []int
		call           int
	}{
		{"the chapter's", []int{20, 40, 70}, 0, 12, 0, []int{30, 100, -1}, 18},
		{"the chapter's second one", []int{20, 70}, 0, 5, 0, []int{10, 40, -1}, 5},
		{"open in the second stage", []int{20, 40, 70}, 0, 12, 1, []int{30, 100, -1}, 88},
		{"no wind above the limits", []int{20, 30, 30}, 0, 12, 0, []int{-1, -1, -1}, -1},
		{"just above the first limit", []int{20, 31}, 0, 12, 0, []int{30, -1, -1}, 18},
		{"just the second limit", []int{20, 60}, 0, 12, 0, []int{30, -1, -1}, 18},
		{"open in a stage without a deadline", []int{20, 60}, 0, 12, 1, []int{30, -1, -1}, -1},
		{"the first hour above, not the strongest", []int{20, 0, 61, 40, 1000}, 0, 60, 0, []int{70, 100, -1}, 10},
		{"the next stage is not in the way", []int{20, 40, 40, 61}, 0, 0, 0, []int{30, 160, -1}, 30},
		{"the next stage is in the way", []int{20, 61}, 0, 0, 0, []int{10, 40, -1}, 10},
		{"the call at 0", []int{20, 70}, 0, 10, 0, []int{10, 40, -1}, 0},
		{"the second stage now", []int{20, 70}, 1, 12, 0, []int{-1, 40, -1}, -1},
		{"the second stage now, and open", []int{20, 70}, 1, 40, 1, []int{-1, 40, -1}, 0},
		{"the first stage would be too late", []int{31, 70}, 1, 12, 0, []int{-1, 40, -1}, -1},
		{"the last stage now", []int{1000, 1000}, 2, 60, 0, []int{-1, -1, -1}, -1},
		{"the last stage now, open before", []int{1000}, 2, 60, 1, []int{-1, -1, -1}, -1},
		{"the strongest wind in the last hour", append(make([]int, api.MaxAhead-1), 1000), 0, 60, 0, []int{2770, 2800, -1}, 2710},
	} {
		s := site()
		s.Open = x.open
		if begin, call, e := gale.Plan(s, limits, x.worst, x.now, x.out); e != api.OK || !slices.Equal(begin, x.begin) || call != x.call {
			t.Error(x.name, begin, call, e)
		}
	}
}

// P2.3
func TestTooLate(t *testing.T) {
	for _, x := range []struct {
		name           string
		limits, worst  []int
		now, out, open int
		want           api.Errno
	}{
		{"the chapter's", []int{30, 60, 1000}, []int{20, 70}, 0, 12, 0, api.ErrLate},
		{"the call at 0", []int{30, 60, 1000}, []int{20, 70}, 0, 10, 0, api.OK},
		{"the call a minute below", []int{30, 60, 1000}, []int{20, 70}, 0, 11, 0, api.ErrLate},
		{"the call of a later stage", []int{30, 60, 1000}, []int{20, 70}, 0, 41, 1, api.ErrLate},
		{"the call of a later stage at 0", []int{30, 60, 1000}, []int{20, 70}, 0, 40, 1, api.OK},
		{"nobody is called in an earlier stage", []int{30, 60, 1000}, []int{20, 70}, 1, 60, 0, api.OK},
		{"nobody is called without a deadline", []int{30, 60, 1000}, []int{20, 60}, 0, 60, 1, api.OK},
		{"a begin below 0", []int{30, 60, 1000}, []int{31, 20}, 0, 0, 0, api.ErrLate},
		{"a begin below 0 that is not open", []int{30, 60, 1000}, []int{31, 20}, 0, 0, 1, api.ErrLate},
		{"both begins below 0", []int{-1, -1, 1000}, []int{0, 0}, 0, 0, 0, api.ErrLate},
		{"the first stage is over", []int{-1, 60, 1000}, []int{0, 0}, 1, 0, 0, api.OK},
		{"a limit of 0 is kept by no wind", []int{0, 0, 1000}, []int{0, 0}, 0, 0, 0, api.OK},
	} {
		s := site()
		s.Open = x.open
		begin, call, e := gale.Plan(s, x.limits, x.worst, x.now, x.out)
		if e != x.want || e != api.OK && (begin != nil || call != 0) {
			t.Error(x.name, begin, call, e)
		}
	}
	s := site()
	s.Stages[0].Minutes, s.Stages[1].Minutes = 40, 20
	if begin, call, e := gale.Plan(s, []int{30, 60, 1000}, []int{20, 70}, 0, 0); e != api.OK || begin[0] != 0 || call != 0 {
		t.Error("a begin at 0:", begin, call, e)
	}
	s.Stages[1].Minutes = 21
	if begin, call, e := gale.Plan(s, []int{30, 60, 1000}, []int{20, 70}, 0, 0); e != api.ErrLate || begin != nil || call != 0 {
		t.Error("a begin at -1:", begin, call, e)
	}
	s.Open = 1
	if begin, call, e := gale.Plan(s, []int{30, 60, 1000}, []int{20, 70}, 0, 0); e != api.ErrLate || begin != nil || call != 0 {
		t.Error("a begin at -1 that is not open:", begin, call, e)
	}
}

// P2.3: lists of another length than asked, and numbers at and beyond their limits.
func TestPlanRanges(t *testing.T) {
	for _, x := range []struct {
		name          string
		limits, worst []int
		now, out      int
		want          api.Errno
	}{
		{"all is well", []int{30, 60, 1000}, []int{5}, 0, 0, api.OK},
		{"no limits", nil, []int{5}, 0, 0, api.ErrRange},
		{"too few limits", []int{60, 1000}, []int{5}, 0, 0, api.ErrRange},
		{"too many limits", []int{30, 60, 90, 1000}, []int{5}, 0, 0, api.ErrRange},
		{"a limit of -1", []int{-1, -1, 1000}, []int{5}, 2, 0, api.OK},
		{"a limit of -2", []int{-2, -1, 1000}, []int{5}, 2, 0, api.ErrRange},
		{"all limits are the greatest", []int{1000, 1000, 1000}, []int{5}, 0, 0, api.OK},
		{"a limit above the greatest", []int{30, 60, 1001}, []int{5}, 0, 0, api.ErrRange},
		{"two limits above the greatest", []int{30, 1001, 1001}, []int{5}, 0, 0, api.ErrRange},
		{"a last limit below the greatest", []int{30, 60, 999}, []int{5}, 0, 0, api.ErrRange},
		{"equal limits", []int{60, 60, 1000}, []int{5}, 0, 0, api.OK},
		{"falling limits", []int{61, 60, 1000}, []int{5}, 0, 0, api.ErrRange},
		{"no hours", []int{30, 60, 1000}, nil, 0, 0, api.ErrRange},
		{"a list without hours", []int{30, 60, 1000}, []int{}, 0, 0, api.ErrRange},
		{"as many hours as there may be", []int{30, 60, 1000}, make([]int, api.MaxAhead), 0, 0, api.OK},
		{"one hour more", []int{30, 60, 1000}, make([]int, api.MaxAhead+1), 0, 0, api.ErrRange},
		{"a wind at the limits", []int{1000, 1000, 1000}, []int{0, api.MaxStrength}, 0, 0, api.OK},
		{"a wind below 0", []int{30, 60, 1000}, []int{0, -1}, 0, 0, api.ErrRange},
		{"a wind above the strongest", []int{1000, 1000, 1000}, []int{0, api.MaxStrength + 1}, 0, 0, api.ErrRange},
		{"now before the first stage", []int{30, 60, 1000}, []int{5}, -1, 0, api.ErrRange},
		{"now at the last stage", []int{30, 60, 1000}, []int{5}, 2, 0, api.OK},
		{"now behind the last stage", []int{30, 60, 1000}, []int{5}, 3, 0, api.ErrRange},
		{"out in less than nothing", []int{30, 60, 1000}, []int{5}, 0, -1, api.ErrRange},
		{"out in the longest time", []int{30, 60, 1000}, []int{5}, 0, api.MaxOut, api.OK},
		{"out in longer", []int{30, 60, 1000}, []int{5}, 0, api.MaxOut + 1, api.ErrRange},
		{"the greatest numbers", []int{lowest, highest, 1000}, []int{highest}, highest, lowest, api.ErrRange},
	} {
		begin, call, e := gale.Plan(site(), x.limits, x.worst, x.now, x.out)
		if e != x.want || e != api.OK && (begin != nil || call != 0) {
			t.Error(x.name, begin, call, e)
		}
	}
}

// latest tries all begins of a stage, the last ones first; next is the latest begin of the next stage, or -1.
func latest(minutes, deadline, next int) int {
	for begin := deadline; ; begin-- {
		if end := begin + minutes; end <= deadline && (next < 0 || end <= next) {
			return begin
		}
	}
}

// planned is the plan by its definition; a begin or a call below 0 is late.
func planned(s gale.Site, limits, worst []int, now, out int) (begin []int, call int, late bool) {
	begin, call = slices.Repeat([]int{-1}, len(limits)), -1
	for i := len(limits) - 2; i >= now; i-- {
		for hour, n := range worst {
			if n > limits[i] {
				begin[i] = latest(s.Stages[i].Minutes, 60*hour, begin[i+1])
				if late = begin[i] < 0 || i == s.Open && begin[i] < out; late {
					return nil, 0, true
				}
				if i == s.Open {
					call = begin[i] - out
				}
				break
			}
		}
	}
	return begin, call, false
}

func (d dice) limits(n int) []int {
	l := []int{api.MaxStrength}
	for range n - 1 {
		l = append(l, d.from(-1, 100))
	}
	slices.Sort(l)
	return l
}

// P2.3 by its definition, and P2.8
func TestDownOrEmpty(t *testing.T) {
	d := newDice(4)
	seen := map[bool]int{}
	for range 6000 {
		s := d.site()
		limits, now, out := d.limits(len(s.Stages)), d.Intn(len(s.Stages)), d.from(0, api.MaxOut)
		var worst []int
		for range d.from(1, 8) {
			worst = append(worst, d.from(0, 20+20*len(worst)))
		}
		begin, call, e := gale.Plan(s, limits, worst, now, out)
		wantBegin, wantCall, late := planned(s, limits, worst, now, out)
		if late != (e == api.ErrLate) || late == (e == api.OK) || !slices.Equal(begin, wantBegin) || call != wantCall {
			t.Error(s, limits, worst, now, out, begin, call, e, "is not", wantBegin, wantCall, late)
		}
		if seen[late]++; !late {
			keep(t, s, limits, worst, now, out, begin, call)
		}
	}
	if seen[true] < 500 || seen[false] < 500 {
		t.Error("too few of a kind:", seen)
	}
}

// keep lives through a plan, minute by minute.
func keep(t *testing.T, s gale.Site, limits, worst []int, now, out int, begin []int, call int) {
	t.Helper()
	stage, end := now, -1
	for minute := range 60 * len(worst) {
		if minute == end {
			stage, end = stage+1, -1
		}
		if slices.Contains(begin[:stage], minute) || slices.Contains(begin[stage+1:], minute) || begin[stage] == minute && end >= 0 {
			t.Error("not one after the other:", s, limits, worst, now, begin)
		}
		if begin[stage] == minute {
			end = minute + s.Stages[stage].Minutes
			if stage == s.Open && call+out > minute {
				t.Error("people are still in:", s, limits, worst, now, out, begin, call)
			}
		}
		if worst[minute/60] > limits[stage] {
			t.Fatal("it falls at", minute, s, limits, worst, now, begin)
		}
	}
}
