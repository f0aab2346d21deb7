package programme_test

import (
	"slices"
	"testing"

	"bigtop/api"
	"bigtop/programme"
)

func checkShows(t *testing.T, want api.Errno, shows map[string]func(*programme.Show)) {
	t.Helper()
	for name, set := range shows {
		s := show()
		set(&s)
		if e := programme.CheckShow(s); e != want {
			t.Error(name, e)
		}
	}
}

// P7.1: all numbers at both ends and beyond.
func TestNumbersOfShows(t *testing.T) {
	checkNumbers(t, show, programme.CheckShow, []number[programme.Show]{
		{"Rest", func(s *programme.Show, n int) { s.Rest[3] = n }, 0, api.MaxApart},
		{"the first Rest", func(s *programme.Show, n int) { s.Rest[0] = n }, 0, api.MaxApart},
		{"In", func(s *programme.Show, n int) { s.In[1] = n }, 0, api.MaxSetup},
		{"the first In", func(s *programme.Show, n int) { s.In[0] = n }, 0, api.MaxSetup},
		{"Out", func(s *programme.Show, n int) { s.Out[1] = n }, 0, api.MaxSetup},
		{"the first Out", func(s *programme.Show, n int) { s.Out[0] = n }, 0, api.MaxSetup},
		{"Cover", func(s *programme.Show, n int) { s.Cover = n }, 0, api.MaxCover},
		{"Dull", func(s *programme.Show, n int) { s.Dull = n }, 0, api.MaxDull},
		{"Minutes", func(s *programme.Show, n int) { s.Acts[2].Minutes = n }, 1, api.MaxPlay},
		{"the first Minutes", func(s *programme.Show, n int) { s.Acts[0].Minutes = n }, 1, api.MaxPlay},
		{"Tension", func(s *programme.Show, n int) { s.Acts[2].Tension = n }, 0, api.MaxTension},
		{"the first Tension", func(s *programme.Show, n int) { s.Acts[0].Tension = n }, 0, api.MaxTension},
	})
	for _, rest := range []int{0, 1, 2} {
		if e := programme.CheckShow(played(list(rest), 1)); e != api.OK {
			t.Error(rest, e)
		}
	}
	for _, rest := range []int{-1, 3} {
		if e := programme.CheckShow(played(list(rest), 1)); e != api.ErrArg {
			t.Error(rest, e)
		}
	}
}

// P7.1: lists with none, with as many as there may be, and with one more.
func TestListsOfShows(t *testing.T) {
	for acts := range 12 {
		want := api.ErrArg
		if acts >= 1 && acts <= api.MaxTurns {
			want = api.OK
		}
		if e := programme.CheckShow(plain(acts)); e != want {
			t.Error(acts, "acts:", e)
		}
	}
	checkShows(t, api.OK, map[string]func(*programme.Show){
		"the example":       func(*programme.Show) {},
		"everything":        func(s *programme.Show) { *s = full() },
		"no persons":        func(s *programme.Show) { *s = plain(3) },
		"no persons, empty": func(s *programme.Show) { *s = plain(3); s.Rest = list() },
		"all persons":       func(s *programme.Show) { s.Rest = make([]int, api.MaxPersons) },
		"all kinds":         func(s *programme.Show) { s.In, s.Out = make([]int, api.MaxRigs), make([]int, api.MaxRigs) },
		"no kinds": func(s *programme.Show) {
			s.In, s.Out, s.Acts[0].Rigs, s.Acts[1].Rigs, s.Acts[2].Rigs = nil, list(), 0, 0, 0
		},
		"no pairs, empty": func(s *programme.Show) { s.Before = pairs() },
		"all pairs":       func(s *programme.Show) { s.Before = slices.Repeat(pairs([2]int{0, 1}), api.MaxPairs) },
		"all casts":       func(s *programme.Show) { s.Acts[2].Casts = slices.Repeat(casts(5), api.MaxCasts) },
	})
	checkShows(t, api.ErrArg, map[string]func(*programme.Show){
		"a zero value":     func(s *programme.Show) { *s = programme.Show{} },
		"no acts":          func(s *programme.Show) { s.Acts = nil },
		"too many persons": func(s *programme.Show) { s.Rest = make([]int, api.MaxPersons+1) },
		"too many kinds":   func(s *programme.Show) { s.In, s.Out = make([]int, api.MaxRigs+1), make([]int, api.MaxRigs+1) },
		"an In too many":   func(s *programme.Show) { s.In = append(s.In, 1) },
		"an Out too many":  func(s *programme.Show) { s.Out = append(s.Out, 1) },
		"an In too few":    func(s *programme.Show) { s.In = s.In[:1] },
		"an Out too few":   func(s *programme.Show) { s.Out = s.Out[:1] },
		"no Out":           func(s *programme.Show) { s.Out = nil },
		"no kinds at all":  func(s *programme.Show) { s.In, s.Out = nil, nil },
		"too many pairs":   func(s *programme.Show) { s.Before = slices.Repeat(pairs([2]int{0, 1}), api.MaxPairs+1) },
		"no casts":         func(s *programme.Show) { s.Acts[2].Casts = nil },
		"no casts, empty":  func(s *programme.Show) { s.Acts[0].Casts = casts() },
		"too many casts":   func(s *programme.Show) { s.Acts[2].Casts = slices.Repeat(casts(5), api.MaxCasts+1) },
	})
}

// P7.1: sets with no bits, with all bits, and with one that no kind or person has.
func TestSetsOfShows(t *testing.T) {
	checkShows(t, api.OK, map[string]func(*programme.Show){
		"no rigs":      func(s *programme.Show) { s.Acts[0].Rigs = 0 },
		"all rigs":     func(s *programme.Show) { s.Acts[0].Rigs = 3 },
		"an empty one": func(s *programme.Show) { s.Acts[0].Casts = casts(0) },
		"all persons":  func(s *programme.Show) { s.Acts[0].Casts = casts(0, 15) },
		"a third kind": func(s *programme.Show) { s.In, s.Out, s.Acts[2].Rigs = list(1, 2, 3), list(1, 2, 3), 7 },
		"the last one": func(s *programme.Show) { s.Rest, s.Acts[2].Casts = make([]int, 16), casts(1<<15) },
	})
	checkShows(t, api.ErrArg, map[string]func(*programme.Show){
		"one kind too many":        func(s *programme.Show) { s.Acts[0].Rigs = 4 },
		"a kind of the last act":   func(s *programme.Show) { s.Acts[2].Rigs = 1 + 4 },
		"the last bit":             func(s *programme.Show) { s.Acts[0].Rigs = 1 << 15 },
		"an eleventh kind":         func(s *programme.Show) { *s = full(); s.Acts[7].Rigs = 1 << 10 },
		"one person too many":      func(s *programme.Show) { s.Acts[0].Casts = casts(16) },
		"a person of the last act": func(s *programme.Show) { s.Acts[2].Casts = casts(1, 2, 3, 1+16) },
		"the last person":          func(s *programme.Show) { s.Acts[0].Casts = casts(1 << 15) },
		"a person of fifteen":      func(s *programme.Show) { s.Rest, s.Acts[2].Casts = make([]int, 15), casts(1<<15) },
		"one where there is none":  func(s *programme.Show) { *s = plain(2); s.Acts[1].Casts = casts(1) },
		"a kind where there is none": func(s *programme.Show) {
			*s = plain(2)
			s.Acts[1].Rigs = 1
		},
	})
}

// P7.1: pairs of different acts that there are; they may go round in a circle, and stand twice.
func TestPairsOfShows(t *testing.T) {
	numbers := []int{lowest, -1, 0, 1, 2, 3, highest}
	for _, a := range numbers {
		for _, b := range numbers {
			want := api.ErrArg
			if a >= 0 && a <= 2 && b >= 0 && b <= 2 && a != b {
				want = api.OK
			}
			for _, l := range [][][2]int{pairs([2]int{a, b}), pairs([2]int{2, 0}, [2]int{a, b}), pairs([2]int{a, b}, [2]int{2, 0})} {
				if e := programme.CheckShow(withPairs(show(), l...)); e != want {
					t.Error(l, e)
				}
			}
		}
	}
	if e := programme.CheckShow(withPairs(show(), [2]int{0, 1}, [2]int{1, 2}, [2]int{2, 0})); e != api.OK {
		t.Error("a circle:", e)
	}
}

func checkChange(t *testing.T, s programme.Show, a, b, minutes, cost int) {
	t.Helper()
	if n, c, e := programme.Change(s, a, b); n != minutes || c != cost || e != api.OK {
		t.Error(a, b, n, c, e)
	}
}

// P7.1: the chapter's examples, and their ways back.
func TestChangeExamples(t *testing.T) {
	checkChange(t, show(), 0, 1, 7, 7)
	checkChange(t, show(), 1, 2, 7, 17)
	checkChange(t, show(), 0, 2, 0, 0)
	checkChange(t, show(), 1, 0, 7, 27)
	checkChange(t, show(), 2, 0, 0, 10)
}

// P7.1: kinds that are needed by none, one and both; more, the same and less tension; changes beyond Cover.
func TestChanges(t *testing.T) {
	s := rigged(0, 0, 1<<9, 1+2+4, 4+8)
	checkChange(t, s, 0, 1, 1, 1)
	checkChange(t, s, 1, 0, 2, 2)
	checkChange(t, s, 2, 3, 5, 5)
	checkChange(t, s, 3, 2, 4, 4)
	checkChange(t, s, 1, 2, 5, 5)
	checkChange(t, s, 0, 2, 3, 3)
	s = tense(10, 0, 100, 100, 99)
	checkChange(t, s, 0, 1, 0, 0)
	checkChange(t, s, 1, 0, 0, 1000)
	checkChange(t, s, 1, 2, 0, 0)
	checkChange(t, s, 2, 3, 0, 10)
	checkChange(t, s, 3, 2, 0, 0)
	s.Dull = 0
	checkChange(t, s, 1, 0, 0, 0)
	s = full()
	s.Acts[1].Rigs, s.Acts[1].Tension = 0, 0
	checkChange(t, s, 0, 1, 300, 1300)
	checkChange(t, s, 1, 0, 300, 300)
	checkChange(t, s, 2, 0, 0, 0)
	checkChange(t, s, 7, 6, 0, 0)
}

// P7.1: acts that are not there, and twice the same.
func TestChangeRange(t *testing.T) {
	numbers := []int{lowest, -1, 0, 1, 2, 3, highest}
	for _, a := range numbers {
		for _, b := range numbers {
			minutes, cost, e := programme.Change(show(), a, b)
			if isGood := a >= 0 && a <= 2 && b >= 0 && b <= 2 && a != b; isGood != (e == api.OK) || !isGood && (e != api.ErrRange || minutes != 0 || cost != 0) {
				t.Error(a, b, minutes, cost, e)
			}
		}
	}
	if minutes, cost, e := programme.Change(plain(1), 0, 0); minutes != 0 || cost != 0 || e != api.ErrRange {
		t.Error("one act:", minutes, cost, e)
	}
}

// P7.1, by the definition.
func TestChangesOfAll(t *testing.T) {
	d := newDice(71)
	for range 2000 {
		s := d.show(d.from(2, api.MaxTurns))
		for a := range s.Acts {
			for b := range s.Acts {
				if a != b {
					minutes, cost := changeBy(s, a, b)
					checkChange(t, s, a, b, minutes, cost)
				}
			}
		}
	}
}
