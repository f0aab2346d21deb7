package programme_test

import (
	"slices"
	"testing"

	"bigtop/api"
	"bigtop/programme"
)

// checkWithout asks for these acts, with these casts.
func checkWithout(t *testing.T, s programme.Show, person int, kept []int, casts ...[]uint16) programme.Show {
	t.Helper()
	less, k, exception, e := programme.Without(s, person)
	if !slices.Equal(k, kept) || exception != 0 || e != api.OK || len(less.Acts) != len(casts) {
		t.Fatal(person, less, k, exception, e)
	}
	for i, act := range less.Acts {
		old := s.Acts[kept[i]]
		if !slices.Equal(act.Casts, casts[i]) || act.Minutes != old.Minutes || act.Tension != old.Tension || act.Rigs != old.Rigs || act.Spare != old.Spare {
			t.Error(person, i, act, old)
		}
	}
	if !slices.Equal(less.Rest, s.Rest) || !slices.Equal(less.In, s.In) || !slices.Equal(less.Out, s.Out) || less.Cover != s.Cover || less.Dull != s.Dull {
		t.Error(person, less)
	}
	if e := programme.CheckShow(less); e != api.OK {
		t.Error(person, less, e)
	}
	return less
}

// checkNoShow asks for this error, and this exception.
func checkNoShow(t *testing.T, s programme.Show, person, exception int, want api.Errno) {
	t.Helper()
	less, kept, x, e := programme.Without(s, person)
	if !sameShow(less, programme.Show{}) || len(kept) > 0 || x != exception || e != want {
		t.Error(person, less, kept, x, e)
	}
}

func checkAbsences(t *testing.T, s programme.Show, want ...programme.Absence) {
	t.Helper()
	if l, e := programme.Absences(s); !slices.EqualFunc(l, want, sameAbsence) || e != api.OK {
		t.Error(l, want, e)
	}
}

func ordered(l ...int) programme.Absence { return programme.Absence{Order: l, Exception: -1} }

func excepted(act int) programme.Absence { return programme.Absence{Exception: act} }

func dark() programme.Absence { return programme.Absence{Exception: -1, Dark: true} }

// P7.5 and P7.6: the chapter's examples.
func TestAbsenceExamples(t *testing.T) {
	checkWithout(t, show(), 2, list(0, 1, 2), casts(1), casts(2+8), casts(1+8))
	checkWithout(t, show(), 3, list(0, 1), casts(1), casts(2+4))
	checkNoShow(t, show(), 1, 1, api.ErrFail)
	checkNoShow(t, show(), 0, 0, api.ErrFail)
	checkAbsences(t, show(), excepted(0), excepted(1), ordered(0, 1, 2), ordered(0, 1))
}

// P7.5: persons in no cast, in a later one, in several and in all; casts that are the same, and empty ones.
func TestCastsWithout(t *testing.T) {
	s := plain(2)
	s.Rest = list(2, 0, 1, 0, 0)
	s.Acts[0].Casts, s.Acts[1].Casts = casts(1, 2, 1+4, 2+4), casts(4+8, 8, 8, 0)
	checkWithout(t, s, 4, list(0, 1), casts(1, 2, 5, 6), casts(12, 8, 8, 0))
	checkWithout(t, s, 0, list(0, 1), casts(2, 6), casts(12, 8, 8, 0))
	checkWithout(t, s, 1, list(0, 1), casts(1, 5), casts(12, 8, 8, 0))
	checkWithout(t, s, 2, list(0, 1), casts(1, 2), casts(8, 8, 0))
	checkWithout(t, s, 3, list(0, 1), casts(1, 2, 5, 6), casts(0))
	s.Acts[1].Casts = casts(12, 8, 8, 8+1)
	checkNoShow(t, s, 3, 1, api.ErrFail)
	s.Acts[1].Spare = true
	checkWithout(t, s, 3, list(0), casts(1, 2, 5, 6))
	s = full()
	checkWithout(t, s, 15, list(0, 1, 2, 3, 4, 5, 6, 7), casts(3, 1, 0), casts(12, 4, 0), casts(48, 16, 0), casts(192, 64, 0), casts(768, 256, 0), casts(3072, 1024, 0), casts(12288, 4096, 0), casts(16384, 0))
}

// P7.5: acts that are left out, exceptions before and behind them, and no act that is left.
func TestActsWithout(t *testing.T) {
	s := played(list(0, 0), 1, 2, 1, 1, 2)
	checkNoShow(t, s, 0, 0, api.ErrFail)
	checkNoShow(t, s, 1, 1, api.ErrFail)
	s.Acts[0].Spare = true
	checkNoShow(t, s, 0, 2, api.ErrFail)
	s.Acts[2].Spare = true
	checkNoShow(t, s, 0, 3, api.ErrFail)
	s.Acts[3].Spare = true
	checkWithout(t, s, 0, list(1, 4), casts(2), casts(2))
	s.Acts[4].Spare = true
	checkNoShow(t, s, 1, 1, api.ErrFail)
	s.Acts[1].Spare = true
	checkWithout(t, s, 1, list(0, 2, 3), casts(1), casts(1), casts(1))
	// No act is left.
	s = played(list(0, 1, 0), 1, 1+2, 1)
	for i := range s.Acts {
		s.Acts[i].Spare = true
	}
	checkNoShow(t, s, 0, 0, api.ErrNone)
	checkWithout(t, s, 1, list(0, 2), casts(1), casts(1))
	checkAbsences(t, s, dark(), ordered(0, 2), ordered(0, 1, 2))
	s.Acts[2].Spare = false
	checkNoShow(t, s, 0, 2, api.ErrFail)
	checkAbsences(t, s, excepted(2), ordered(0, 2), ordered(0, 1, 2))
}

// P7.5: pairs get new indexes, or are left out with an act.
func TestPairsWithout(t *testing.T) {
	s := played(list(0, 0, 0), 1, 2, 4, 4, 1+2)
	s.Before = pairs([2]int{4, 0}, [2]int{3, 2}, [2]int{1, 4}, [2]int{2, 4}, [2]int{3, 2}, [2]int{0, 3})
	for i := range s.Acts {
		s.Acts[i].Spare = true
	}
	for person, want := range map[int][][2]int{
		0: pairs([2]int{2, 1}, [2]int{2, 1}),
		1: pairs([2]int{2, 1}, [2]int{2, 1}, [2]int{0, 2}),
		2: pairs([2]int{2, 0}, [2]int{1, 2}),
	} {
		if less, kept, _, e := programme.Without(s, person); !slices.Equal(less.Before, want) || len(kept) != 3 || e != api.OK {
			t.Error(person, less.Before, kept, e)
		}
	}
	// A circle that is open without one of its acts.
	s.Before = pairs([2]int{4, 2}, [2]int{2, 1}, [2]int{1, 4})
	checkNone(t, s)
	checkAbsences(t, s, ordered(2, 1, 3), ordered(0, 2, 3), ordered(0, 1, 4))
}

// P7.5 and the rule R1: persons that are not there.
func TestNoPerson(t *testing.T) {
	for _, person := range []int{lowest, -1, 4, 16, 64, highest} {
		checkNoShow(t, show(), person, 0, api.ErrRange)
	}
	checkNoShow(t, plain(2), 0, 0, api.ErrRange)
	checkAbsences(t, plain(2))
}

// P7.6: new casts change who has to rest; without some persons there is no programme.
func TestAbsences(t *testing.T) {
	// Without 0 the person 1 plays both acts, and has to rest.
	s := played(list(0, 1, 0), 1, 2)
	s.Acts[0].Casts = casts(1, 2)
	checkBest(t, s, list(0, 1), 0)
	checkAbsences(t, s, dark(), excepted(1), ordered(0, 1))
	s.Acts = append(s.Acts, programme.Act{Minutes: 1, Casts: casts(4), Spare: true})
	checkAbsences(t, s, ordered(0, 2, 1), excepted(1), ordered(0, 1))
	// A show that has no programme has one without a person who never rests.
	s = played(list(2, 0), 1, 1, 2)
	s.Acts[1].Spare, s.Acts[1].Casts = true, casts(1, 2)
	checkNone(t, s)
	s.Acts[0].Casts = casts(1, 0)
	checkAbsences(t, s, ordered(0, 1, 2), excepted(2))
	// Acts in new places: the indexes are the old ones.
	s = tense(1, 40, 30, 20, 10)
	s.Rest, s.Acts[1].Casts, s.Acts[1].Spare, s.Acts[3].Casts = list(0, 1), casts(1), true, casts(2, 0)
	checkAbsences(t, s, ordered(3, 2, 0), ordered(3, 2, 1, 0))
	checkAbsences(t, plain(1))
}

// P7.5, P7.6 and P4, by the definition.
func TestAbsencesOfAll(t *testing.T) {
	d := newDice(79)
	found, dim, exceptions, none := 0, 0, 0, 0
	for range 1500 {
		s := d.show(d.from(1, 5))
		l, e := programme.Absences(s)
		if e != api.OK || len(l) != len(s.Rest) {
			t.Fatal(s, l, e)
		}
		for person, absence := range l {
			want, wantKept, exception, wantError := withoutBy(s, person)
			less, kept, x, e := programme.Without(s, person)
			if !sameShow(less, want) || !slices.Equal(kept, wantKept) || x != exception || e != wantError {
				t.Error(s, person, less, kept, x, e)
			}
			if want := absenceBy(s, person); !sameAbsence(absence, want) {
				t.Error(s, person, absence, want)
			}
			switch {
			case e == api.ErrNone:
				none++
			case e == api.ErrFail:
				exceptions++
			case absence.Dark:
				dim++
			default:
				found++
			}
		}
	}
	if found < 500 || dim < 500 || exceptions < 200 || none < 20 {
		t.Error("too few:", found, dim, exceptions, none)
	}
}

// P7.10 and P4: whoever is missing, the programme keeps all rules with casts that do not have the person, or an act has no such cast.
func TestWhoeverIsMissing(t *testing.T) {
	d := newDice(80)
	for range 1500 {
		s := d.show(d.from(1, 5))
		l, _ := programme.Absences(s)
		for person, absence := range l {
			canPlay := func(act int) bool {
				return slices.ContainsFunc(s.Acts[act].Casts, func(cast uint16) bool { return !isIn(person, cast) })
			}
			for act := range s.Acts {
				if stuck := !canPlay(act) && !s.Acts[act].Spare; stuck && (absence.Exception < 0 || absence.Exception > act) {
					t.Error(s, person, absence, act)
				}
				if len(absence.Order) > 0 && canPlay(act) != slices.Contains(absence.Order, act) {
					t.Error("not all acts:", s, person, absence, act)
				}
			}
			if x := absence.Exception; x >= 0 && (canPlay(x) || s.Acts[x].Spare || len(absence.Order) > 0 || absence.Dark) {
				t.Error("no exception:", s, person, absence)
			}
			if absence.Dark == (len(absence.Order) > 0 || absence.Exception >= 0) {
				t.Error("dark:", s, person, absence)
			}
			less, kept, _, _ := withoutBy(s, person)
			var order []int
			for _, act := range absence.Order {
				order = append(order, slices.Index(kept, act))
			}
			if len(order) > 0 && !keepsAll(less, order) {
				t.Error("rules:", s, person, absence)
			}
			for i := range less.Acts {
				if isIn(person, less.Acts[i].Casts[0]) {
					t.Error("the person plays:", s, person, less)
				}
			}
		}
	}
}
