package programme

import (
	"slices"

	"bigtop/api"
)

// without needs no other rule for an act that the person does not play: its first cast stays the first one.
func (s Show) without(person int) (less Show, kept []int, exception int, e api.Errno) {
	less = Show{Rest: slices.Clone(s.Rest), In: slices.Clone(s.In), Out: slices.Clone(s.Out), Cover: s.Cover, Dull: s.Dull}
	for i, act := range s.Acts {
		act.Casts = act.castsWithout(person)
		if len(act.Casts) > 0 {
			less.Acts, kept = append(less.Acts, act), append(kept, i)
		} else if !act.Spare {
			return Show{}, nil, i, api.ErrFail
		}
	}
	if len(kept) == 0 {
		return Show{}, nil, 0, api.ErrNone
	}
	less.Before = pairsAmong(kept, s.Before)
	return less, kept, 0, api.OK
}

func (a Act) castsWithout(person int) (casts []uint16) {
	for _, cast := range a.Casts {
		if !set(cast).has(person) {
			casts = append(casts, cast)
		}
	}
	return casts
}

// pairsAmong are the pairs of acts that are kept, by their new indexes.
func pairsAmong(kept []int, before [][2]int) (pairs [][2]int) {
	for _, p := range before {
		p = [2]int{slices.Index(kept, p[0]), slices.Index(kept, p[1])}
		if !slices.Contains(p[:], -1) {
			pairs = append(pairs, p)
		}
	}
	return pairs
}

func (s Show) absence(person int) Absence {
	less, kept, exception, e := s.without(person)
	switch e {
	case api.ErrFail:
		return Absence{Exception: exception}
	case api.ErrNone:
		return Absence{Exception: -1, Dark: true}
	}
	order, _, found := less.best(map[state]int{})
	for place, act := range order {
		order[place] = kept[act]
	}
	return Absence{Order: order, Exception: -1, Dark: !found}
}
