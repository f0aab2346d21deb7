package gale

import "bigtop/api"

func isStrength(n int) bool { return within(n, 0, api.MaxStrength) }

func (r Range) valid() bool { return isStrength(r.Lo) && isStrength(r.Hi) && r.Lo <= r.Hi }

func (r Range) meets(o Range) bool { return r.Lo <= o.Hi && o.Lo <= r.Hi }

func (f Forecast) near() bool { return len(f.Hours) <= api.MaxAhead }

func (f Forecast) told() bool { return len(f.Hours) > 0 && every(f.Hours, Range.valid) }

func (f Forecast) named() bool {
	return within(len(f.Name), 1, api.MaxName) && isLetter(f.Name[0]) &&
		every([]byte(f.Name), func(c byte) bool { return isLetter(c) || '0' <= c && c <= '9' })
}

func isLetter(c byte) bool { return 'a' <= c && c <= 'z' }

func sameNames(l []Forecast) bool {
	names := map[string]bool{}
	for _, f := range l {
		names[f.Name] = true
	}
	return len(names) < len(l)
}

// checkReadings keeps the order of the table of errors: forecasts come before
// readings, and all hours before all ranges.
func checkReadings(l []Forecast, readings []Reading) api.Errno {
	if e := CheckForecasts(l); e != api.OK {
		return e
	}
	foretold := func(r Reading) bool { return within(r.Hour, 0, len(l[0].Hours)-1) }
	read := func(r Reading) bool { return r.In.valid() }
	switch {
	case len(readings) > api.MaxReadings:
		return api.ErrLimit
	case !every(readings, foretold):
		return api.ErrRange
	case !every(readings, read):
		return api.ErrArg
	}
	return api.OK
}

func (f Forecast) contradictedBy(r Reading) bool { return !f.Hours[r.Hour].meets(r.In) }

func strike(l []Forecast, readings []Reading) (left []int, strikes []Strike) {
	for i, f := range l {
		against := indexes(readings, f.contradictedBy)
		if len(against) == 0 {
			left = append(left, i)
		} else {
			strikes = append(strikes, Strike{i, against[0]})
		}
	}
	return left, strikes
}

func worst(l []Forecast, left []int) []int {
	winds := make([]int, len(l[0].Hours))
	for _, i := range left {
		for hour, r := range l[i].Hours {
			winds[hour] = max(winds[hour], r.Hi)
		}
	}
	return winds
}
