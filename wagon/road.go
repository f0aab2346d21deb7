package wagon

import "bigtop/api"

// standing is things in lanes, each with the Longs ahead of it.
type standing struct {
	things []Thing
	ahead  [api.MaxThings]int
}

func stand(things []Thing, packing [][]int) standing {
	s := standing{things: things}
	for _, lane := range packing {
		ahead := 0
		for _, i := range lane {
			s.ahead[i] = ahead
			ahead += things[i].Long
		}
	}
	return s
}

func (s standing) middle(thing int) int { return 2*s.ahead[thing] + s.things[thing].Long }

func moment(things []Thing, middle func(thing int) int) (n int) {
	for i, t := range things {
		n += t.Mass * middle(i)
	}
	return n
}

func (l Lorry) axles(things []Thing, packing [][]int) (front, rear int) {
	rear = up(moment(things, stand(things, packing).middle), l.Rear) + up(l.Empty, 2)
	return masses(things) + l.Empty - rear, rear
}

// up divides a number that is not below 0, rounded up.
func up(n, by int) int { return (n + by - 1) / by }

func (l Lorry) stops(things []Thing, road []Bridge) (out []int) {
	mass, high := l.Empty+masses(things), l.Deck+highest(things)
	for i, b := range road {
		if mass > b.Limit || high > b.Clear {
			out = append(out, i)
		}
	}
	return out
}

// highest is 0 if there are no things: the deck is then all that has to go under a bridge.
func highest(things []Thing) (high int) {
	for _, t := range things {
		high = max(high, t.High)
	}
	return high
}

// takes adds breaks and rests only where more is to be driven.
func (r Rules) takes(hours int) int {
	if hours == 0 {
		return 0
	}
	shifts := (hours - 1) / r.Drive
	last := hours - shifts*r.Drive
	return hours + shifts*(r.breaks(r.Drive)+r.Rest) + r.breaks(last)
}

// breaks are the hours of all breaks of a shift of so many hours of driving.
func (r Rules) breaks(hours int) int { return (hours - 1) / r.Stint * r.Break }
