package flight

import "bigtop/api"

// fall is that of one tick; one of t ticks is t times t as deep.
const fall = 49

func upright(z int) Box { return Box{Z: Range{z, z}} }

func (f Flyer) after(ticks int) Box {
	way := Box{X: f.Speed.X.times(ticks), Z: f.Speed.Z.times(ticks)}
	flown := both(Range.plus, f.At, way)
	return both(Range.plus, flown, upright(-fall*ticks*ticks))
}

func (f Flyer) speedAfter(ticks int) Box {
	return both(Range.plus, f.Speed, upright(-2*fall*ticks))
}

// load looks at corners alone: no other speed is greater than all of theirs.
func (f Flight) load(ticks int) int {
	top := 0
	for _, c := range f.Flyer.speedAfter(ticks).corners() {
		top = greatest(top, c.x, c.z)
	}
	return f.Flyer.Mass * (2*fall + upwards(top, f.Catcher.Soft))
}

func (f Flyer) first(so func(Box) bool) (ticks int, found bool) {
	for t := range api.MaxAir + 1 {
		if so(f.after(t)) {
			return t, true
		}
	}
	return 0, false
}

// landing asks for the lowest flyer's ticks first: they are there whenever those of the highest one are.
func (f Flyer) landing(n Net) (ticks Range, comes bool) {
	some, _ := f.first(func(b Box) bool { return b.Z.Lo <= n.Height })
	all, comes := f.first(func(b Box) bool { return b.Z.Hi <= n.Height })
	if !comes {
		return Range{}, false
	}
	return Range{some, all}, true
}

func (n Net) takes(f Flyer) bool {
	ticks, comes := f.landing(n)
	for t := ticks.Lo; t <= ticks.Hi; t++ {
		comes = comes && n.X.has(f.after(t).X)
	}
	return comes
}
