package flight

import "bigtop/api"

func within(n, lo, hi int) bool { return lo <= n && n <= hi }

func every[T any](l []T, so func(T) bool) bool {
	for _, x := range l {
		if !so(x) {
			return false
		}
	}
	return true
}

func isAir(ticks int) bool { return within(ticks, 0, api.MaxAir) }

func isTick(n int) bool { return within(n, 0, api.MaxTick) }

func (r Range) inside(limit int) bool { return -limit <= r.Lo && r.Lo <= r.Hi && r.Hi <= limit }

func (b Box) inside(limit int) bool { return b.X.inside(limit) && b.Z.inside(limit) }

func (b Box) inTent() bool { return b.inside(api.MaxSpan) }

func (f Flyer) valid() bool {
	return f.At.inTent() && f.Speed.inside(api.MaxSpeed) && within(f.Mass, 1, api.MaxWeight)
}

func (c Catcher) valid() bool {
	return within(len(c.Cycle), 1, api.MaxCycle) && every(c.Cycle, Box.inTent) &&
		within(c.Reach, 0, api.MaxSpan) && within(c.Soft, 1, api.MaxSoft) && within(c.Bears, 0, api.MaxBears)
}

func (f Flight) valid() bool {
	return f.Flyer.valid() && f.Catcher.valid() && isAir(f.Least) && isAir(f.Most) && f.Least <= f.Most
}

func (n Net) valid() bool {
	return n.X.inside(api.MaxSpan) && within(n.Height, -api.MaxSpan, api.MaxSpan)
}

func (w Window) valid() bool { return isTick(w.First) && isTick(w.Last) && w.First <= w.Last }
