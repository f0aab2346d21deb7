package flight

import (
	"iter"

	"bigtop/api"
)

// moment is a box in which a flyer is so many ticks after letting go.
type moment struct {
	Box
	ticks int
}

// followed is a flight with what does not depend on its release: the moments
// at which the catcher bears the flyer, and for each box of the cycle the one
// of all points that are near from anywhere in it.
type followed struct {
	Flight
	borne []moment
	near  []Box
}

func follow(f Flight) *followed {
	x := &followed{Flight: f}
	for t := range f.bearable() {
		x.borne = append(x.borne, moment{f.Flyer.after(t), t})
	}
	for _, b := range f.Catcher.Cycle {
		x.near = append(x.near, Box{b.X.near(f.Catcher.Reach), b.Z.near(f.Catcher.Reach)})
	}
	return x
}

// bearable yields the ticks after letting go at which the flyer may be caught, and is not too much for the catcher.
func (f Flight) bearable() iter.Seq[int] {
	return func(yield func(int) bool) {
		for t := f.Least; t <= f.Most; t++ {
			if f.load(t) <= f.Catcher.Bears && !yield(t) {
				return
			}
		}
	}
}

// sure yields the ticks at which a catch is sure, rising.
func (x *followed) sure(release int) iter.Seq[int] {
	return func(yield func(int) bool) {
		for _, m := range x.borne {
			n := release + m.ticks
			if x.near[n%len(x.near)].has(m.Box) && !yield(n) {
				return
			}
		}
	}
}

func (x *followed) good(release int) bool {
	for range x.sure(release) {
		return true
	}
	return false
}

func (x *followed) caught(release, tick int) bool {
	for n := range x.sure(release) {
		if n == tick {
			return true
		}
	}
	return false
}

func (x *followed) windows(from, to int) []Window {
	var l []Window
	add := func(release int) {
		if n := len(l); n > 0 && l[n-1].Last == release-1 {
			l[n-1].Last = release
		} else {
			l = append(l, Window{release, release})
		}
	}
	for r := from; r <= to; r++ {
		if x.good(r) {
			add(r)
		}
	}
	return l
}

func (w Window) ticks() int { return w.Last - w.First + 1 }

func (x *followed) proved(w Window, catches []int) bool {
	for i, n := range catches {
		if !x.caught(w.First+i, n) {
			return false
		}
	}
	return true
}

// chain looks at each release of a flight once: no window goes over one that is not good.
func chain(act []Flight, need, rest int) (windows []Window, at int, e api.Errno) {
	begin := 0
flights:
	for i, f := range act {
		x, first := follow(f), begin
		for r := begin; r <= api.MaxTick; r++ {
			if !x.good(r) {
				first = r + 1
			} else if r-first+1 == need {
				windows = append(windows, Window{first, r})
				begin = r + x.Most + rest
				continue flights
			}
		}
		return nil, i, api.ErrNone
	}
	return windows, 0, api.OK
}
