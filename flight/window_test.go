package flight_test

import (
	"slices"
	"testing"

	"bigtop/api"
	"bigtop/flight"
)

func windows(t *testing.T, f flight.Flight, from, to int) []flight.Window {
	t.Helper()
	l, e := flight.Windows(f, from, to)
	if e != api.OK {
		t.Fatal("Windows:", f, from, to, e)
	}
	return l
}

// P4.4: windows at the ends of the ticks, single ticks, and two of the same width.
func TestWindows(t *testing.T) {
	for _, x := range []struct {
		text     string
		from, to int
		want     []flight.Window
		widest   flight.Window
	}{
		{"x", 0, 50, []flight.Window{win(0, 50)}, win(0, 50)},
		{"x", 0, api.MaxTick, []flight.Window{win(0, api.MaxTick)}, win(0, api.MaxTick)},
		{"x", 7, 7, []flight.Window{win(7, 7)}, win(7, 7)},
		{"x", 0, 0, []flight.Window{win(0, 0)}, win(0, 0)},
		{"x", api.MaxTick, api.MaxTick, []flight.Window{win(api.MaxTick, api.MaxTick)}, win(api.MaxTick, api.MaxTick)},
		{".", 0, api.MaxTick, nil, flight.Window{}},
		{".x", 2, 2, nil, flight.Window{}},
		{".x", 2, 3, []flight.Window{win(3, 3)}, win(3, 3)},
		{".x", 3, 4, []flight.Window{win(3, 3)}, win(3, 3)},
		{".xx.xxx..x", 0, 9, []flight.Window{win(1, 2), win(4, 6), win(9, 9)}, win(4, 6)},
		{".xx.xxx..x", 2, 5, []flight.Window{win(2, 2), win(4, 5)}, win(4, 5)},
		{".xx.xxx..x", 1, 4, []flight.Window{win(1, 2), win(4, 4)}, win(1, 2)},
		{".xx.xxx..x", 6, 15, []flight.Window{win(6, 6), win(9, 9), win(11, 12), win(14, 15)}, win(11, 12)},
		{"xx.", 0, 7, []flight.Window{win(0, 1), win(3, 4), win(6, 7)}, win(0, 1)},
		{"xx.", 1, 7, []flight.Window{win(1, 1), win(3, 4), win(6, 7)}, win(3, 4)},
		{"xx..xx", 0, 11, []flight.Window{win(0, 1), win(4, 7), win(10, 11)}, win(4, 7)},
		{"...x", api.MaxTick - 5, api.MaxTick, []flight.Window{win(api.MaxTick-5, api.MaxTick-5), win(api.MaxTick-1, api.MaxTick-1)}, win(api.MaxTick-5, api.MaxTick-5)},
	} {
		f := beat(x.text)
		if l := windows(t, f, x.from, x.to); !slices.Equal(l, x.want) {
			t.Error("Windows:", x, l)
		}
		want := api.OK
		if x.want == nil {
			want = api.ErrNone
		}
		if w, e := flight.Widest(f, x.from, x.to); w != x.widest || e != want {
			t.Error("Widest:", x, w, e)
		}
	}
}

// P4.4: the chapter's example, and one with hands that go away.
func TestWindowsOfLeaps(t *testing.T) {
	if w, e := flight.Widest(leap(), 0, 50); w != win(0, 50) || e != api.OK {
		t.Error("Widest:", w, e)
	}
	f := leap()
	near, far := f.Catcher.Cycle[0], spot(-90000, 0)
	f.Catcher.Cycle = append(slices.Repeat([]flight.Box{far}, 7), near, near, near)
	// Hands are there at 7, 8, 9 of 10; 38, 39 or 40 ticks before that is from 7 to 1 of 10.
	if l := windows(t, f, 0, 25); !slices.Equal(l, []flight.Window{win(0, 1), win(7, 11), win(17, 21)}) {
		t.Error("Windows:", l)
	}
}

// P4.4 and P4.8: windows by their definition, each of them proved by the first catches.
func TestWindowsByDefinition(t *testing.T) {
	d := newDice(11)
	found := 0
	for range 300 {
		f := d.flight()
		from := d.from(0, 20)
		to := from + d.from(0, 30)
		var want []flight.Window
		for r := from; r <= to; r++ {
			if !isGood(f, r) {
				continue
			}
			if r == from || !isGood(f, r-1) {
				want = append(want, win(r, r))
			}
			want[len(want)-1].Last = r
		}
		found += len(want)
		l := windows(t, f, from, to)
		if !slices.Equal(l, want) {
			t.Error("Windows:", f, from, to, l, want)
		}
		for _, w := range l {
			var first, last []int
			for r := w.First; r <= w.Last; r++ {
				sure := catches(t, f, r)
				first, last = append(first, sure[0]), append(last, sure[len(sure)-1])
			}
			if !flight.ProveWindow(f, w, first) || !flight.ProveWindow(f, w, last) {
				t.Error("not proved:", f, w, first, last)
			}
		}
		checkWidest(t, f, from, to, l)
	}
	if found < 300 {
		t.Error("hardly any windows:", found)
	}
}

func checkWidest(t *testing.T, f flight.Flight, from, to int, l []flight.Window) {
	t.Helper()
	best, want := flight.Window{Last: -1}, api.ErrNone
	for _, w := range l {
		if w.Last-w.First > best.Last-best.First {
			best, want = w, api.OK
		}
	}
	if want != api.OK {
		best = flight.Window{}
	}
	if w, e := flight.Widest(f, from, to); w != best || e != want {
		t.Error("Widest:", f, from, to, w, e)
	}
}

// P4.4: what ProveWindow accepts, and what it refuses.
func TestProveWindow(t *testing.T) {
	wrong := leap()
	wrong.Least = 51
	weak := leap()
	weak.Catcher.Bears = 23879
	three := []int{38, 40, 41}
	whole := make([]int, api.MaxTick+1)
	for i := range whole {
		whole[i] = i
	}
	for _, x := range []struct {
		name    string
		f       flight.Flight
		w       flight.Window
		catches []int
		want    bool
	}{
		{"first and other catches", leap(), win(0, 2), three, true},
		{"catches that fall", leap(), win(0, 1), []int{40, 39}, true},
		{"a single release", leap(), win(9, 9), []int{48}, true},
		{"the last release", leap(), win(api.MaxTick, api.MaxTick), []int{api.MaxTick + 40}, true},
		{"all releases", drop(), win(0, api.MaxTick), whole, true},
		{"a catch too early", leap(), win(0, 2), []int{38, 38, 41}, false},
		{"a catch too late", leap(), win(0, 2), []int{38, 42, 41}, false},
		{"the last catch too late", leap(), win(0, 2), []int{38, 40, 43}, false},
		{"the first catch too early", leap(), win(0, 2), []int{37, 40, 41}, false},
		{"a catch too few", leap(), win(0, 2), three[:2], false},
		{"no catches", leap(), win(0, 2), nil, false},
		{"a catch too many", leap(), win(0, 1), three, false},
		{"in another order", leap(), win(0, 2), []int{41, 40, 38}, false},
		{"too weak", weak, win(0, 2), three, false},
		{"hands that are not there", beat("x."), win(0, 1), []int{0, 1}, false},
		{"a flight that is not valid", wrong, win(0, 2), three, false},
		{"a flight that is not valid, and nothing else", flight.Flight{}, win(0, 0), []int{0}, false},
		{"First above Last", leap(), win(2, 1), nil, false},
		{"First above Last by far", leap(), win(5, 2), nil, false},
		{"First above Last, with catches", leap(), win(2, 1), []int{40}, false},
		{"First below 0", leap(), win(-1, 1), []int{38, 39, 40}, false},
		{"Last too late", drop(), win(api.MaxTick, api.MaxTick+1), []int{api.MaxTick, api.MaxTick + 1}, false},
		{"both too late", drop(), win(api.MaxTick+1, api.MaxTick+1), []int{api.MaxTick + 1}, false},
		{"both too early", drop(), win(-1, -1), []int{-1}, false},
		{"the widest of all", drop(), win(lowest, highest), []int{0}, false},
		{"a catch that is as late as can be", leap(), win(0, 0), []int{highest}, false},
		{"a catch that is as early as can be", leap(), win(5, 5), []int{lowest}, false},
	} {
		if is := flight.ProveWindow(x.f, x.w, x.catches); is != x.want {
			t.Error(x.name, is)
		}
	}
}

// P4.8: of any catches those alone are accepted that are all sure.
func TestProvedWindowsAreGood(t *testing.T) {
	d := newDice(12)
	accepted := 0
	for range 5000 {
		f := d.flight()
		w := win(d.from(0, 20), 0)
		w.Last = w.First + d.from(0, 2)
		var l []int
		want := true
		for r := w.First; r <= w.Last; r++ {
			n := r + d.from(f.Least-1, f.Most+1)
			if sure := sureTicks(f, r); len(sure) > 0 && d.Intn(8) > 0 {
				n = sure[d.Intn(len(sure))]
			}
			l = append(l, n)
			want = want && isSure(f, r, n)
		}
		if is := flight.ProveWindow(f, w, l); is != want {
			t.Error("ProveWindow:", f, w, l, is)
		}
		if want {
			accepted++
		}
	}
	if accepted < 500 || accepted > 4500 {
		t.Error("hardly anything to tell:", accepted)
	}
}

// P4.11: with a surer hand, windows grow.
func TestWindowsGrow(t *testing.T) {
	d := newDice(13)
	for range 300 {
		f := d.flight()
		surer := copied(f)
		surer.Catcher.Reach += d.from(0, 50)
		surer.Catcher.Bears += d.from(0, 50)
		surer.Flyer.Speed = d.partOf(f.Flyer.Speed)
		wider := windows(t, surer, 0, 40)
		for _, w := range windows(t, f, 0, 40) {
			if !slices.ContainsFunc(wider, func(x flight.Window) bool { return x.First <= w.First && w.Last <= x.Last }) {
				t.Error("lost:", f, surer, w, wider)
			}
		}
	}
}
