package flight_test

import (
	"math"
	"testing"

	"bigtop/api"
	"bigtop/flight"
)

func swing(t *testing.T, length, width int) flight.Range {
	t.Helper()
	r, e := flight.Swing(length, width)
	if e != api.OK {
		t.Fatal("Swing:", length, width, e)
	}
	return r
}

// P4.1: the chapter's examples, and the limits of length and width.
func TestSwings(t *testing.T) {
	for _, x := range []struct {
		length, width int
		want          flight.Range
	}{
		{10000, 0, to(634, 635)}, {10000, 20, to(634, 648)}, {1, 0, to(6, 7)}, {1, 100, to(6, 8)},
		{api.MaxLength, 0, to(897, 898)}, {api.MaxLength, 1, to(897, 899)}, {api.MaxLength, api.MaxWide, to(897, 988)},
		// 440 times 1.025 is 451: there is nothing to round.
		{4805, 0, to(439, 440)}, {4805, 25, to(439, 451)}, {4805, 26, to(439, 452)},
	} {
		if r := swing(t, x.length, x.width); r != x.want {
			t.Error("Swing:", x, r)
		}
	}
}

// P4.1, by its definition for all lengths.
func TestSwingByDefinition(t *testing.T) {
	for length := 1; length <= api.MaxLength; length++ {
		r := swing(t, length, 0)
		if least := r.Lo * r.Lo * 980000000; least > 39478417600*length || (r.Lo+1)*(r.Lo+1)*980000000 <= 39478417600*length {
			t.Error("Lo:", length, r)
		}
		if most := r.Hi * r.Hi * 980000000; most < 39478418000*length || (r.Hi-1)*(r.Hi-1)*980000000 >= 39478418000*length {
			t.Error("Hi:", length, r)
		}
		if time := 2 * math.Pi * math.Sqrt(float64(length)/0.98); time < float64(r.Lo) || time > float64(r.Hi) {
			t.Error("not in its swing:", length, r, time)
		}
		width := length % (api.MaxWide + 1)
		if w, all := swing(t, length, width), r.Hi*(1000+width); w.Lo != r.Lo || w.Hi*1000 < all || (w.Hi-1)*1000 >= all {
			t.Error("with a width:", length, width, w, r)
		}
	}
}

// P4.1
func TestSwingErrors(t *testing.T) {
	for _, x := range [][2]int{
		{0, 0}, {-1, 0}, {api.MaxLength + 1, 0}, {1, -1}, {1, api.MaxWide + 1},
		{lowest, 0}, {highest, 0}, {1, lowest}, {1, highest}, {0, -1},
	} {
		if r, e := flight.Swing(x[0], x[1]); r != (flight.Range{}) || e != api.ErrRange {
			t.Error("Swing:", x, r, e)
		}
	}
}

// P4.13
func TestLongerIsNotFaster(t *testing.T) {
	for _, width := range []int{0, 1, 50, api.MaxWide} {
		before := swing(t, 1, width)
		for length := 1; length <= api.MaxLength; length++ {
			r := swing(t, length, width)
			if r.Lo < before.Lo || r.Hi < before.Hi {
				t.Error("faster:", length, width, r, before)
			}
			if width == 0 && (r.Hi <= r.Lo || r.Hi > r.Lo+2) {
				t.Error("not known well enough:", length, r)
			}
			before = r
		}
	}
}
