package canvas_test

import (
	"slices"
	"testing"

	"bigtop/api"
	"bigtop/canvas"
)

// P1.1
func TestCheckTentNumbers(t *testing.T) {
	for _, x := range []struct {
		name   string
		set    func(*canvas.Head, int)
		lo, hi int
	}{
		{"area", func(h *canvas.Head, n int) { h.Area = n }, 0, api.MaxArea},
		{"bears", func(h *canvas.Head, n int) { h.Bears = n }, 0, api.MaxHold},
		{"pull x", func(h *canvas.Head, n int) { h.Guys[1].X = n }, -api.MaxPull, api.MaxPull},
		{"pull y", func(h *canvas.Head, n int) { h.Guys[1].Y = n }, -api.MaxPull, api.MaxPull},
		{"down", func(h *canvas.Head, n int) { h.Guys[1].Down = n }, 0, api.MaxPull},
		{"soil", func(h *canvas.Head, n int) { h.Guys[1].Soil = n }, 0, api.MaxSoils - 1},
		{"depth", func(h *canvas.Head, n int) { h.Guys[1].Depth = n }, 1, api.MaxDepth},
	} {
		for _, n := range []int{x.lo, x.hi, x.lo - 1, x.hi + 1, least, most} {
			want := api.ErrArg
			if n == x.lo || n == x.hi {
				want = api.OK
			}
			tent := append(cross(), head(5, at(1, 2), at(3, 4))...)
			x.set(&tent[1], n)
			if e := canvas.CheckTent(tent); e != want {
				t.Error(x.name, n, e)
			}
		}
	}
}

// P1.1
func TestCheckTentShapes(t *testing.T) {
	heads := func(n int) (tent canvas.Tent) {
		for range n {
			tent = append(tent, cross()...)
		}
		return tent
	}
	full := make([]canvas.Vector, api.MaxGuys+1)
	for i := range full {
		full[i] = at(1, 1)
	}
	for _, x := range []struct {
		name string
		tent canvas.Tent
		want api.Errno
	}{
		{"no tent", nil, api.ErrArg},
		{"no heads", canvas.Tent{}, api.ErrArg},
		{"a head without anything", canvas.Tent{{}}, api.OK},
		{"as many heads as there may be", heads(api.MaxHeads), api.OK},
		{"one head more", heads(api.MaxHeads + 1), api.ErrArg},
		{"as many guys as there may be", head(1, full[1:]...), api.OK},
		{"one guy more", head(1, full...), api.ErrArg},
		{"a pull of 0, 0", head(1, at(0, 0)), api.ErrArg},
		{"a pull of 0, 1", head(1, at(0, 1)), api.OK},
		{"a pull of 1, 0", head(1, at(1, 0)), api.OK},
		{"a bad last head", append(heads(2), canvas.Head{Area: -1}), api.ErrArg},
	} {
		if e := canvas.CheckTent(x.tent); e != x.want {
			t.Error(x.name, e)
		}
	}
}

// P1.3
func TestOverloaded(t *testing.T) {
	bears := func(n int) canvas.Head {
		h := cross()[0]
		h.Bears = n
		return h
	}
	for _, x := range []struct {
		name string
		tent canvas.Tent
		want []int
	}{
		{"the chapter's", cross(), []int{0}},
		{"just bears it", canvas.Tent{bears(2400)}, nil},
		{"one too many", canvas.Tent{bears(2399)}, []int{0}},
		{"several", canvas.Tent{bears(2399), bears(2400), bears(0), bears(api.MaxHold), bears(1)}, []int{0, 2, 4}},
		{"no guys", canvas.Tent{{}}, nil},
		{"a guy that does not press", canvas.Tent{{Guys: []canvas.Guy{{X: 1, Depth: 1}}}}, nil},
	} {
		if l, e := canvas.Overloaded(x.tent); e != api.OK || !slices.Equal(l, x.want) {
			t.Error(x.name, l, e)
		}
	}
}

// P1.4
func TestParts(t *testing.T) {
	stake := func(x, y, soil, depth int) canvas.Guy { return canvas.Guy{X: x, Y: y, Soil: soil, Depth: depth} }
	l := append(tests(), canvas.Test{Soil: 1, Depth: 1, Force: 1, Held: true}, canvas.Test{Soil: 2, Depth: 1, Force: 5000, Held: true})
	tent := append(cross(), canvas.Head{}, canvas.Head{Guys: []canvas.Guy{
		stake(300, 400, 1, 499), stake(300, 400, 1, 500), stake(300, 400, 1, 501), // 500 long
		stake(1, 1, 1, 1), stake(1, 1, 1, 2), // 2 long
		stake(2, 1, 1, 1),       // 3 long
		stake(1000, 0, 3, 3000), // not tested
		stake(-7, 0, 2, 3000),   // a Lo above MaxHold
	}}, canvas.Head{Guys: []canvas.Guy{
		stake(5000, -5000, 1, 3000), stake(5000, 5000, 1, 71), stake(-5000, 5000, 1, 70), // 7072 long
		stake(5000, -5000, 2, 1), stake(-5000, -5000, 2, 2),
		stake(3, -4, 1, 4), // 5 long
	}})
	want := [][]int{{56, 56, 56, 56}, {}, {99, 100, 100, 50, 100, 33, 0, 100}, {42, 1, 0, 70, 100, 80}}
	parts, e := canvas.Parts(l, tent)
	if e != api.OK || !slices.EqualFunc(parts, want, slices.Equal[[]int]) {
		t.Error(parts, e)
	}
}

// P1.4: the part, as the chapter says it, of pulls and stakes of any kind.
func TestPartsByDefinition(t *testing.T) {
	d := newDice(4)
	for range 500 {
		l, _, _ := d.tests()
		tent := d.tent(d.from(1, api.MaxPull))
		parts, e := canvas.Parts(l, tent)
		if e != api.OK || len(parts) != len(tent) {
			t.Fatal(l, tent, parts, e)
		}
		for i, h := range tent {
			if len(parts[i]) != len(h.Guys) {
				t.Fatal(l, tent, parts)
			}
			for k, g := range h.Guys {
				long := 0
				for long*long < g.X*g.X+g.Y*g.Y {
					long++
				}
				r, _ := canvas.Holds(l, g.Soil, g.Depth)
				if want := min(100, 100*r.Lo/long); parts[i][k] != want {
					t.Error(l, g, parts[i][k], "is not", want)
				}
			}
		}
	}
}

// Rules R3 and R4: nothing is changed, and results are new memory.
func TestMemory(t *testing.T) {
	l, tent, wind := tests(), append(cross(), cross()...), []canvas.Vector{at(100, 0), at(0, 100)}
	first, _ := canvas.Parts(l, tent)
	first[0][0] = -5
	first[0] = append(first[0], 7)
	if second, _ := canvas.Parts(l, tent); second[0][0] != 56 || second[1][0] != 56 || first[1][0] != 56 {
		t.Error("Parts:", first, second)
	}
	spares, _ := canvas.Spares(l, tent, wind)
	spares[0] = [2]int{5, 5}
	if again, _ := canvas.Spares(l, tent, wind); again[0] != [2]int{0, 0} {
		t.Error("Spares:", again)
	}
	b, _ := canvas.Balanced(l, tent, 0, at(-300, 100))
	b.Parts[0]++
	if again, _ := canvas.Balanced(l, tent, 0, at(-300, 100)); !canvas.ProveBalance(l, tent, 0, at(-300, 100), again) {
		t.Error("Balanced:", again)
	}
	canvas.Weakest(l, tent, wind)
	canvas.Reach(l, tent, 0, at(1, 2))
	if !slices.Equal(l, tests()) || !slices.Equal(wind, []canvas.Vector{at(100, 0), at(0, 100)}) || !slices.EqualFunc(tent, append(cross(), cross()...), sameHead) {
		t.Error("an argument was changed:", l, tent, wind)
	}
	if e := canvas.CheckTests([]canvas.Test{}); e != api.OK {
		t.Error("a list without elements:", e)
	}
	none := canvas.Tent{{Area: 1, Guys: []canvas.Guy{}}}
	if !canvas.ProveBalance(nil, none, 0, at(0, 0), canvas.Balance{Whole: 1}) || !canvas.ProveBalance(nil, canvas.Tent{{Area: 1}}, 0, at(0, 0), canvas.Balance{Whole: 1, Parts: []int{}}) {
		t.Error("nil and no elements are not the same")
	}
}

func sameHead(a, b canvas.Head) bool {
	return a.Area == b.Area && a.Bears == b.Bears && slices.Equal(a.Guys, b.Guys)
}
