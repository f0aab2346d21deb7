package flight

type point struct{ x, z int }

func (r Range) plus(o Range) Range { return Range{r.Lo + o.Lo, r.Hi + o.Hi} }

// times expects a number that is not below 0: others would turn the ends round.
func (r Range) times(n int) Range { return Range{n * r.Lo, n * r.Hi} }

func (r Range) join(o Range) Range { return Range{min(r.Lo, o.Lo), max(r.Hi, o.Hi)} }

func (r Range) has(o Range) bool { return r.join(o) == r }

// near may have its Lo above its Hi, where no number is within the reach of all of r.
func (r Range) near(reach int) Range { return Range{r.Hi - reach, r.Lo + reach} }

func both(do func(a, b Range) Range, a, b Box) Box { return Box{do(a.X, b.X), do(a.Z, b.Z)} }

// has is true of no box if one of the ranges of b has nothing.
func (b Box) has(o Box) bool { return both(Range.join, b, o) == b }

func (b Box) corners() [4]point {
	return [4]point{{b.X.Lo, b.Z.Lo}, {b.X.Lo, b.Z.Hi}, {b.X.Hi, b.Z.Lo}, {b.X.Hi, b.Z.Hi}}
}

// greatest looks at sizes alone: signs do not count.
func greatest(numbers ...int) int {
	top := 0
	for _, n := range numbers {
		top = max(top, n, -n)
	}
	return top
}

// upwards divides what is not below 0.
func upwards(n, by int) int { return (n + by - 1) / by }
