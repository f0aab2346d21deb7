package canvas

func sum(l ...Vector) Vector {
	var s Vector
	for _, v := range l {
		s.X += v.X
		s.Y += v.Y
	}
	return s
}

func (v Vector) times(n int) Vector { return Vector{n * v.X, n * v.Y} }

func (v Vector) dot(w Vector) int { return v.X*w.X + v.Y*w.Y }

// cross is 0 for vectors along the same line.
func (v Vector) cross(w Vector) int { return v.X*w.Y - v.Y*w.X }

func (v Vector) inside(limit int) bool {
	return within(v.X, -limit, limit) && within(v.Y, -limit, limit)
}

func (v Vector) turned() Vector { return Vector{-v.Y, v.X} }

// help is what a force has against the direction.
func (v Vector) help(force Vector) int { return max(0, -v.dot(force)) }
