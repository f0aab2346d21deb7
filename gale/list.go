package gale

func within(n, lo, hi int) bool { return lo <= n && n <= hi }

// indexes are those of all elements that are so, rising.
func indexes[T any](l []T, so func(T) bool) []int {
	var found []int
	for i, x := range l {
		if so(x) {
			found = append(found, i)
		}
	}
	return found
}

func every[T any](l []T, so func(T) bool) bool { return len(indexes(l, so)) == len(l) }

func ordered[T any](l []T, fit func(a, b T) bool) bool {
	for i := 1; i < len(l); i++ {
		if !fit(l[i-1], l[i]) {
			return false
		}
	}
	return true
}

func least(n int, more ...int) int {
	for _, m := range more {
		n = min(n, m)
	}
	return n
}
