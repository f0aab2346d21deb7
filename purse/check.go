package purse

import "bigtop/api"

// whole is how many thousandths make all of something.
const whole = 1000

func within(n, lo, hi int) bool { return lo <= n && n <= hi }

func every[T any](l []T, valid func(T) bool) bool {
	for _, x := range l {
		if !valid(x) {
			return false
		}
	}
	return true
}

// each is what becomes of the elements, one after the other.
func each[T, U any](l []T, become func(T) U) []U {
	out := make([]U, 0, len(l))
	for _, x := range l {
		out = append(out, become(x))
	}
	return out
}

func sum(l ...int) int {
	sum := 0
	for _, n := range l {
		sum += n
	}
	return sum
}

func isAmount(n int) bool { return within(n, 0, api.MaxMoney) }

func isSeal(n int) bool { return within(n, 1, api.MaxSeal) }

func isPart(n int) bool { return within(n, 0, whole) }

func isRate(n int) bool { return within(n, 1, api.MaxRate) }

func isKind(n uint8) bool { return Float <= n && n <= Wage }
