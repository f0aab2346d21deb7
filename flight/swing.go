package flight

// Four times the square of pi, from both sides, and gravity.
const (
	below   = 39478417600
	above   = 39478418000
	gravity = 980000000
)

func swing(length, width int) Range {
	lo, hi := 0, 0
	for (lo+1)*(lo+1)*gravity <= below*length {
		lo++
	}
	for hi*hi*gravity < above*length {
		hi++
	}
	return Range{lo, upwards(hi*(1000+width), 1000)}
}
