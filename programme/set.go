package programme

import (
	"iter"
	"math/bits"
)

// set is some of the acts, persons or kinds of a show: it has the bit i if i is in it.
type set uint16

// below is the set of all numbers from 0 to n - 1; if n is 16, the bit n is lost, and all bits are set.
func below(n int) set { return 1<<n - 1 }

func (s set) has(i int) bool { return s>>i&1 == 1 }

func (s set) with(i int) set { return s | 1<<i }

func (s set) isIn(all set) bool { return s&^all == 0 }

// members are what is in the set, rising.
func (s set) members() iter.Seq[int] {
	return func(yield func(int) bool) {
		for left := s; left != 0; left &= left - 1 {
			if !yield(bits.TrailingZeros16(uint16(left))) {
				return
			}
		}
	}
}
