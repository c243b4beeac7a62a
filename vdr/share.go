package vdr

import "math/bits"

// AtLeast tells whether a sum is a share, Need the least one that is.
func AtLeast(sum, total, num, den int64) bool {
	if sum < 0 || total < 0 || num < 0 || den <= 0 {
		return false
	}
	high, low := bits.Mul64(uint64(sum), uint64(den))
	leastHigh, leastLow := bits.Mul64(uint64(total), uint64(num))
	return high > leastHigh || high == leastHigh && low >= leastLow
}

func Need(total, num, den int64) int64 {
	if total < 0 || num < 0 || den < 1 || num > den {
		return -1
	}
	high, low := bits.Mul64(uint64(total), uint64(num))
	need, rest := bits.Div64(high, low, uint64(den)) // no more than total, as num is at most den
	if rest > 0 {
		need++
	}
	return int64(need)
}
