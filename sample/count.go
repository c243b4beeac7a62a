package sample

import (
	"iter"
	"slices"

	"flurry/api"
)

// Count is how many slots each has, All goes through those that have any, Rest is the draws that are left.
func Count(many int, slots []int) ([]int, api.Errno) {
	if many < 0 || many > api.MaxVdrs {
		return nil, api.ErrArg
	}
	counts := make([]int, many)
	for _, who := range slots {
		if who < 0 || who >= many {
			return nil, api.ErrArg
		}
		counts[who]++
	}
	return counts, api.OK
}

func All(many int, slots []int) iter.Seq2[int, int] {
	counts, _ := Count(many, slots) // now, as slots may be written to ahead of the range; none beside an error
	return func(yield func(int, int) bool) {
		for who, n := range slices.All(counts) {
			if n > 0 && !yield(who, n) {
				return
			}
		}
	}
}

func Rest(k int, draws ...uint64) []uint64 {
	behind := min(max(k, 0), len(draws))
	return slices.Clone(draws[behind:])
}
