package sample_test

import (
	"math"
	"math/rand/v2"
	"slices"

	"flurry/api"
)

const most = api.MaxStake

// pick draws by the chapter's words alone: all units that there are stand in a list, rising, and those that are drawn go from it.
func pick(total int64, k int, draws []uint64) []int64 {
	var there, units []int64
	for unit := range total {
		there = append(there, unit)
	}
	for j := range k {
		draw := uint64(0)
		if j < len(draws) {
			draw = draws[j]
		}
		at := int(draw % uint64(len(there)))
		units = append(units, there[at])
		there = slices.Delete(there, at, at+1)
	}
	return units
}

// drawsFor are the draws by which units come, in their order: of each how many below it are not drawn yet.
func drawsFor(units []int64) []uint64 {
	draws := make([]uint64, len(units))
	for j, unit := range units {
		draws[j] = uint64(unit)
		for _, ahead := range units[:j] {
			if ahead < unit {
				draws[j]--
			}
		}
	}
	return draws
}

// someDraws are n draws of all lengths.
func someDraws(r *rand.Rand, n int) []uint64 {
	draws := make([]uint64, n)
	for j := range draws {
		draws[j] = r.Uint64() >> r.IntN(64)
	}
	return draws
}

// unlike are k units below a total, each once, in any order: many of them side by side, or at the ends.
func unlike(r *rand.Rand, total int64, k int) []int64 {
	var units []int64
	for len(units) < k {
		unit := r.Int64N(total)
		switch r.IntN(4) {
		case 0:
			unit = min(unit%int64(2*k), total-1)
		case 1:
			unit = max(total-1-unit%int64(2*k), 0)
		}
		if !slices.Contains(units, unit) {
			units = append(units, unit)
		}
	}
	return units
}

// each goes through all lists of n numbers below a bound.
func each(n int, bound uint64, do func([]uint64)) {
	l := make([]uint64, n)
	for {
		do(slices.Clone(l))
		at := 0
		for at < n && l[at] == bound-1 {
			l[at] = 0
			at++
		}
		if at == n {
			return
		}
		l[at]++
	}
}

// owners names the owner of each unit, one by one.
func owners(weights []int64) []int {
	var l []int
	for who, weight := range weights {
		for range weight {
			l = append(l, who)
		}
	}
	return l
}

// alike are n weights that are all the same.
func alike(n int, weight int64) []int64 { return slices.Repeat([]int64{weight}, n) }

// fewUnits are weights that may be, of so few units that all of them can be written out.
func fewUnits() [][]int64 {
	l := [][]int64{{1}, {2}, {2, 3}, {3, 2}, {2, 3, 1}, {1, 1, 1}, {64}, {1, 100, 1}, {5, 4, 3, 2, 1}, alike(32, 1), alike(32, 7), alike(31, 2)}
	r := rand.New(rand.NewPCG(6, 1))
	for i := range 60 {
		weights := make([]int64, 1+i%api.MaxVdrs)
		for who := range weights {
			weights[who] = 1 + r.Int64N(9)
		}
		l = append(l, weights)
	}
	return l
}

// manyUnits are weights that may be, up to the most stake that there may be.
func manyUnits() [][]int64 {
	full := alike(api.MaxVdrs, most/api.MaxVdrs)
	full[17] += most % api.MaxVdrs
	return [][]int64{
		{most}, {most - 1}, {most - 1, 1}, {1, most - 1}, {1, most - 2, 1}, {most / 2, most/2 + 1}, {1 << 61, 1<<61 - 1}, {1 << 32, 1, 1<<32 - 1},
		full, alike(api.MaxVdrs, most/api.MaxVdrs), alike(32, 1<<32), alike(3, most/3),
	}
}

// badWeights are weights that may not be.
func badWeights() [][]int64 {
	late := alike(api.MaxVdrs, 3)
	late[31] = 0
	return [][]int64{
		nil, {}, {0}, {-1}, {math.MinInt64}, {math.MaxInt64}, {most + 1}, {0, 1}, {1, 0}, {5, -1, 5}, {5, math.MinInt64, 5}, {most, 1}, {1, most}, {most, most},
		{math.MaxInt64, math.MaxInt64}, {math.MaxInt64, 1}, {-5, 10}, {10, -5},
		alike(33, 1), alike(1000, 1), alike(33, 0), alike(32, 0), late,
		alike(4, most+1),  // together 2^64: 0, if they wrapped round
		alike(8, 1<<61+1), // and 8
		alike(32, most/32+1),
	}
}

// badMany are numbers of units that no sample has.
var badMany = []int{-1, -2, 65, 66, 128, 1 << 32, 1<<32 + 1, math.MaxInt, math.MinInt, math.MinInt + 1}
