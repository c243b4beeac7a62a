package sample_test

import (
	"math"
	"math/rand/v2"
	"slices"
	"testing"

	"flurry/api"
	"flurry/sample"
)

// P6.2: each unit's owner, and none beyond them.
func TestOwner(t *testing.T) {
	for _, weights := range fewUnits() {
		was := slices.Clone(weights)
		all := owners(weights)
		for unit, want := range all {
			if who, e := sample.Owner(weights, int64(unit)); who != want || e != api.OK {
				t.Errorf("Owner(%v, %d): %d %d, not %d", weights, unit, who, e, want)
			}
		}
		mustOwnNone(t, weights, int64(len(all)))
		if !slices.Equal(weights, was) {
			t.Fatalf("%v was written to", was)
		}
	}
}

// mustOwnNone asks for units that are not there: below 0, and from the sum of weights on.
func mustOwnNone(t *testing.T, weights []int64, sum int64) {
	t.Helper()
	for _, unit := range []int64{-1, -2, math.MinInt64, sum, sum + 1, most, math.MaxInt64} {
		if who, e := sample.Owner(weights, unit); who != 0 || e != api.ErrNone {
			t.Errorf("Owner(%v, %d): %d %d", weights, unit, who, e)
		}
	}
}

// P6.2: the first and the last unit of each, up to the most stake.
func TestOwnerOfManyUnits(t *testing.T) {
	for _, weights := range manyUnits() {
		first := int64(0)
		for want, weight := range weights {
			for _, unit := range []int64{first, first + weight/2, first + weight - 1} {
				if who, e := sample.Owner(weights, unit); who != want || e != api.OK {
					t.Errorf("Owner(%v, %d): %d %d, not %d", weights, unit, who, e, want)
				}
			}
			first += weight
		}
		mustOwnNone(t, weights, first)
	}
}

// P6.2, R1, R2: weights that may not be, ahead of all else.
func TestWeightsThatMayNotBe(t *testing.T) {
	for _, weights := range badWeights() {
		for _, unit := range []int64{0, 1, -1, most, math.MaxInt64, math.MinInt64} {
			if who, e := sample.Owner(weights, unit); who != 0 || e != api.ErrArg {
				t.Errorf("Owner(%v, %d): %d %d", weights, unit, who, e)
			}
		}
		for _, k := range append([]int{0, 1, 64}, badMany...) {
			if slots, e := sample.Slots(weights, k, 1, 2); slots != nil || e != api.ErrArg {
				t.Errorf("Slots(%v, %d): %v %d", weights, k, slots, e)
			}
		}
	}
}

// P6.2: the chapter's example.
func TestSlotsOfTheExample(t *testing.T) {
	if slots, e := sample.Slots([]int64{2, 3}, 3, 4, 0, 0); e != api.OK || !slices.Equal(slots, []int{1, 0, 0}) {
		t.Errorf("%v %d", slots, e)
	}
}

// P6.2, P6.6: the slots are those of the units, one by one, and none has more than its weight.
func TestSlots(t *testing.T) {
	r := rand.New(rand.NewPCG(6, 6))
	for _, weights := range fewUnits() {
		all := owners(weights)
		for range 30 {
			k := r.IntN(min(len(all), api.MaxSample) + 1)
			draws := someDraws(r, r.IntN(k+9))
			want := make([]int, k)
			for j, unit := range pick(int64(len(all)), k, draws) {
				want[j] = all[unit]
			}
			mustSlots(t, weights, k, draws, want)
		}
	}
}

func mustSlots(t *testing.T, weights []int64, k int, draws []uint64, want []int) {
	t.Helper()
	wasWeights, wasDraws := slices.Clone(weights), slices.Clone(draws)
	slots, e := sample.Slots(weights, k, draws...)
	if e != api.OK || !slices.Equal(slots, want) {
		t.Errorf("Slots(%v, %d, %v): %v %d, not %v", weights, k, draws, slots, e, want)
	}
	if !slices.Equal(weights, wasWeights) || !slices.Equal(draws, wasDraws) {
		t.Fatalf("Slots(%v, %d, %v) has written to what it got", wasWeights, k, wasDraws)
	}
	counts, e := sample.Count(len(weights), slots)
	if e != api.OK {
		t.Fatalf("Count of %v: %d", slots, e)
	}
	for who, n := range counts {
		if int64(n) > weights[who] {
			t.Errorf("Slots(%v, %d, %v): %d has %d", weights, k, draws, who, n)
		}
	}
}

// P6.2, P6.6: with all units drawn each has as many slots as its weight.
func TestSlotsOfAllUnits(t *testing.T) {
	r := rand.New(rand.NewPCG(6, 7))
	for _, weights := range fewUnits() {
		all := owners(weights)
		if len(all) > api.MaxSample {
			continue
		}
		slots, e := sample.Slots(weights, len(all), someDraws(r, len(all))...)
		if slices.Sort(slots); e != api.OK || !slices.Equal(slots, all) {
			t.Errorf("all of %v: %v %d", weights, slots, e)
		}
	}
}

// P6.2, P6.5: up to the most stake, at the edges between owners.
func TestSlotsOfManyUnits(t *testing.T) {
	for _, weights := range manyUnits() {
		var wished []int64
		var want []int
		first := int64(0)
		for who, weight := range weights {
			wished, want = append(wished, first+weight-1), append(want, who)
			if weight > 1 {
				wished, want = append(wished, first), append(want, who)
			}
			first += weight
		}
		slices.Reverse(wished)
		slices.Reverse(want)
		mustSlots(t, weights, len(wished), drawsFor(wished), want)
	}
}

// P6.2, R2: the errors of the units that are to be drawn.
func TestSlotsThatMayNotBe(t *testing.T) {
	for _, weights := range append(fewUnits(), manyUnits()...) {
		sum := int64(0)
		for _, weight := range weights {
			sum += weight
		}
		for _, k := range badMany {
			if slots, e := sample.Slots(weights, k, 1, 2); slots != nil || e != api.ErrArg {
				t.Errorf("Slots(%v, %d): %v %d", weights, k, slots, e)
			}
		}
		for k := int(min(sum, 64)) + 1; k <= 64; k++ {
			if slots, e := sample.Slots(weights, k, 1, 2); slots != nil || e != api.ErrFew {
				t.Errorf("Slots(%v, %d): %v %d", weights, k, slots, e)
			}
		}
	}
}
