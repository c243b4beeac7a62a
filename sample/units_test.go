package sample_test

import (
	"math"
	"math/rand/v2"
	"slices"
	"testing"

	"flurry/api"
	"flurry/sample"
)

func mustUnits(t *testing.T, total int64, k int, draws []uint64) []int64 {
	t.Helper()
	was := slices.Clone(draws)
	units, e := sample.Units(total, k, draws...)
	if e != api.OK || len(units) != k {
		t.Fatalf("Units(%d, %d, %v): %v %d", total, k, draws, units, e)
	}
	if !slices.Equal(draws, was) {
		t.Fatalf("Units(%d, %d, %v) has written to its draws", total, k, was)
	}
	return units
}

// P6.1: the examples.
func TestUnitsOfTheExamples(t *testing.T) {
	if got := mustUnits(t, 5, 3, []uint64{0, 0, 2}); !slices.Equal(got, []int64{0, 1, 4}) {
		t.Errorf("0 1 4: %v", got)
	}
	if got := mustUnits(t, 5, 2, []uint64{7}); !slices.Equal(got, []int64{2, 0}) {
		t.Errorf("2 0: %v", got)
	}
}

// P6.1, P6.4, P6.5: of few units, by all draws, also beyond the total: what is picked from a list of them; and each order of each of them comes.
func TestUnitsByAllDraws(t *testing.T) {
	for total := int64(0); total <= 5; total++ {
		ways := 1
		for k := range int(total) + 1 {
			seen := map[[5]int64]bool{}
			each(k, uint64(total)+2, func(draws []uint64) {
				got := mustUnits(t, total, k, draws)
				if !slices.Equal(got, pick(total, k, draws)) {
					t.Errorf("Units(%d, %d, %v): %v", total, k, draws, got)
				}
				seen[[5]int64(append(got, make([]int64, 5-k)...))] = true
			})
			if len(seen) != ways {
				t.Errorf("%d of %d come in %d orders, not in %d", k, total, len(seen), ways)
			}
			ways *= int(total) - k
		}
	}
}

// P6.1, P6.4: of more units, by draws of all lengths, and by as many as there are.
func TestUnitsByAnyDraws(t *testing.T) {
	r := rand.New(rand.NewPCG(6, 2))
	for total := int64(1); total <= 130; total++ {
		for range 20 {
			k := r.IntN(int(min(total, api.MaxSample)) + 1)
			draws := someDraws(r, r.IntN(k+4))
			if got := mustUnits(t, total, k, draws); !slices.Equal(got, pick(total, k, draws)) {
				t.Errorf("Units(%d, %d, %v): %v", total, k, draws, got)
			}
		}
	}
}

// P6.1: a draw that there is not is 0.
func TestUnitsWithoutDraws(t *testing.T) {
	for _, total := range []int64{64, 65, 1000, 1 << 32, most} {
		for k := range api.MaxSample + 1 {
			for j, unit := range mustUnits(t, total, k, nil) {
				if unit != int64(j) {
					t.Errorf("without draws the unit %d of %d is %d", j, total, unit)
				}
			}
		}
	}
	if got := mustUnits(t, 10, 4, []uint64{9, 1}); !slices.Equal(got, []int64{9, 1, 0, 2}) {
		t.Errorf("with two draws: %v", got)
	}
}

// P6.4, P6.1: with k the total all come, also where that is nothing.
func TestAllUnits(t *testing.T) {
	r := rand.New(rand.NewPCG(6, 3))
	for total := range api.MaxSample + 1 {
		for range 20 {
			got := mustUnits(t, int64(total), total, someDraws(r, total))
			slices.Sort(got)
			for j, unit := range got {
				if unit != int64(j) {
					t.Fatalf("all of %d: %v", total, got)
				}
			}
		}
	}
}

// totals are those of many units, up to the most.
var totals = []int64{64, 65, 100, 1<<31 - 1, 1 << 32, 1<<32 + 1, 1 << 53, 1<<61 + 1, most - 1, most}

// P6.5, P6.4: any units that are unlike come, in any order, by their draws.
func TestWhateverIsWished(t *testing.T) {
	r := rand.New(rand.NewPCG(6, 4))
	for _, total := range totals {
		for i := range 300 {
			wished := unlike(r, total, i%(api.MaxSample+1))
			if got := mustUnits(t, total, len(wished), drawsFor(wished)); !slices.Equal(got, wished) {
				t.Fatalf("of %d: %v, not %v", total, got, wished)
			}
		}
		falling := make([]int64, api.MaxSample)
		for j := range falling {
			falling[j] = total - 1 - int64(j)
		}
		if got := mustUnits(t, total, len(falling), drawsFor(falling)); !slices.Equal(got, falling) {
			t.Errorf("of %d, falling: %v", total, got)
		}
	}
}

// P6.6, P6.1: multiples of the units that are left, and draws behind the k-th, count for nothing.
func TestMultiplesOfDraws(t *testing.T) {
	r := rand.New(rand.NewPCG(6, 5))
	for _, total := range totals {
		for i := range 200 {
			wished := unlike(r, total, i%(api.MaxSample+1))
			draws := drawsFor(wished)
			for j, draw := range draws {
				left := uint64(total) - uint64(j)
				draws[j] += left * (r.Uint64N((math.MaxUint64-draw)/left) + 1)
			}
			draws = append(draws, someDraws(r, r.IntN(70))...)
			if got := mustUnits(t, total, len(wished), draws); !slices.Equal(got, wished) {
				t.Fatalf("of %d: %v, not %v", total, got, wished)
			}
		}
	}
}

// P6.1, R1: the longest draws there are.
func TestGreatestDraws(t *testing.T) {
	draws := slices.Repeat([]uint64{math.MaxUint64}, api.MaxSample)
	for total := int64(64); total < 300; total++ {
		if got := mustUnits(t, total, 64, draws); !slices.Equal(got, pick(total, 64, draws)) {
			t.Errorf("of %d: %v", total, got)
		}
	}
	for _, total := range totals {
		got := mustUnits(t, total, 64, draws)
		for j, draw := range drawsFor(got) {
			if left := uint64(total) - uint64(j); draw != math.MaxUint64%left {
				t.Errorf("the unit %d of %d: %d", j, total, got[j])
			}
		}
	}
}

// P6.1, R2: numbers that may not be, and which error comes first.
func TestUnitsThatMayNotBe(t *testing.T) {
	bad := []int64{-1, -2, -65, most + 1, most + 2, math.MaxInt64, math.MinInt64}
	for _, total := range bad {
		for _, k := range append([]int{0, 1, 64}, badMany...) {
			mustRefuseUnits(t, total, k, api.ErrArg)
		}
	}
	for _, total := range []int64{0, 1, 63, 64, 65, 66, most} {
		for _, k := range badMany {
			mustRefuseUnits(t, total, k, api.ErrArg) // ahead of ErrFew
		}
	}
	for total := range int64(api.MaxSample) {
		for k := int(total) + 1; k <= api.MaxSample; k++ {
			mustRefuseUnits(t, total, k, api.ErrFew)
		}
	}
}

func mustRefuseUnits(t *testing.T, total int64, k int, want api.Errno) {
	t.Helper()
	for _, draws := range [][]uint64{nil, {0}, {5, 4, 3}} {
		if units, e := sample.Units(total, k, draws...); units != nil || e != want {
			t.Errorf("Units(%d, %d, %v): %v %d, not %d", total, k, draws, units, e, want)
		}
	}
}

// P6.1: none is drawn of any total that may be.
func TestNoUnits(t *testing.T) {
	for _, total := range append([]int64{0, 1, 2}, totals...) {
		mustUnits(t, total, 0, nil)
		mustUnits(t, total, 0, []uint64{3, 4})
	}
}

// P6.1, R1: the draws behind the first k.
func TestRest(t *testing.T) {
	for n := range 70 {
		draws := make([]uint64, n)
		for j := range draws {
			draws[j] = math.MaxUint64 - uint64(j)
		}
		was := slices.Clone(draws)
		for _, k := range []int{0, 1, 2, 3, 31, 64, 65, 68, 69, 70, 1 << 32, math.MaxInt} {
			if got := sample.Rest(k, draws...); !slices.Equal(got, was[min(k, n):]) {
				t.Errorf("behind %d of %d: %v", k, n, got)
			}
		}
		for _, k := range []int{-1, -2, -64, math.MinInt, math.MinInt + 1} {
			if got := sample.Rest(k, draws...); !slices.Equal(got, was) {
				t.Errorf("behind %d of %d: %v", k, n, got)
			}
		}
		if !slices.Equal(draws, was) {
			t.Fatalf("%d draws were written to", n)
		}
	}
}

// R3: what Rest answers is nobody's else.
func TestRestIsItsOwn(t *testing.T) {
	for k := -1; k <= 3; k++ {
		draws := []uint64{1, 2, 3}
		got := sample.Rest(k, draws...)
		want := slices.Clone(got)
		for j := range draws {
			draws[j] = 9
		}
		if !slices.Equal(got, want) {
			t.Errorf("behind %d: %v, by writing to the draws", k, got)
		}
		_ = append(got, 7)
		for j := range got {
			got[j] = 8
		}
		if !slices.Equal(draws, []uint64{9, 9, 9}) {
			t.Errorf("behind %d: %v, by writing to the rest", k, draws)
		}
	}
}

// P6.1: what Rest answers draws on where a sample ended.
func TestDrawsGoOn(t *testing.T) {
	draws := []uint64{3, 1, 4, 1, 5, 9}
	first := mustUnits(t, 9, 2, draws)
	second := mustUnits(t, 9, 3, sample.Rest(2, draws...))
	if !slices.Equal(first, []int64{3, 1}) || !slices.Equal(second, []int64{4, 1, 7}) {
		t.Errorf("%v, then %v", first, second)
	}
}
