package vdr_test

import (
	"math"
	"math/big"
	"math/rand/v2"
	"testing"

	"flurry/vdr"
)

// numbers are those at which a share may go wrong, rising.
var numbers = []int64{
	math.MinInt64, math.MinInt64 + 1, -1 << 32, -2, -1, 0, 1, 2, 3, 4, 7, 10, 255, 256,
	1<<31 - 1, 1 << 31, 3037000499, 3037000500, 1<<32 - 1, 1 << 32, 1<<32 + 1,
	1<<61 + 1, 1<<62 - 2, 1<<62 - 1, 1 << 62, 1<<62 + 1, math.MaxInt64 - 1, math.MaxInt64,
}

// product is a times b as the number that it is.
func product(a, b int64) *big.Int { return new(big.Int).Mul(big.NewInt(a), big.NewInt(b)) }

func wantAtLeast(sum, total, num, den int64) bool {
	return sum >= 0 && total >= 0 && num >= 0 && den >= 1 && product(sum, den).Cmp(product(total, num)) >= 0
}

func wantNeed(total, num, den int64) int64 {
	if total < 0 || num < 0 || den < 1 || num > den {
		return -1
	}
	up := product(total, num)
	up.Add(up, big.NewInt(den-1))
	return up.Div(up, big.NewInt(den)).Int64()
}

// P5.4, R1: AtLeast at all edges, against numbers of any length.
func TestAtLeast(t *testing.T) {
	for _, sum := range numbers {
		for _, total := range numbers {
			for _, num := range numbers {
				for _, den := range numbers {
					mustTellAtLeast(t, sum, total, num, den)
				}
			}
		}
	}
}

func mustTellAtLeast(t *testing.T, sum, total, num, den int64) {
	t.Helper()
	if got := vdr.AtLeast(sum, total, num, den); got != wantAtLeast(sum, total, num, den) {
		t.Errorf("AtLeast(%d, %d, %d, %d) = %v", sum, total, num, den, got)
	}
}

// P5.4, P5.8, R1: Need at all edges; AtLeast says so of it, and not of one less.
func TestNeed(t *testing.T) {
	for _, total := range numbers {
		for _, num := range numbers {
			for _, den := range numbers {
				mustNeed(t, total, num, den)
			}
		}
	}
	for _, x := range [][4]int64{{4, 2, 3, 3}, {10, 2, 3, 7}, {9, 2, 3, 6}, {0, 1, 1, 0}, {5, 0, 1, 0}, {5, 1, 1, 5}, {5, 2, 1, -1}, {-1, 1, 2, -1}, {1, -1, 2, -1}, {1, 0, 0, -1}, {1, -2, -1, -1}} {
		if got := vdr.Need(x[0], x[1], x[2]); got != x[3] {
			t.Errorf("Need(%d, %d, %d) = %d, not %d", x[0], x[1], x[2], got, x[3])
		}
	}
}

func mustNeed(t *testing.T, total, num, den int64) {
	t.Helper()
	need := vdr.Need(total, num, den)
	if need != wantNeed(total, num, den) {
		t.Errorf("Need(%d, %d, %d) = %d, not %d", total, num, den, need, wantNeed(total, num, den))
	}
	if need >= 0 && (!vdr.AtLeast(need, total, num, den) || vdr.AtLeast(need-1, total, num, den)) {
		t.Errorf("Need(%d, %d, %d) = %d is not the least one", total, num, den, need)
	}
}

// P5.4, P5.8: the same for small numbers, all of them.
func TestSmallShares(t *testing.T) {
	for total := int64(-1); total < 12; total++ {
		for num := int64(-1); num < 8; num++ {
			for den := int64(-1); den < 8; den++ {
				mustNeed(t, total, num, den)
				for sum := int64(-1); sum < 14; sum++ {
					mustTellAtLeast(t, sum, total, num, den)
				}
			}
		}
	}
}

// P5.4, P5.8: and for numbers of all lengths.
func TestAnyShares(t *testing.T) {
	r := rand.New(rand.NewPCG(5, 4))
	any := func() int64 { return r.Int64() >> r.IntN(63) }
	for range 20000 {
		total, num, den := any(), any(), any()
		mustNeed(t, total, num, den)
		mustNeed(t, total, min(num, den), max(num, den))
		mustTellAtLeast(t, any(), total, num, den)
		if need := wantNeed(total, num, den); need > 0 {
			mustTellAtLeast(t, need, total, num, den)
			mustTellAtLeast(t, need-1, total, num, den)
		}
	}
}

// P5.8: what is needed rises with num, and with total.
func TestNeedRises(t *testing.T) {
	for _, den := range []int64{1, 2, 3, 7, 100, 1 << 40, math.MaxInt64} {
		for i, total := range numbers {
			for j, num := range numbers {
				need := vdr.Need(total, num, den)
				if i > 0 && need >= 0 && vdr.Need(numbers[i-1], num, den) > need {
					t.Errorf("%d of %d of %d is less than of %d", num, den, total, numbers[i-1])
				}
				if j > 0 && need >= 0 && vdr.Need(total, numbers[j-1], den) > need {
					t.Errorf("%d of %d of %d is less than %d of it", num, den, total, numbers[j-1])
				}
			}
		}
	}
}
