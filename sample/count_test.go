package sample_test

import (
	"math"
	"math/rand/v2"
	"slices"
	"testing"

	"flurry/api"
	"flurry/sample"
)

// some are slots, each of somebody below many.
type some struct {
	many  int
	slots []int
}

// someSlots are slots of as few and as many as there may be, also more of them than a sample has.
func someSlots() []some {
	l := []some{{0, nil}, {0, []int{}}, {1, nil}, {32, nil}, {1, []int{0}}, {3, []int{2, 0, 2}}, {3, []int{1, 1}}, {32, []int{31, 0, 31}}, {32, slices.Repeat([]int{31}, 5000)}}
	r := rand.New(rand.NewPCG(6, 8))
	for i := range 200 {
		x := some{many: 1 + i%api.MaxVdrs}
		for range r.IntN(70) {
			x.slots = append(x.slots, r.IntN(x.many))
		}
		l = append(l, x)
	}
	return l
}

func howOften(who int, slots []int) int {
	n := 0
	for _, slot := range slots {
		if slot == who {
			n++
		}
	}
	return n
}

// seat is what All tells of one.
type seat struct{ who, n int }

func allOf(many int, slots []int) []seat {
	var l []seat
	for who, n := range sample.All(many, slots) {
		l = append(l, seat{who, n})
	}
	return l
}

// P6.3: how often each stands in slots, and those that stand there at all.
func TestCount(t *testing.T) {
	for _, x := range someSlots() {
		was := slices.Clone(x.slots)
		counts, e := sample.Count(x.many, x.slots)
		if e != api.OK || len(counts) != x.many {
			t.Fatalf("Count(%d, %v): %v %d", x.many, x.slots, counts, e)
		}
		var want []seat
		for who, n := range counts {
			if n != howOften(who, was) {
				t.Errorf("Count(%d, %v): %v", x.many, x.slots, counts)
			}
			if n > 0 {
				want = append(want, seat{who, n})
			}
		}
		if got := allOf(x.many, x.slots); !slices.Equal(got, want) {
			t.Errorf("All(%d, %v): %v", x.many, x.slots, got)
		}
		if !slices.Equal(x.slots, was) {
			t.Fatalf("%v was written to", was)
		}
	}
}

// P6.3, R1, R2: numbers and slots that may not be.
func TestCountOfWhatMayNotBe(t *testing.T) {
	l := []some{{0, []int{0}}, {0, []int{-1}}, {-1, nil}, {33, nil}, {-1, []int{0}}, {33, []int{0}}, {math.MaxInt, []int{0}}, {math.MinInt, nil}, {math.MaxInt, nil}, {1 << 32, nil}}
	for many := range api.MaxVdrs + 1 {
		for _, who := range []int{-1, -2, many, many + 1, 32, 33, math.MaxInt, math.MinInt} {
			l = append(l, some{many, []int{who}}, some{many, append(make([]int, min(many, 1)), who)})
			if many > 0 {
				l = append(l, some{many, []int{who, many - 1}}, some{many, []int{0, who, 0}})
			}
		}
	}
	for _, x := range l {
		if counts, e := sample.Count(x.many, x.slots); counts != nil || e != api.ErrArg {
			t.Errorf("Count(%d, %v): %v %d", x.many, x.slots, counts, e)
		}
		all := sample.All(x.many, x.slots)
		if all == nil {
			t.Fatalf("All(%d, %v) is nil", x.many, x.slots)
		}
		for who, n := range all {
			t.Errorf("All(%d, %v): %d %d", x.many, x.slots, who, n)
		}
	}
}

// P6.3, R3: All may be stopped at any point, done again, and tells what was there when it was asked for.
func TestAllStopsAndGoesAgain(t *testing.T) {
	slots := []int{4, 1, 4, 30, 4, 1}
	want := []seat{{1, 2}, {4, 3}, {30, 1}}
	all := sample.All(31, slots)
	for i := range slots {
		slots[i] = 7
	}
	for stop := range len(want) + 1 {
		var got []seat
		for who, n := range all {
			if len(got) == stop {
				break
			}
			got = append(got, seat{who, n})
		}
		if !slices.Equal(got, want[:stop]) {
			t.Errorf("stopped behind %d: %v", stop, got)
		}
	}
	for who := range all {
		for inner, n := range all {
			if inner == who && n != howOften(who, []int{4, 1, 4, 30, 4, 1}) {
				t.Errorf("a range within a range: %d %d", who, n)
			}
		}
	}
}
