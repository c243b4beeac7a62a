package vdr_test

import (
	"math"
	"slices"
	"testing"

	"flurry/api"
	"flurry/vdr"
)

// P5.2: sets that may be.
func TestCheckOfSetsThatMayBe(t *testing.T) {
	for _, l := range goodSets() {
		was := slices.Clone(l)
		if e := vdr.Check(l); e != api.OK {
			t.Errorf("%.200v: %d", l, e)
		}
		want := int64(0)
		for _, v := range l {
			want += v.Weight
		}
		if got := vdr.Total(l); got != want {
			t.Errorf("%.200v: all of it is %d, not %d", l, got, want)
		}
		if !slices.Equal(l, was) {
			t.Fatalf("%.200v was written to", was)
		}
	}
	if vdr.Total(pair()) != 4 {
		t.Errorf("the chapter's example: %d", vdr.Total(pair()))
	}
}

// P5.2, P5.3, R1, R2: of a set that may not be each call tells the first error, or nothing.
func TestSetsThatMayNotBe(t *testing.T) {
	for _, x := range badSets() {
		if e := vdr.Check(x.l); e != x.err {
			t.Errorf("Check of %.200v: %d, not %d", x.l, e, x.err)
		}
		if n := vdr.Total(x.l); n != 0 {
			t.Errorf("Total of %.200v: %d", x.l, n)
		}
		for _, i := range []int{0, 1, -1, 31, 32, math.MaxInt, math.MinInt} {
			if n, e := vdr.Sum(x.l, i); n != 0 || e != x.err {
				t.Errorf("Sum of %.200v: %d %d, not %d", x.l, n, e, x.err)
			}
			if at := vdr.At(x.l, int64(i)); at != -1 {
				t.Errorf("At of %.200v: %d", x.l, at)
			}
			if first, n := vdr.Units(x.l, i); first != 0 || n != 0 {
				t.Errorf("Units of %.200v: %d %d", x.l, first, n)
			}
		}
		if n, e := vdr.Sum(x.l); n != 0 || e != x.err {
			t.Errorf("Sum of none of %.200v: %d %d", x.l, n, e)
		}
		if s, e := vdr.Text(x.l); s != "" || e != x.err {
			t.Errorf("Text of %.200v: %.50q %d", x.l, s, e)
		}
	}
}

// P5.2: the place of the first one of a name, of any list.
func TestFind(t *testing.T) {
	for _, l := range goodSets() {
		for i, v := range l {
			if got := vdr.Find(l, v.Name); got != i {
				t.Errorf("%q in %.200v: %d", v.Name, l, got)
			}
		}
		for _, name := range append(badNames(), "nobody", "v", "v32", "v00", "V0", "zetaa") {
			if got := vdr.Find(l, name); got != -1 {
				t.Errorf("%.20q in %.200v: %d", name, l, got)
			}
		}
	}
	odd := []api.Vdr{{Name: "a"}, {Name: "B", Weight: -1}, {Name: "a", Weight: 3}, {}, {Name: "\xff"}, {Name: "B", Weight: 4}, {}}
	for name, want := range map[string]int{"a": 0, "B": 1, "": 3, "\xff": 4, "\xfe": -1, "\ufffd": -1, "b": -1} {
		if got := vdr.Find(odd, name); got != want {
			t.Errorf("%q: %d", name, got)
		}
	}
	if got := vdr.Find(crowd(2000, 1), "v1999"); got != 1999 {
		t.Errorf("in a long list: %d", got)
	}
	if vdr.Find(nil, "") != -1 || vdr.Find([]api.Vdr{}, "a") != -1 {
		t.Error("something is in an empty list")
	}
}

// P5.3: the stake of some, each once, in any order.
func TestSum(t *testing.T) {
	for _, l := range goodSets() {
		var all, twice []int
		for i, v := range l {
			if n, e := vdr.Sum(l, i); n != v.Weight || e != api.OK {
				t.Errorf("%d of %.200v: %d %d", i, l, n, e)
			}
			if n, e := vdr.Sum(l, i, i, i); n != v.Weight || e != api.OK {
				t.Errorf("%d thrice of %.200v: %d %d", i, l, n, e)
			}
			all = append(all, i)
			twice = append(twice, len(l)-1-i, i)
		}
		for _, who := range [][]int{all, twice, slices.Repeat(all, 3)} {
			was := slices.Clone(who)
			if n, e := vdr.Sum(l, who...); n != vdr.Total(l) || e != api.OK || !slices.Equal(who, was) {
				t.Errorf("%v of %.200v: %d %d", was, l, n, e)
			}
		}
		if n, e := vdr.Sum(l); n != 0 || e != api.OK {
			t.Errorf("none of %.200v: %d %d", l, n, e)
		}
	}
}

// P5.3: the stake of each part of a set.
func TestSumOfEachPart(t *testing.T) {
	l := []api.Vdr{{Name: "a", Weight: 1}, {Name: "b", Weight: 10}, {Name: "c", Weight: 100}, {Name: "d", Weight: 1000}, {Name: "e", Weight: api.MaxStake - 1111}}
	for part := range 1 << len(l) {
		var who []int
		want := int64(0)
		for i, v := range l {
			if part>>i&1 == 1 {
				who = append(who, i)
				want += v.Weight
			}
		}
		slices.Reverse(who)
		if n, e := vdr.Sum(l, who...); n != want || e != api.OK {
			t.Errorf("%v: %d %d", who, n, e)
		}
	}
}

// P5.3, R2: one that is not there, wherever it stands.
func TestSumOfSomebodyElse(t *testing.T) {
	for _, l := range [][]api.Vdr{pair(), crowd(1, 1), crowd(31, 2), crowd(32, 2)} {
		for _, i := range []int{-1, -2, len(l), len(l) + 1, 32, 33, 256, math.MaxInt, math.MinInt} {
			for _, who := range [][]int{{i}, {i, 0}, {0, i}, {0, 0, i, 0}, {i, i}} {
				if n, e := vdr.Sum(l, who...); n != 0 || e != api.ErrNone {
					t.Errorf("%v of %d: %d %d", who, len(l), n, e)
				}
			}
		}
	}
}

// P5.3, P5.6: each unit is just one validator's, those of one lie side by side, as many as its weight.
func TestEachUnit(t *testing.T) {
	l := []api.Vdr{{Name: "ana", Weight: 3}, {Name: "b", Weight: 1}, {Name: "c", Weight: 40}, {Name: "d", Weight: 1}, {Name: "e", Weight: 2}}
	for _, l := range [][]api.Vdr{l, pair(), crowd(1, 1), crowd(32, 1), crowd(32, 3)} {
		unit := int64(0)
		for i, v := range l {
			first, n := vdr.Units(l, i)
			if first != unit || n != v.Weight {
				t.Errorf("the units of %d of %v: %d, %d", i, l, first, n)
			}
			for range v.Weight {
				if got := vdr.At(l, unit); got != i {
					t.Errorf("unit %d of %v: %d, not %d", unit, l, got, i)
				}
				unit++
			}
		}
		if got := vdr.At(l, unit); got != -1 || unit != vdr.Total(l) {
			t.Errorf("unit %d of %v: %d", unit, l, got)
		}
	}
}

// P5.3, P5.6: the first and the last unit of each, the ones beside them, and units that are nobody's, however great the stake is.
func TestUnitsAtTheEdges(t *testing.T) {
	for _, l := range goodSets() {
		next := int64(0)
		for i, v := range l {
			first, n := vdr.Units(l, i)
			if first != next || n != v.Weight {
				t.Errorf("the units of %d of %.200v: %d, %d", i, l, first, n)
			}
			next += n
			if got := vdr.At(l, first); got != i {
				t.Errorf("unit %d of %.200v: %d", first, l, got)
			}
			if got := vdr.At(l, next-1); got != i {
				t.Errorf("unit %d of %.200v: %d", next-1, l, got)
			}
			if got := vdr.At(l, first-1); got != i-1 {
				t.Errorf("unit %d of %.200v: %d", first-1, l, got)
			}
		}
		for _, unit := range []int64{-1, -2, next, next + 1, math.MaxInt64, math.MinInt64} {
			if got := vdr.At(l, unit); got != -1 {
				t.Errorf("unit %d of %.200v: %d", unit, l, got)
			}
		}
		for _, i := range []int{-1, -2, len(l), len(l) + 1, 32, 256, math.MaxInt, math.MinInt} {
			if first, n := vdr.Units(l, i); first != 0 || n != 0 {
				t.Errorf("the units of %d of %.200v: %d, %d", i, l, first, n)
			}
		}
	}
}

// P5.2: All goes through any list, in order.
func TestAll(t *testing.T) {
	lists := goodSets()
	for _, x := range badSets() {
		lists = append(lists, x.l)
	}
	for _, l := range lists {
		all := vdr.All(l)
		for range 2 { // it may be done again
			if got := gone(all, len(l)+1); !slices.Equal(got, l) {
				t.Errorf("%.200v, not %.200v", got, l)
			}
			for stop := range min(len(l), 40) {
				if got := gone(all, stop+1); !slices.Equal(got, l[:stop+1]) {
					t.Errorf("%.200v, not %.200v", got, l[:stop+1])
				}
			}
		}
	}
}

// R3: All tells what was there when it was asked for.
func TestAllTellsWhatWas(t *testing.T) {
	l := pair()
	all := vdr.All(l)
	for range all {
		l[0], l[1] = api.Vdr{Name: "c", Weight: 9}, api.Vdr{Name: "d", Weight: 8}
	}
	if got := gone(all, 9); !slices.Equal(got, pair()) {
		t.Errorf("%v", got)
	}
}

// gone is what all tells until it is stopped at the n-th one.
func gone(all func(func(string, int64) bool), n int) []api.Vdr {
	var l []api.Vdr
	all(func(name string, weight int64) bool {
		l = append(l, api.Vdr{Name: name, Weight: weight})
		return len(l) < n
	})
	return l
}
