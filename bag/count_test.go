package bag_test

import (
	"math"
	"slices"
	"testing"

	"flurry/api"
	"flurry/bag"
)

// P7.3, P7.5: each name's votes, and those of all together.
func TestCount(t *testing.T) {
	for _, l := range someBags() {
		was := slices.Clone(l)
		counts := map[api.ID]int{}
		all := 0
		for _, vote := range l {
			counts[vote.ID] = vote.N
			all += vote.N
		}
		for _, id := range append(names(), stranger) {
			if n := bag.Count(l, id); n != counts[id] {
				t.Errorf("Count(%v, %v): %d", l, id, n)
			}
		}
		if n := bag.Total(l); n != all {
			t.Errorf("Total(%v): %d", l, n)
		}
		if !slices.Equal(l, was) {
			t.Fatalf("%v was written to", was)
		}
	}
}

// P7.3, P7.5: no name has more votes than Mode's, and none that is less has as many.
func TestMode(t *testing.T) {
	for _, l := range someBags() {
		was := slices.Clone(l)
		id, n := bag.Mode(l)
		if len(l) == 0 {
			if id != (api.ID{}) || n != 0 {
				t.Errorf("of an empty bag %v %d", id, n)
			}
			continue
		}
		if !slices.Contains(l, api.Vote{ID: id, N: n}) {
			t.Errorf("Mode(%v): %v %d", l, id, n)
		}
		for _, vote := range l {
			if vote.N > n || vote.N == n && bag.Less(vote.ID, id) {
				t.Errorf("Mode(%v): %v %d", l, id, n)
			}
		}
		if !slices.Equal(l, was) {
			t.Fatalf("%v was written to", was)
		}
	}
}

// P7.3: of several with as many the least one, wherever they stand.
func TestModeOfSeveral(t *testing.T) {
	a, b, c := names()[1], names()[2], names()[3]
	for _, x := range []struct {
		counts [3]int
		want   api.Vote
	}{
		{[3]int{2, 2, 2}, api.Vote{ID: a, N: 2}},
		{[3]int{1, 2, 2}, api.Vote{ID: b, N: 2}},
		{[3]int{2, 1, 2}, api.Vote{ID: a, N: 2}},
		{[3]int{2, 2, 3}, api.Vote{ID: c, N: 3}},
		{[3]int{2, 3, 2}, api.Vote{ID: b, N: 3}},
		{[3]int{4, 3, 2}, api.Vote{ID: a, N: 4}},
	} {
		id, n := bag.Mode([]api.Vote{{ID: a, N: x.counts[0]}, {ID: b, N: x.counts[1]}, {ID: c, N: x.counts[2]}})
		if (api.Vote{ID: id, N: n}) != x.want {
			t.Errorf("%v: %v %d", x.counts, id, n)
		}
	}
}

// thresholds are numbers of votes, among them each that a bag's name has, one less and one more.
func thresholds(l []api.Vote) []int {
	ns := []int{math.MinInt, -1, 0, 1, 2, api.MaxVotes, api.MaxVotes + 1, math.MaxInt}
	for _, vote := range l {
		ns = append(ns, vote.N-1, vote.N, vote.N+1)
	}
	return ns
}

// P7.3: the names with so many votes, rising; all of them from 1 down.
func TestAtLeast(t *testing.T) {
	for _, l := range someBags() {
		was := slices.Clone(l)
		for _, n := range thresholds(l) {
			var want []api.ID
			for _, vote := range l {
				if vote.N >= n {
					want = append(want, vote.ID)
				}
			}
			if got := told(l, n); !slices.Equal(got, want) {
				t.Errorf("AtLeast(%v, %d): %v", l, n, got)
			}
		}
		if !slices.Equal(l, was) {
			t.Fatalf("%v was written to", was)
		}
	}
}

// P7.6: at most one name has more than half of all votes; at most Total by n names have n.
func TestMajority(t *testing.T) {
	for _, l := range someBags() {
		total := bag.Total(l)
		if got := told(l, total/2+1); len(got) > 1 {
			t.Errorf("%v: more than half have %v", l, got)
		}
		for n := 1; n <= 60; n++ {
			if got := told(l, n); len(got)*n > total {
				t.Errorf("%v: %d have at least %d", l, len(got), n)
			}
		}
	}
}

// P7.3, R3: a range may stop anywhere, and be done again, also within itself; it tells what was there when it was asked for.
func TestAtLeastAgain(t *testing.T) {
	l := tally(names(), append(names(), names()...))
	was := slices.Clone(l)
	two := bag.AtLeast(l, 2)
	l[0].N, l[3].ID = 1, stranger
	clear(l[5:])
	for stop := range len(was) {
		at := 0
		for id := range two {
			if id != was[at].ID {
				t.Errorf("the name %d: %v", at, id)
			}
			if at == stop {
				break
			}
			at++
		}
		if at != stop {
			t.Errorf("told %d, not %d", at, stop)
		}
	}
	pairs := 0
	for range two {
		for range two {
			pairs++
		}
	}
	if pairs != len(was)*len(was) {
		t.Errorf("%d pairs", pairs)
	}
}

// P7.3, R1: of a bag that may not be 0, no name and 0, nothing.
func TestTellsNothingOfWhatMayNotBe(t *testing.T) {
	for _, l := range badBags() {
		was := slices.Clone(l)
		for _, id := range append(names(), stranger) {
			if n := bag.Count(l, id); n != 0 {
				t.Errorf("Count(%v, %v): %d", l, id, n)
			}
		}
		if n := bag.Total(l); n != 0 {
			t.Errorf("Total(%v): %d", l, n)
		}
		if id, n := bag.Mode(l); id != (api.ID{}) || n != 0 {
			t.Errorf("Mode(%v): %v %d", l, id, n)
		}
		for _, n := range thresholds(l) {
			if got := told(l, n); len(got) != 0 {
				t.Errorf("AtLeast(%v, %d): %v", l, n, got)
			}
		}
		if !slices.Equal(l, was) {
			t.Fatalf("%v was written to", was)
		}
	}
}
