package bag_test

import (
	"math"
	"math/rand/v2"
	"slices"
	"testing"

	"flurry/api"
	"flurry/bag"
)

func mustAdd(t *testing.T, l []api.Vote, id api.ID, n int) []api.Vote {
	t.Helper()
	was := slices.Clone(l)
	more, e := bag.Add(l, id, n)
	if e != api.OK || bag.Check(more) != api.OK {
		t.Fatalf("Add(%v, %v, %d): %v %d", l, id, n, more, e)
	}
	if !slices.Equal(l, was) {
		t.Fatalf("Add(%v, %v, %d) has written to the bag", was, id, n)
	}
	return more
}

func mustMerge(t *testing.T, a, b []api.Vote) []api.Vote {
	t.Helper()
	wasA, wasB := slices.Clone(a), slices.Clone(b)
	both, e := bag.Merge(a, b)
	if e != api.OK || bag.Check(both) != api.OK {
		t.Fatalf("Merge(%v, %v): %v %d", a, b, both, e)
	}
	if !slices.Equal(a, wasA) || !slices.Equal(b, wasB) {
		t.Fatalf("Merge(%v, %v) has written to one of them", wasA, wasB)
	}
	return both
}

// P7.2, R3: each name, there or not, gets none, one, or some votes more.
func TestAdd(t *testing.T) {
	all := names()
	for _, l := range smallBags() {
		for _, id := range all {
			for _, n := range []int{0, 1, 7} {
				want := tally(all, append(listed(l), slices.Repeat([]api.ID{id}, n)...))
				if more := mustAdd(t, l, id, n); !slices.Equal(more, want) {
					t.Errorf("Add(%v, %v, %d): %v", l, id, n, more)
				}
			}
		}
	}
}

// P7.2: up to as many votes as there may be, not beyond.
func TestAddTheMost(t *testing.T) {
	for _, l := range someBags() {
		left := api.MaxVotes - bag.Total(l)
		for _, id := range []api.ID{names()[0], names()[9], names()[16], stranger} {
			more := mustAdd(t, l, id, left)
			if bag.Count(more, id) != bag.Count(l, id)+left || bag.Total(more) != api.MaxVotes {
				t.Errorf("Add(%v, %v, %d): %v", l, id, left, more)
			}
			for _, n := range []int{left + 1, left + 2, api.MaxVotes + 1, math.MaxInt - 1, math.MaxInt} {
				if more, e := bag.Add(l, id, n); more != nil || e != api.ErrFull {
					t.Errorf("Add(%v, %v, %d): %v %d", l, id, n, more, e)
				}
			}
		}
	}
}

// P7.2, R1, R2: a bag that may not be ahead of a number that may not be, that one ahead of too many.
func TestAddOfWhatMayNotBe(t *testing.T) {
	for _, l := range badBags() {
		was := slices.Clone(l)
		for _, n := range []int{0, 1, -1, math.MinInt, api.MaxVotes + 1, math.MaxInt} {
			if more, e := bag.Add(l, names()[1], n); more != nil || e != api.ErrBag {
				t.Errorf("Add(%v, .., %d): %v %d", l, n, more, e)
			}
		}
		if !slices.Equal(l, was) {
			t.Fatalf("%v was written to", was)
		}
	}
	for _, l := range someBags() {
		for _, n := range []int{-1, -2, -api.MaxVotes, math.MinInt} {
			for _, id := range []api.ID{names()[0], stranger} {
				if more, e := bag.Add(l, id, n); more != nil || e != api.ErrArg {
					t.Errorf("Add(%v, %v, %d): %v %d", l, id, n, more, e)
				}
			}
		}
	}
}

// P7.2, P7.4: all votes of both, whichever comes first; Add of each of one's names to the other one is the same.
func TestMerge(t *testing.T) {
	all := names()
	for _, a := range smallBags() {
		for _, b := range smallBags() {
			both := mustMerge(t, a, b)
			if !slices.Equal(both, tally(all, append(listed(a), listed(b)...))) {
				t.Errorf("Merge(%v, %v): %v", a, b, both)
			}
			one := a
			for _, vote := range b {
				one = mustAdd(t, one, vote.ID, vote.N)
			}
			if !bag.Same(one, both) {
				t.Errorf("Add of each of %v to %v: %v, not %v", b, a, one, both)
			}
		}
	}
}

// P7.2: up to as many votes as there may be, not beyond; a bag that may not be ahead of that.
func TestMergeTheMost(t *testing.T) {
	for _, a := range greatBags() {
		if both := mustMerge(t, a, nil); !bag.Same(both, a) {
			t.Errorf("Merge(%v, nil): %v", a, both)
		}
		if both := mustMerge(t, []api.Vote{}, a); !bag.Same(both, a) {
			t.Errorf("Merge({}, %v): %v", a, both)
		}
		left := api.MaxVotes - bag.Total(a)
		for _, id := range names() {
			fits, beyond := tally(names(), slices.Repeat([]api.ID{id}, left)), []api.Vote{{ID: id, N: left + 1}}
			if bag.Total(mustMerge(t, a, fits)) != api.MaxVotes || bag.Total(mustMerge(t, fits, a)) != api.MaxVotes {
				t.Errorf("Merge of %v and %v", a, fits)
			}
			mustBeFull(t, a, beyond)
			mustBeFull(t, beyond, a)
		}
		for _, b := range greatBags() {
			mustBeFull(t, a, b)
		}
	}
}

func mustBeFull(t *testing.T, a, b []api.Vote) {
	t.Helper()
	if both, e := bag.Merge(a, b); both != nil || e != api.ErrFull {
		t.Errorf("Merge(%v, %v): %v %d", a, b, both, e)
	}
}

// P7.2, R1, R2: the first one, the second one, or both may not be.
func TestMergeOfWhatMayNotBe(t *testing.T) {
	for _, x := range badBags() {
		for _, y := range append(badBags(), someBags()...) {
			for _, l := range [][2][]api.Vote{{x, y}, {y, x}} {
				if both, e := bag.Merge(l[0], l[1]); both != nil || e != api.ErrBag {
					t.Errorf("Merge(%v, %v): %v %d", l[0], l[1], both, e)
				}
			}
		}
	}
}

// P7.4: names as one Add each, in whatever order they come.
func TestAnyOrder(t *testing.T) {
	r := rand.New(rand.NewPCG(7, 3))
	for i := range 200 {
		ids := draw(r, names(), i%40)
		want := bag.Of(ids...)
		for range 4 {
			var l []api.Vote
			for _, id := range ids {
				l = mustAdd(t, l, id, 1)
			}
			if !bag.Same(l, want) || !bag.Same(bag.Of(ids...), want) {
				t.Errorf("%v: %v, not %v", ids, l, want)
			}
			r.Shuffle(len(ids), func(i, j int) { ids[i], ids[j] = ids[j], ids[i] })
		}
	}
}

// P7.2, P7.7, R3: the votes of some names, and of all others, are those of all; a name may stand there twice, or have no votes.
func TestOnly(t *testing.T) {
	r := rand.New(rand.NewPCG(7, 4))
	for _, l := range someBags() {
		for range 20 {
			ids := append(draw(r, names(), r.IntN(20)), stranger)
			was, wasIDs := slices.Clone(l), slices.Clone(ids)
			within := bag.Only(l, ids...)
			without := bag.Only(l, others(ids)...)
			for _, vote := range within {
				if !slices.Contains(ids, vote.ID) {
					t.Errorf("Only(%v, %v): %v", l, ids, within)
				}
			}
			for _, vote := range without {
				if slices.Contains(ids, vote.ID) {
					t.Errorf("Only(%v, %v): %v", l, others(ids), without)
				}
			}
			if !bag.Same(mustMerge(t, within, without), l) {
				t.Errorf("%v by %v: %v and %v", l, ids, within, without)
			}
			if !slices.Equal(l, was) || !slices.Equal(ids, wasIDs) {
				t.Fatalf("Only(%v, %v) has written to them", was, wasIDs)
			}
		}
	}
}

// others are all names but these.
func others(ids []api.ID) []api.ID {
	return slices.DeleteFunc(names(), func(id api.ID) bool { return slices.Contains(ids, id) })
}

// P7.2: all names, none, one alone, and names without votes.
func TestOnlyAllAndNone(t *testing.T) {
	for _, l := range someBags() {
		if got := bag.Only(l, names()...); !bag.Same(got, l) {
			t.Errorf("of all names %v, not %v", got, l)
		}
		for _, ids := range [][]api.ID{nil, {}, {stranger}} {
			if got := bag.Only(l, ids...); len(got) != 0 {
				t.Errorf("of %v: %v", ids, got)
			}
		}
		for _, vote := range l {
			if got := bag.Only(l, stranger, vote.ID, vote.ID); !slices.Equal(got, []api.Vote{vote}) {
				t.Errorf("of %v twice: %v", vote.ID, got)
			}
		}
	}
}

// P7.2, R1: none of a bag that may not be.
func TestOnlyOfWhatMayNotBe(t *testing.T) {
	for _, l := range badBags() {
		if got := bag.Only(l, names()...); len(got) != 0 {
			t.Errorf("Only(%v): %v", l, got)
		}
	}
}

// R3: what is answered is nobody's else: neither a write to it, nor one behind it, is seen anywhere.
func TestAnswersAreOnesOwn(t *testing.T) {
	a, b, c := names()[1], names()[2], names()[3]
	room := append(make([]api.Vote, 0, 8), api.Vote{ID: a, N: 2}, api.Vote{ID: b, N: 1})
	ids := []api.ID{a, b}
	answers := map[string]func() []api.Vote{
		"Of":           func() []api.Vote { return bag.Of(ids...) },
		"Add":          func() []api.Vote { return mustAdd(t, room, a, 1) },
		"Add of none":  func() []api.Vote { return mustAdd(t, room, a, 0) },
		"Add of a new": func() []api.Vote { return mustAdd(t, room, c, 1) },
		"Merge":        func() []api.Vote { return mustMerge(t, room, nil) },
		"Merge, too":   func() []api.Vote { return mustMerge(t, nil, room) },
		"Only":         func() []api.Vote { return bag.Only(room, ids...) },
	}
	for name, answer := range answers {
		wasRoom, wasIDs := slices.Clone(room[:cap(room)]), slices.Clone(ids)
		first, second := answer(), answer()
		want := slices.Clone(second)
		for i := range first {
			first[i] = api.Vote{ID: stranger, N: 9}
		}
		_ = append(first, api.Vote{ID: stranger, N: 9})
		if !slices.Equal(second, want) || !slices.Equal(answer(), want) {
			t.Errorf("%s: a write to an answer is seen in another one", name)
		}
		if !slices.Equal(room[:cap(room)], wasRoom) || !slices.Equal(ids, wasIDs) {
			t.Fatalf("%s: a write to an answer is seen in what was handed in", name)
		}
	}
}
