package bag_test

import (
	"math/rand/v2"
	"slices"
	"testing"

	"flurry/api"
	"flurry/bag"
)

// P7.1: byte by byte, by each byte, and by the first one that is another.
func TestLess(t *testing.T) {
	for i, a := range names() {
		for j, b := range names() {
			if bag.Less(a, b) != (i < j) {
				t.Errorf("Less(%v, %v): %v", a, b, i >= j)
			}
		}
	}
	for i := range len(api.ID{}) {
		a, b := api.ID{}, api.ID{}
		b[i] = 1
		for j := i + 1; j < len(a); j++ {
			a[j] = 255
		}
		if !bag.Less(a, b) || bag.Less(b, a) {
			t.Errorf("by the byte %d", i)
		}
	}
}

// P7.1: what may be, and what may not.
func TestCheck(t *testing.T) {
	for _, l := range someBags() {
		was := slices.Clone(l)
		if e := bag.Check(l); e != api.OK {
			t.Errorf("Check(%v): %d", l, e)
		}
		if !slices.Equal(l, was) {
			t.Fatalf("%v was written to", was)
		}
	}
	for _, l := range badBags() {
		if e := bag.Check(l); e != api.ErrBag {
			t.Errorf("Check(%v): %d", l, e)
		}
	}
}

// P7.1, R4: the same names and votes in order, whether they may be or not.
func TestSame(t *testing.T) {
	a, b := names()[1], names()[2]
	lists := [][]api.Vote{
		nil,
		{{ID: a, N: 1}},
		{{ID: a, N: 2}},
		{{ID: b, N: 1}},
		{{ID: a, N: 1}, {ID: b, N: 1}},
		{{ID: a, N: 1}, {ID: b, N: 2}},
		{{ID: b, N: 1}, {ID: a, N: 1}},
		{{ID: a, N: 1}, {ID: a, N: 1}},
		{{ID: a, N: 0}},
		{{N: 1}},
	}
	for i, x := range lists {
		for j, y := range lists {
			if bag.Same(x, slices.Clone(y)) != (i == j) {
				t.Errorf("Same(%v, %v): %v", x, y, i != j)
			}
		}
	}
	if !bag.Same(nil, []api.Vote{}) || !bag.Same([]api.Vote{}, nil) {
		t.Error("nil and empty lists are not the same")
	}
}

// P7.1: the chapter's example.
func TestOfTheExample(t *testing.T) {
	a, b := api.ID{31: 1}, api.ID{31: 2}
	l := bag.Of(b, a, b)
	if !slices.Equal(l, []api.Vote{{ID: a, N: 1}, {ID: b, N: 2}}) {
		t.Errorf("a 1, b 2: %v", l)
	}
	if id, n := bag.Mode(l); id != b || n != 2 {
		t.Errorf("b 2: %v %d", id, n)
	}
}

// P7.1, R3, R6: of ids in any order, however often: each name, rising, as often as it stands there; again and again.
func TestOf(t *testing.T) {
	all := names()
	r := rand.New(rand.NewPCG(7, 2))
	for i := range 400 {
		ids := draw(r, all[:1+i%len(all)], i%60)
		was := slices.Clone(ids)
		l := bag.Of(ids...)
		if !slices.Equal(l, tally(all, was)) || bag.Check(l) != api.OK {
			t.Errorf("Of(%v): %v", ids, l)
		}
		if !slices.Equal(ids, was) {
			t.Fatalf("%v was written to", was)
		}
	}
	if l := bag.Of(); len(l) != 0 {
		t.Errorf("of no names: %v", l)
	}
}

// P7.1: as many votes as there may be, of one name, of two, each of another one; none of one more.
func TestOfTheMost(t *testing.T) {
	a, b := names()[4], names()[8]
	ids := slices.Repeat([]api.ID{b}, api.MaxVotes)
	if l := bag.Of(ids...); !slices.Equal(l, []api.Vote{{ID: b, N: api.MaxVotes}}) {
		t.Errorf("of one name: %v", l)
	}
	ids[api.MaxVotes-1] = a
	if l := bag.Of(ids...); !slices.Equal(l, []api.Vote{{ID: a, N: 1}, {ID: b, N: api.MaxVotes - 1}}) {
		t.Errorf("of two names: %v", l)
	}
	if l := bag.Of(append(ids, b)...); len(l) != 0 {
		t.Errorf("of one more: %v", l)
	}
	for i := range ids {
		ids[i] = numbered(len(ids) - 1 - i)
	}
	l := bag.Of(ids...)
	if len(l) != api.MaxVotes || bag.Total(l) != api.MaxVotes {
		t.Fatalf("each another one: %d of %d names", bag.Total(l), len(l))
	}
	for i, vote := range l {
		if vote.ID != numbered(i) || vote.N != 1 {
			t.Fatalf("the name %d: %v", i, vote)
		}
	}
	if l := bag.Of(append(ids, numbered(len(ids)))...); len(l) != 0 {
		t.Errorf("of one more, each another one: %d names", len(l))
	}
}

// numbered is the i-th of many names.
func numbered(i int) api.ID { return api.ID{3: byte(i >> 16), 4: byte(i >> 8), 31: byte(i)} }
