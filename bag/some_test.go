package bag_test

import (
	"math"
	"math/rand/v2"
	"slices"

	"flurry/api"
	"flurry/bag"
)

// names are some names, rising: alike but for the last byte, but for one in the midst, but for the first one, by bytes below and above 127.
func names() []api.ID {
	l := []api.ID{{}, {31: 1}, {31: 2}, {31: 127}, {31: 128}, {31: 255}, {30: 1}, {17: 128}, {1: 1, 31: 9}, {1: 255}, {0: 1}, {0: 1, 31: 1}, {0: 1, 16: 3}, {0: 127, 1: 255}, {0: 128}, {0: 255}}
	last := api.ID{}
	for i := range last {
		last[i] = 255
	}
	return append(l, last)
}

// stranger is a name that is not among names, and stands between two of them.
var stranger = api.ID{17: 129}

// tally counts ids by the chapter's words alone: of each name of rising how often it stands there, if it does at all.
func tally(rising, ids []api.ID) []api.Vote {
	var l []api.Vote
	for _, name := range rising {
		n := 0
		for _, id := range ids {
			if id == name {
				n++
			}
		}
		if n > 0 {
			l = append(l, api.Vote{ID: name, N: n})
		}
	}
	return l
}

// listed are the names of a bag, each as often as it has votes.
func listed(l []api.Vote) []api.ID {
	var ids []api.ID
	for _, vote := range l {
		ids = append(ids, slices.Repeat([]api.ID{vote.ID}, vote.N)...)
	}
	return ids
}

// draw takes n of some names, in any order.
func draw(r *rand.Rand, from []api.ID, n int) []api.ID {
	var ids []api.ID
	for range n {
		ids = append(ids, from[r.IntN(len(from))])
	}
	return ids
}

// smallBags have at most some 60 votes.
func smallBags() [][]api.Vote {
	all := names()
	l := [][]api.Vote{nil, {}, {{ID: all[0], N: 1}}, {{ID: all[0], N: 3}, {ID: all[1], N: 3}}, {{ID: all[16], N: 40}}, tally(all, all)}
	r := rand.New(rand.NewPCG(7, 1))
	for i := range 100 {
		l = append(l, tally(all, draw(r, all[:1+i%len(all)], r.IntN(50))))
	}
	return l
}

// greatBags have as many votes as there may be, or one less.
func greatBags() [][]api.Vote {
	all := names()
	return [][]api.Vote{
		{{ID: all[0], N: api.MaxVotes}},
		{{ID: all[3], N: api.MaxVotes - 1}},
		{{ID: all[3], N: api.MaxVotes - 1}, {ID: all[7], N: 1}},
		{{ID: all[2], N: 1}, {ID: all[9], N: api.MaxVotes - 2}, {ID: all[16], N: 1}},
		{{ID: all[2], N: api.MaxVotes / 2}, {ID: all[9], N: api.MaxVotes/2 - 1}},
		{{ID: all[2], N: api.MaxVotes / 2}, {ID: all[9], N: api.MaxVotes / 2}},
	}
}

// someBags may be, one and all.
func someBags() [][]api.Vote { return append(smallBags(), greatBags()...) }

// badBags may not be: by a number, by numbers together, by their names' order.
func badBags() [][]api.Vote {
	a, b, c := names()[1], names()[2], names()[3]
	l := [][]api.Vote{
		{{ID: a, N: 1}, {ID: a, N: 1}},
		{{ID: b, N: 1}, {ID: a, N: 1}},
		{{ID: a, N: 1}, {ID: b, N: 1}, {ID: b, N: 1}},
		{{ID: a, N: 1}, {ID: c, N: 1}, {ID: b, N: 1}},
		{{ID: b, N: 1}, {ID: a, N: 1}, {ID: c, N: 1}},
		{{ID: a, N: api.MaxVotes}, {ID: b, N: 1}},
		{{ID: a, N: 1}, {ID: b, N: api.MaxVotes}},
		{{ID: a, N: api.MaxVotes / 2}, {ID: b, N: api.MaxVotes / 2}, {ID: c, N: 1}},
		{{ID: a, N: api.MaxVotes}, {ID: b, N: -1}},
		{{ID: a, N: math.MaxInt}, {ID: b, N: math.MaxInt}, {ID: c, N: 3}}, // one, where a sum wraps round
		{{ID: a, N: 1}, {ID: b, N: math.MaxInt}},
		{{ID: a, N: 1}, {ID: b, N: math.MaxInt}, {ID: c, N: math.MaxInt}},
	}
	for _, n := range []int{0, -1, math.MinInt, api.MaxVotes + 1, math.MaxInt} {
		l = append(l, []api.Vote{{ID: a, N: n}}, []api.Vote{{ID: a, N: n}, {ID: b, N: 1}}, []api.Vote{{ID: a, N: 1}, {ID: b, N: n}})
	}
	return l
}

func told(l []api.Vote, n int) []api.ID {
	var ids []api.ID
	for id := range bag.AtLeast(l, n) {
		ids = append(ids, id)
	}
	return ids
}
