package bag

import (
	"iter"
	"slices"

	"flurry/api"
)

// Count is a name's votes, Total all votes, Mode the most, AtLeast goes through the names with so many.
func Count(l []api.Vote, id api.ID) int {
	if Check(l) != api.OK {
		return 0
	}
	at, there := place(l, id)
	if !there {
		return 0
	}
	return l[at].N
}

func Total(l []api.Vote) int {
	total, _ := sum(l) // 0 beside an error
	return total
}

func Mode(l []api.Vote) (api.ID, int) {
	if Check(l) != api.OK {
		return api.ID{}, 0
	}
	var most api.Vote
	for _, vote := range l {
		if vote.N > most.N { // names rise, so of several the first one is the least
			most = vote
		}
	}
	return most.ID, most.N
}

func AtLeast(l []api.Vote, n int) iter.Seq[api.ID] {
	var told []api.Vote
	if Check(l) == api.OK {
		told = slices.Clone(l) // now, as l may be written to ahead of the range
	}
	return func(yield func(api.ID) bool) {
		for _, vote := range told {
			if vote.N >= n && !yield(vote.ID) {
				return
			}
		}
	}
}
