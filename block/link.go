package block

import (
	"iter"
	"math"
	"slices"

	"flurry/api"
)

// Child is a child of a block, Linked tells whether one is, Row how many are linked, Parents goes through parents.
func Child(parent api.Block, data []byte) (api.Block, api.Errno) {
	name, e := ID(parent)
	if e != api.OK {
		return api.Block{}, e
	}
	if parent.Height == math.MaxInt64 {
		return api.Block{}, api.ErrBlock
	}
	return made(api.Block{Parent: name, Height: parent.Height + 1, Data: data})
}

func Linked(child, parent api.Block) api.Errno {
	if e := Check(child); e != api.OK {
		return e
	}
	name, e := ID(parent)
	if e != api.OK {
		return e
	}
	if child.Parent != name || child.Height-1 != parent.Height { // one more than the parent's could wrap round
		return api.ErrLink
	}
	return api.OK
}

func Row(l ...api.Block) (int, api.Errno) {
	for i, b := range l {
		e := Check(b)
		if e == api.OK && i > 0 {
			e = Linked(l[i-1], b)
		}
		if e != api.OK {
			return i, e
		}
	}
	return len(l), api.OK
}

func Parents(l ...api.Block) iter.Seq[api.ID] {
	told := slices.Collect(parentsOf(slices.Values(l))) // at once, as l's owner may change it ahead of a range
	return slices.Values(told)
}

// parentsOf goes through the Parents of what another function goes through.
func parentsOf(blocks iter.Seq[api.Block]) iter.Seq[api.ID] {
	return func(yield func(api.ID) bool) {
		for b := range blocks {
			if !yield(b.Parent) {
				return
			}
		}
	}
}
