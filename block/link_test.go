package block_test

import (
	"bytes"
	"iter"
	"math"
	"slices"
	"testing"

	"flurry/api"
	"flurry/block"
)

// P3.3: a child has its parent's name, one height more, and its data.
func TestChild(t *testing.T) {
	for _, parent := range goodBlocks() {
		if parent.Height == math.MaxInt64 {
			continue
		}
		for _, data := range [][]byte{nil, {7}, ramp(api.MaxData)} {
			want := api.Block{Parent: named(parent), Height: parent.Height + 1, Data: data}
			b, e := block.Child(parent, data)
			if e != api.OK || !alike(b, want) {
				t.Errorf("%s: %s %d", told(parent), told(b), e)
			}
			if e := block.Linked(b, parent); e != api.OK {
				t.Errorf("%s: its child is not linked: %d", told(parent), e)
			}
		}
	}
}

// P3.3: the chapter's example.
func TestChildOfExample(t *testing.T) {
	g, _ := block.First([]byte("g"))
	if b := mustChild(t, g, []byte("a")); b.Height != 1 || string(b.Data) != "a" || b.Parent != named(g) {
		t.Errorf("%s", told(b))
	}
}

// P3.3: no child of a parent that may not be or is the highest there is, and none with data that are too long.
func TestNoChild(t *testing.T) {
	for _, parent := range badBlocks() {
		mustHaveNoChild(t, parent, nil)
		mustHaveNoChild(t, parent, []byte{1})
	}
	for _, parent := range goodBlocks() {
		if parent.Height == math.MaxInt64 {
			mustHaveNoChild(t, parent, nil)
			mustHaveNoChild(t, parent, []byte{1})
		}
		mustHaveNoChild(t, parent, ramp(api.MaxData+1))
	}
	mustHaveNoChild(t, api.Block{}, make([]byte, 1<<20))
}

func mustHaveNoChild(t *testing.T, parent api.Block, data []byte) {
	t.Helper()
	if b, e := block.Child(parent, data); e != api.ErrBlock || !isZero(b) {
		t.Errorf("%s with %d data: %s %d", told(parent), len(data), told(b), e)
	}
}

// P3.3, R3: a child's data are its own.
func TestChildIsACopy(t *testing.T) {
	data := []byte{1, 2, 3}
	b := mustChild(t, api.Block{}, data[:2])
	data[0] = 99
	b.Data[1] = 98
	_ = append(b.Data, 97)
	if !bytes.Equal(b.Data, []byte{1, 98}) || !bytes.Equal(data, []byte{99, 2, 3}) {
		t.Errorf("%v of %v", b.Data, data)
	}
}

func mustBeLinked(t *testing.T, child, parent api.Block, want api.Errno) {
	t.Helper()
	if e := block.Linked(child, parent); e != want {
		t.Errorf("%s and %s: %d, want %d", told(child), told(parent), e, want)
	}
}

// P3.3: one that is no child in just one way: by its name, its height, or its parent's data.
func TestLinked(t *testing.T) {
	for _, height := range []int64{1, 2, 5, math.MaxInt64 - 1} {
		parent := api.Block{Parent: filled(7), Height: height, Data: []byte{1}}
		child := api.Block{Parent: named(parent), Height: height + 1, Data: []byte{2}}
		mustBeLinked(t, child, parent, api.OK)
		for i := range child.Parent {
			other := child
			other.Parent[i] ^= 1
			mustBeLinked(t, other, parent, api.ErrLink)
		}
		for _, h := range []int64{1, height, height - 1, height + 2, math.MaxInt64} {
			if h > 0 && h != child.Height {
				mustBeLinked(t, api.Block{Parent: child.Parent, Height: h}, parent, api.ErrLink)
			}
		}
		mustBeLinked(t, child, api.Block{Parent: filled(7), Height: height, Data: []byte{3}}, api.ErrLink)
		mustBeLinked(t, child, api.Block{Parent: filled(8), Height: height, Data: []byte{1}}, api.ErrLink)
		mustBeLinked(t, parent, child, api.ErrLink)
		mustBeLinked(t, child, child, api.ErrLink)
	}
}

// P3.3: a block that may be is the highest's child, but none of the least height's; heights don't wrap round.
func TestLinkedAtTheEnds(t *testing.T) {
	top := api.Block{Parent: filled(7), Height: math.MaxInt64}
	mustBeLinked(t, api.Block{}, top, api.ErrLink)
	mustBeLinked(t, api.Block{Parent: named(top), Height: 1}, top, api.ErrLink)
	mustBeLinked(t, api.Block{Parent: named(top), Height: math.MinInt64}, top, api.ErrBlock)
	mustBeLinked(t, api.Block{}, api.Block{}, api.ErrLink)
	mustBeLinked(t, api.Block{Height: 1}, api.Block{}, api.ErrLink)
	mustBeLinked(t, api.Block{Data: []byte{1}}, api.Block{Height: 1}, api.ErrLink)
	below := api.Block{Parent: filled(7), Height: math.MaxInt64 - 1}
	mustBeLinked(t, api.Block{Parent: named(below), Height: math.MaxInt64}, below, api.OK)
}

// P3.3: that one may not be comes ahead of their being no link.
func TestLinkedOfBlocksThatMayNotBe(t *testing.T) {
	parent := api.Block{Parent: filled(7), Height: 4}
	child := api.Block{Parent: named(parent), Height: 5}
	for _, b := range badBlocks() {
		mustBeLinked(t, b, parent, api.ErrBlock)
		mustBeLinked(t, child, b, api.ErrBlock)
		mustBeLinked(t, b, b, api.ErrBlock)
		mustBeLinked(t, api.Block{Parent: named(b), Height: b.Height + 1}, b, api.ErrBlock)
	}
	long := child
	long.Data = ramp(api.MaxData + 1)
	mustBeLinked(t, long, parent, api.ErrBlock)
}

func mustBeRow(t *testing.T, l []api.Block, many int, want api.Errno) {
	t.Helper()
	if n, e := block.Row(l...); n != many || e != want {
		t.Errorf("of %d blocks: %d %d, want %d %d", len(l), n, e, many, want)
	}
}

// P3.3: rows of any length, none among them, that are linked to the end.
func TestRow(t *testing.T) {
	mustBeRow(t, nil, 0, api.OK)
	mustBeRow(t, []api.Block{}, 0, api.OK)
	for _, b := range goodBlocks() {
		mustBeRow(t, []api.Block{b}, 1, api.OK)
	}
	for _, n := range []int{1, 2, 3, 50} {
		mustBeRow(t, rowOf(n), n, api.OK)
		mustBeRow(t, rowOf(n)[:n-1], n-1, api.OK)
	}
}

// P3.3: a row ends ahead of the first one that may not be, also where a link is missing there, too.
func TestRowUpToABlockThatMayNotBe(t *testing.T) {
	for at := range 6 {
		for _, bad := range badBlocks() {
			l := rowOf(6)
			l[at] = bad
			mustBeRow(t, l, at, api.ErrBlock)
			mustBeRow(t, append(l[:at+1:at+1], bad), at, api.ErrBlock)
		}
	}
	linked := rowOf(6)
	linked[2] = api.Block{Parent: filled(7), Height: 3, Data: ramp(api.MaxData + 1)}
	linked[1].Parent = named(linked[2])
	linked[0].Parent = named(linked[1])
	mustBeRow(t, linked, 2, api.ErrBlock)
}

// P3.3: a row ends ahead of the first one that is no parent of the one ahead of it.
func TestRowUpToAMissingLink(t *testing.T) {
	for at := 1; at < 6; at++ {
		l := rowOf(6)
		l[at].Data = []byte{99}
		mustBeRow(t, l, at, api.ErrLink)
		l = append(rowOf(6), api.Block{})
		mustBeRow(t, slices.Delete(l, at, at+1), at, api.ErrLink)
		l = rowOf(6)
		mustBeRow(t, slices.Insert(l, at, l[at-1]), at, api.ErrLink)
		l = rowOf(6)
		l[at-1].Height++
		mustBeRow(t, l[at-1:], 1, api.ErrLink)
	}
	mustBeRow(t, append(rowOf(3), rowOf(3)...), 3, api.ErrLink)
	mustBeRow(t, []api.Block{{}, {}}, 1, api.ErrLink)
}

// P3.3: what ends a row is the first fault, whatever stands behind it.
func TestRowEndsAtTheFirstFault(t *testing.T) {
	l := rowOf(6)
	l[2].Data, l[4].Height = []byte{99}, -1
	mustBeRow(t, l, 2, api.ErrLink)
	l = rowOf(6)
	l[2].Height, l[4].Data = -1, []byte{99}
	mustBeRow(t, l, 2, api.ErrBlock)
}

// P3.3: a row is newest first; turned it is none.
func TestRowTurned(t *testing.T) {
	l := rowOf(6)
	slices.Reverse(l)
	mustBeRow(t, l, 1, api.ErrLink)
}

// P3.6: a row of children, each made by Child of the one ahead of it, is a Row; cut anywhere both parts are.
func TestRowOfChildren(t *testing.T) {
	for _, first := range []api.Block{{}, {Data: ramp(api.MaxData)}, {Parent: filled(7), Height: math.MaxInt64 - 39}} {
		l := []api.Block{first}
		for i := range 39 {
			l = append(l, mustChild(t, l[i], ramp(i*5)))
		}
		slices.Reverse(l)
		for cut := range len(l) + 1 {
			mustBeRow(t, l[:cut], cut, api.OK)
			mustBeRow(t, l[cut:], len(l)-cut, api.OK)
		}
	}
}

// P3.3: the parents of any blocks, in order, one for each block.
func TestParents(t *testing.T) {
	for _, l := range [][]api.Block{nil, {}, {{}}, {{}, {}}, rowOf(9), goodBlocks(), badBlocks(), append(rowOf(3), rowOf(3)...)} {
		var want []api.ID
		for _, b := range l {
			want = append(want, b.Parent)
		}
		if got := slices.Collect(block.Parents(l...)); !slices.Equal(got, want) {
			t.Errorf("of %d blocks: %x, want %x", len(l), got, want)
		}
	}
	if block.Parents() == nil {
		t.Error("no iterator of no blocks")
	}
}

// firstOf is what an iterator tells up to the n-th.
func firstOf(n int, s iter.Seq[api.ID]) []api.ID {
	var l []api.ID
	for id := range s {
		l = append(l, id)
		if len(l) == n {
			break
		}
	}
	return l
}

// P3.3, R3: range over the parents may stop at any point, and be done again, and once within the other.
func TestParentsAgain(t *testing.T) {
	l := rowOf(5)
	s := block.Parents(l...)
	all := slices.Collect(block.Parents(l...))
	for n := 1; n <= len(l); n++ {
		if got := firstOf(n, s); !slices.Equal(got, all[:n]) {
			t.Errorf("the first %d: %x", n, got)
		}
		if got := slices.Collect(s); !slices.Equal(got, all) {
			t.Errorf("all, behind the first %d: %x", n, got)
		}
	}
	for id := range s {
		if got := slices.Collect(s); !slices.Equal(got, all) {
			t.Errorf("all, at %x: %x", id, got)
		}
	}
}

// P3.3, R3: the parents are those that were there when they were asked for, whatever the list's owner does.
func TestParentsOfThen(t *testing.T) {
	l := rowOf(5)
	all := slices.Collect(block.Parents(l...))
	s := block.Parents(l...)
	clear(l[1:])
	l[0].Parent = filled(9)
	if got := slices.Collect(s); !slices.Equal(got, all) {
		t.Errorf("%x, want %x", got, all)
	}
}

// R3: no call writes to what it is handed.
func TestArgumentsStay(t *testing.T) {
	for _, l := range [][]api.Block{rowOf(5, 1, 2, 3), goodBlocks(), badBlocks()} {
		was := copiedAll(l)
		block.Row(l...)
		firstOf(len(l), block.Parents(l...))
		for i, b := range l {
			next := l[(i+1)%len(l)]
			block.Check(b)
			block.Same(b, next)
			block.Bytes(b)
			block.ID(b)
			block.Linked(b, next)
			block.Child(b, next.Data)
			block.First(b.Data)
		}
		if !slices.EqualFunc(l, was, alike) {
			t.Error("an argument was written to")
		}
		bytesOf := formed(l[0])
		block.Parse(bytesOf)
		if !bytes.Equal(bytesOf, formed(l[0])) {
			t.Error("bytes were written to")
		}
	}
}

// R6: the same calls answer the same.
func TestSameCallsSameAnswers(t *testing.T) {
	for _, b := range append(goodBlocks(), badBlocks()...) {
		one, e := block.ID(b)
		two, f := block.ID(copied(b))
		if one != two || e != f {
			t.Errorf("%s: %x %d and %x %d", told(b), one, e, two, f)
		}
	}
}
