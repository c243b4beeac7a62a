package block_test

import (
	"bytes"
	"fmt"
	"math/rand/v2"
	"slices"
	"testing"

	"flurry/api"
	"flurry/block"
)

// P3.1: blocks that may be, at all edges.
func TestCheckOfBlocksThatMayBe(t *testing.T) {
	for _, b := range goodBlocks() {
		if e := block.Check(b); e != api.OK {
			t.Errorf("%s: %d", told(b), e)
		}
	}
	if e := block.Check(api.Block{Data: []byte{}}); e != api.OK {
		t.Errorf("no data, not nil: %d", e)
	}
}

// P3.1: blocks that may not be: a height below 0, data that are too long, a first block with a parent.
func TestCheckOfBlocksThatMayNotBe(t *testing.T) {
	for _, b := range badBlocks() {
		if e := block.Check(b); e != api.ErrBlock {
			t.Errorf("%s: %d", told(b), e)
		}
	}
}

// P3.1, R4: Same holds any blocks against each other by all three of their fields.
func TestSame(t *testing.T) {
	l := append(goodBlocks(), badBlocks()...)
	for i, a := range l {
		if !block.Same(a, copied(a)) {
			t.Errorf("%s is not the same as itself", told(a))
		}
		for j, b := range l {
			if got, want := block.Same(a, b), alike(a, b); got != want {
				t.Errorf("%s and %s (%d and %d): %v", told(a), told(b), i, j, got)
			}
		}
	}
	if !block.Same(api.Block{}, api.Block{Data: []byte{}}) {
		t.Error("empty data and nil are not the same")
	}
}

// P3.1: one field that differs, in one byte, is enough.
func TestSameButForOneByte(t *testing.T) {
	a := api.Block{Parent: filled(7), Height: 5, Data: ramp(20)}
	for i := range a.Parent {
		b := copied(a)
		b.Parent[i]++
		mustDiffer(t, a, b)
	}
	for i := range a.Data {
		b := copied(a)
		b.Data[i]++
		mustDiffer(t, a, b)
		mustDiffer(t, a, api.Block{Parent: a.Parent, Height: a.Height, Data: a.Data[:i]})
	}
	for bit := range 64 {
		b := copied(a)
		b.Height ^= 1 << bit
		mustDiffer(t, a, b)
	}
}

func mustDiffer(t *testing.T, a, b api.Block) {
	t.Helper()
	if block.Same(a, b) || block.Same(b, a) {
		t.Errorf("%s and %s are the same", told(a), told(b))
	}
}

// P3.1, R3: a clone is the same, of any block, and neither sees the other's changes.
func TestClone(t *testing.T) {
	for _, b := range append(goodBlocks(), badBlocks()...) {
		was := copied(b)
		c := block.Clone(b)
		if !alike(c, was) || !alike(b, was) {
			t.Fatalf("%s: a clone is %s", told(was), told(c))
		}
		if len(b.Data) == 0 {
			continue
		}
		b.Data[0]++
		if !alike(c, was) {
			t.Errorf("%s: the clone saw a change", told(was))
		}
		b.Data[0]--
		c.Data[len(c.Data)-1]++
		_ = append(c.Data, 1)
		if !alike(b, was) {
			t.Errorf("%s: the block saw the clone's change", told(was))
		}
	}
}

// P3.1, R3: a piece of a longer list is cloned without what is behind it.
func TestCloneOfAPieceOfAList(t *testing.T) {
	list := []byte{1, 2, 3, 4}
	c := block.Clone(api.Block{Data: list[:2]})
	_ = append(c.Data, 99)
	if !bytes.Equal(list, []byte{1, 2, 3, 4}) {
		t.Errorf("the list was written to: %v", list)
	}
}

// P3.1: a first block has its data, the height 0 and no parent, and data may be up to MaxData.
func TestFirst(t *testing.T) {
	for n := range api.MaxData + 1 {
		b, e := block.First(ramp(n))
		if e != api.OK || !alike(b, api.Block{Data: ramp(n)}) || block.Check(b) != api.OK {
			t.Errorf("%d data: %s %d", n, told(b), e)
		}
	}
	if b, e := block.First(nil); e != api.OK || !isZero(b) {
		t.Errorf("no data: %s %d", told(b), e)
	}
	for _, n := range []int{api.MaxData + 1, api.MaxData + 2, 256, 1 << 20} {
		if b, e := block.First(ramp(n)); e != api.ErrBlock || !isZero(b) {
			t.Errorf("%d data: %s %d", n, told(b), e)
		}
	}
}

// P3.1, R3: a first block's data are its own.
func TestFirstIsACopy(t *testing.T) {
	data := []byte{1, 2, 3}
	b, _ := block.First(data[:2])
	data[0] = 99
	b.Data[1] = 98
	_ = append(b.Data, 97)
	if !bytes.Equal(b.Data, []byte{1, 98}) || !bytes.Equal(data, []byte{99, 2, 3}) {
		t.Errorf("%v of %v", b.Data, data)
	}
}

// P3.2: a block's bytes are of the form that the chapter tells.
func TestBytes(t *testing.T) {
	for _, b := range goodBlocks() {
		if l, e := block.Bytes(b); e != api.OK || !bytes.Equal(l, formed(b)) {
			t.Errorf("%s: %v %d", told(b), l, e)
		}
	}
}

// P3.2: the chapter's example, and one block byte for byte.
func TestBytesOfExamples(t *testing.T) {
	g, _ := block.First([]byte("g"))
	l, e := block.Bytes(g)
	if e != api.OK || !bytes.Equal(l, append(make([]byte, 42), 0, 0, 0, 1, 103)) {
		t.Errorf("First(g): %v %d", l, e)
	}
	b := api.Block{Parent: api.ID(ramp(32)), Height: 0x4142434445464748, Data: []byte{200, 0}}
	want := slices.Concat([]byte{0, 0}, ramp(32), []byte{0x41, 0x42, 0x43, 0x44, 0x45, 0x46, 0x47, 0x48}, []byte{0, 0, 0, 2, 200, 0})
	if l, e := block.Bytes(b); e != api.OK || !bytes.Equal(l, want) {
		t.Errorf("%v %d, want %v", l, e, want)
	}
}

// P3.2: a block that may not be has neither bytes nor a name, and its bytes are no block's.
func TestBytesOfBlocksThatMayNotBe(t *testing.T) {
	for _, b := range badBlocks() {
		if l, e := block.Bytes(b); e != api.ErrBlock || len(l) != 0 {
			t.Errorf("Bytes of %s: %v %d", told(b), l, e)
		}
		if id, e := block.ID(b); e != api.ErrBlock || id != (api.ID{}) {
			t.Errorf("ID of %s: %x %d", told(b), id, e)
		}
		mustNotParse(t, formed(b))
	}
}

// P3.2: a name is the SHA-256 of the bytes.
func TestID(t *testing.T) {
	for _, b := range goodBlocks() {
		if id, e := block.ID(b); e != api.OK || id != named(b) {
			t.Errorf("%s: %x %d", told(b), id, e)
		}
	}
	g, _ := block.First([]byte("g"))
	id, _ := block.ID(g)
	if got := fmt.Sprintf("%x", id); got != nameOfG {
		t.Errorf("First(g): %s", got)
	}
}

// nameOfG is what a tool outside the project says of the example's bytes.
const nameOfG = "cb6d8f0f83b7a6fdf1290ad1d5c5265768ae16d89cf87e787a61f23c49914da6"

func mustNotParse(t *testing.T, l []byte) {
	t.Helper()
	if b, e := block.Parse(l); e != api.ErrBlock || !isZero(b) {
		t.Errorf("%.60x: %s %d", l, told(b), e)
	}
}

// P3.4: Parse of Bytes is the block, Bytes of Parse the bytes; they are BlockHead and the data.
func TestThereAndBack(t *testing.T) {
	for _, b := range goodBlocks() {
		l, e := block.Bytes(b)
		if e != api.OK || len(l) != api.BlockHead+len(b.Data) {
			t.Fatalf("%s: %d bytes, %d", told(b), len(l), e)
		}
		back, e := block.Parse(l)
		if e != api.OK || !alike(back, b) {
			t.Errorf("%s: %s %d", told(b), told(back), e)
		}
		if again, e := block.Bytes(back); e != api.OK || !bytes.Equal(again, l) {
			t.Errorf("%s: %v %d", told(b), again, e)
		}
	}
}

// P3.2: a block's bytes with fewer, or with more behind them, are none.
func TestParseOfOtherLengths(t *testing.T) {
	for _, n := range []int{0, 1, 7, api.MaxData} {
		l := formed(api.Block{Parent: filled(7), Height: 5, Data: ramp(n)})
		for cut := range l {
			mustNotParse(t, l[:cut])
		}
		mustNotParse(t, append(bytes.Clone(l), 0))
		mustNotParse(t, append(bytes.Clone(l), 1, 2))
		mustNotParse(t, append(bytes.Clone(l), l...))
		mustNotParse(t, append(bytes.Clone(l), make([]byte, 1<<20)...))
	}
	mustNotParse(t, nil)
	mustNotParse(t, []byte{})
}

// P3.2: the two bytes at the beginning are noughts.
func TestParseOfOtherBeginnings(t *testing.T) {
	l := formed(api.Block{Parent: filled(7), Height: 5, Data: ramp(9)})
	for at := range 2 {
		for v := 1; v < 256; v++ {
			other := bytes.Clone(l)
			other[at] = byte(v)
			mustNotParse(t, other)
		}
	}
}

// P3.2: how many data there are is just how many follow, up to MaxData.
func TestParseOfOtherCounts(t *testing.T) {
	for _, n := range []int{0, 1, 9, api.MaxData} {
		l := formed(api.Block{Height: 5, Data: ramp(n)})
		for at := range 4 {
			for v := 1; v < 256; v++ {
				other := bytes.Clone(l)
				other[42+at] ^= byte(v)
				mustNotParse(t, other)
			}
		}
	}
	for _, n := range []int{api.MaxData + 1, api.MaxData + 2, 255, 256, 65536} {
		mustNotParse(t, formed(api.Block{Height: 5, Data: ramp(n)}))
	}
}

// P3.2: what is beyond a height is none.
func TestParseOfOtherHeights(t *testing.T) {
	l := formed(api.Block{Parent: filled(7), Height: 5, Data: ramp(9)})
	for v := 128; v < 256; v++ {
		other := bytes.Clone(l)
		other[34] = byte(v)
		mustNotParse(t, other)
	}
	clear(l[34:42])
	mustNotParse(t, l)
	clear(l[2:34])
	if b, e := block.Parse(l); e != api.OK || !alike(b, api.Block{Data: ramp(9)}) {
		t.Errorf("a first block: %s %d", told(b), e)
	}
}

// P3.2, P3.4: what Parse takes of bytes that were changed at random has just these bytes, and what it leaves is none.
func TestParseOfChangedBytes(t *testing.T) {
	r := rand.New(rand.NewPCG(3, 4))
	good := goodBlocks()
	taken := 0
	for range 50000 {
		l := formed(good[r.IntN(len(good))])
		for range 1 + r.IntN(2) {
			l[r.IntN(len(l))] = byte(r.Uint32())
		}
		if !isFormed(l) {
			mustNotParse(t, l)
			continue
		}
		taken++
		if b, e := block.Parse(l); e != api.OK || block.Check(b) != api.OK || !bytes.Equal(formed(b), l) {
			t.Fatalf("%x: %s %d", l, told(b), e)
		}
	}
	if taken == 0 || taken == 50000 {
		t.Errorf("%d of all are blocks' bytes", taken)
	}
}

// P3.5: unlike blocks have unlike bytes, and unlike names.
func TestApart(t *testing.T) {
	seen, names := map[string]int{}, map[api.ID]int{}
	for i, b := range goodBlocks() {
		l, _ := block.Bytes(b)
		id, _ := block.ID(b)
		if j, ok := seen[string(l)]; ok {
			t.Errorf("%d and %d have the same bytes: %x", i, j, l)
		}
		if j, ok := names[id]; ok {
			t.Errorf("%d and %d have the same name: %x", i, j, id)
		}
		seen[string(l)], names[id] = i, i
	}
}

// R3: what is answered is nobody else's: neither Bytes's answer nor Parse's shares memory with an argument or another answer.
func TestAnswersAreCopies(t *testing.T) {
	b := api.Block{Parent: filled(7), Height: 5, Data: ramp(9)}
	l, _ := block.Bytes(b)
	other, _ := block.Bytes(b)
	clear(l)
	if !bytes.Equal(other, formed(b)) || !bytes.Equal(b.Data, ramp(9)) {
		t.Error("Bytes shares memory")
	}
	first, _ := block.Parse(other)
	second, _ := block.Parse(other)
	clear(first.Data)
	_ = append(first.Data, 99)
	if !alike(second, b) || !bytes.Equal(other, formed(b)) {
		t.Error("Parse's answers share memory")
	}
	clear(other)
	if !alike(second, b) {
		t.Error("Parse shares memory with its bytes")
	}
}
