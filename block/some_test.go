package block_test

import (
	"bytes"
	"crypto/sha256"
	"encoding/binary"
	"fmt"
	"math"
	"math/rand/v2"
	"slices"
	"testing"

	"flurry/api"
	"flurry/block"
)

// ramp is n bytes none of which is like the one beside it.
func ramp(n int) []byte {
	b := make([]byte, n)
	for i := range b {
		b[i] = byte(i + 1)
	}
	return b
}

// filled is a name all of whose bytes are v.
func filled(v byte) api.ID {
	var id api.ID
	for i := range id {
		id[i] = v
	}
	return id
}

// goodBlocks are unlike blocks that may be, at the edges and at random, the same in each run.
func goodBlocks() []api.Block {
	var l []api.Block
	for _, data := range [][]byte{nil, {0}, {0, 0}, {1}, {103}, ramp(api.MaxData - 1), ramp(api.MaxData), make([]byte, api.MaxData)} {
		l = append(l, api.Block{Data: data})
		for _, height := range []int64{1, 2, 255, 256, 0x0102030405060708, math.MaxInt64 - 1, math.MaxInt64} {
			for _, parent := range []api.ID{{}, {0: 1}, {31: 1}, api.ID(ramp(32)), filled(255)} {
				l = append(l, api.Block{Parent: parent, Height: height, Data: data})
			}
		}
	}
	r := rand.New(rand.NewPCG(1, 2))
	for range 100 {
		b := api.Block{Height: 1 + r.Int64N(math.MaxInt64), Data: make([]byte, 3+r.IntN(api.MaxData-2))}
		for i := range b.Parent {
			b.Parent[i] = byte(r.Uint32())
		}
		for i := range b.Data {
			b.Data[i] = byte(r.Uint32())
		}
		l = append(l, b)
	}
	return l
}

// badBlocks are blocks that may not be, each for one reason or for several.
func badBlocks() []api.Block {
	l := []api.Block{
		{Height: -1}, {Height: -2, Data: []byte{1}}, {Height: math.MinInt64}, {Height: -1, Parent: filled(7)},
		{Data: ramp(api.MaxData + 1)}, {Height: 1, Data: make([]byte, api.MaxData+1)},
		{Height: 5, Parent: filled(7), Data: make([]byte, 1<<20)}, {Height: math.MaxInt64, Data: ramp(api.MaxData + 1)},
		{Parent: filled(7), Data: ramp(api.MaxData + 1)}, {Height: -1, Parent: filled(7), Data: ramp(api.MaxData + 1)},
	}
	for i := range len(api.ID{}) {
		var low, high api.ID
		low[i], high[i] = 1, 128
		l = append(l, api.Block{Parent: low}, api.Block{Parent: high, Data: []byte{9}})
	}
	return l
}

// formed is a block's bytes by another way than the package's, that asks nothing of the block.
func formed(b api.Block) []byte {
	l := append([]byte{0, 0}, b.Parent[:]...)
	l = binary.BigEndian.AppendUint64(l, uint64(b.Height))
	l = binary.BigEndian.AppendUint32(l, uint32(len(b.Data)))
	return append(l, b.Data...)
}

// isFormed tells whether bytes are just those of a block that may be, by their places.
func isFormed(l []byte) bool {
	if len(l) < api.BlockHead || len(l) > api.BlockHead+api.MaxData || l[0] != 0 || l[1] != 0 || l[34] > 127 {
		return false
	}
	first := bytes.Equal(l[34:42], make([]byte, 8))
	if first && !bytes.Equal(l[2:34], make([]byte, 32)) {
		return false
	}
	return uint64(binary.BigEndian.Uint32(l[42:46])) == uint64(len(l)-api.BlockHead)
}

// named is a block's name by another way than the package's.
func named(b api.Block) api.ID { return sha256.Sum256(formed(b)) }

// alike holds two blocks against each other without a call of the package.
func alike(a, b api.Block) bool {
	return a.Parent == b.Parent && a.Height == b.Height && bytes.Equal(a.Data, b.Data)
}

func isZero(b api.Block) bool { return alike(b, api.Block{}) }

// told is a block's short text for a failure.
func told(b api.Block) string {
	return fmt.Sprintf("{%x.. %d, %d data}", b.Parent[:2], b.Height, len(b.Data))
}

// copied is a block in memory of its own, made without a call of the package.
func copied(b api.Block) api.Block {
	b.Data = append([]byte{}, b.Data...)
	return b
}

func copiedAll(l []api.Block) []api.Block {
	var r []api.Block
	for _, b := range l {
		r = append(r, copied(b))
	}
	return r
}

// rowOf is a row of so many blocks, the newest one first, made without a call of the package.
func rowOf(many int, data ...byte) []api.Block {
	var l []api.Block
	for i := range many {
		b := api.Block{Height: int64(i), Data: append([]byte{byte(i)}, data...)}
		if i > 0 {
			b.Parent = named(l[i-1])
		}
		l = append(l, b)
	}
	slices.Reverse(l)
	return l
}

func mustChild(t *testing.T, parent api.Block, data []byte) api.Block {
	t.Helper()
	b, e := block.Child(parent, data)
	if e != api.OK {
		t.Fatalf("a child of %s: %d", told(parent), e)
	}
	return b
}
