package pack_test

import (
	"bytes"
	"cmp"
	"math"
	"testing"

	"flurry/api"
	"flurry/pack"
)

// allRows are rows of parts of all kinds: the edges, one by one and together, and many random ones.
func allRows() [][]part {
	rows := append(randomRows(400), nil, edgeParts())
	for _, x := range edgeParts() {
		rows = append(rows, []part{x}, []part{x, x})
	}
	return rows
}

func packed(t *testing.T, l []part) []byte {
	t.Helper()
	p := pack.New(api.MaxPack)
	putAll(p, l)
	b, e := p.Out()
	if e != api.OK {
		t.Fatalf("%s: %v", names(l), e)
	}
	return b
}

// P1.3: what was put is taken in the same order, with nothing left.
func TestThereAndBack(t *testing.T) {
	for _, row := range allRows() {
		b := packed(t, row)
		if !bytes.Equal(b, joined(row)) {
			t.Errorf("%s: %v", names(row), b)
		}
		u := pack.Read(b)
		for i, x := range row {
			if !x.right(u) {
				t.Errorf("%s: place %d: another value was taken", names(row), i)
			}
		}
		mustBeLeft(t, u, api.OK, 0)
	}
}

// P1.3: a packer that is full to MaxPack comes back whole.
func TestThereAndBackOfAllRoom(t *testing.T) {
	for _, x := range []part{fixedPart(ramp(api.MaxPack)), bytesPart(ramp(api.MaxPack - 4)), textPart(string(ramp(api.MaxPack - 2)))} {
		u := pack.Read(packed(t, []part{x}))
		if !x.right(u) {
			t.Errorf("%s: another value was taken", x.name)
		}
		mustBeLeft(t, u, api.OK, 0)
	}
}

// edgeNumbers are numbers at the edges of each width, cut to a number of bits.
func edgeNumbers(bits int) []uint64 {
	l := []uint64{0, 1, 2, 0x0102030405060708, 0x0807060504030201, math.MaxUint64, math.MaxUint64 - 1}
	for i := range 64 {
		l = append(l, 1<<i-1, 1<<i, 1<<i+1)
	}
	for i := range l {
		l[i] &= math.MaxUint64 >> (64 - bits)
	}
	return l
}

// P1.4: of two numbers of one width the lesser one's bytes stand ahead.
func TestOrder(t *testing.T) {
	kinds := map[int]func(v uint64) part{
		8:  func(v uint64) part { return bytePart(uint8(v)) },
		16: func(v uint64) part { return shortPart(uint16(v)) },
		32: func(v uint64) part { return intPart(uint32(v)) },
		64: func(v uint64) part { return longPart(v) },
	}
	for bits, kind := range kinds {
		l := edgeNumbers(bits)
		written := make([][]byte, len(l))
		for i, v := range l {
			written[i] = packed(t, []part{kind(v)})
			if len(written[i]) != bits/8 {
				t.Errorf("%d bits: %d has the bytes %v", bits, v, written[i])
			}
		}
		for i, v := range l {
			for j, w := range l {
				if bytes.Compare(written[i], written[j]) != cmp.Compare(v, w) {
					t.Errorf("%d bits: %d and %d: %v and %v", bits, v, w, written[i], written[j])
				}
			}
		}
	}
}

// P1.5: what two packers have, one behind the other, is what one has into which all was put, if there is just room.
func TestInParts(t *testing.T) {
	for _, row := range allRows() {
		whole := joined(row)
		for cut := range len(row) + 1 {
			both := append(packed(t, row[:cut]), packed(t, row[cut:])...)
			if len(whole) > api.MaxPack {
				t.Fatalf("%s: more than MaxPack", names(row))
			}
			p := pack.New(len(whole))
			putAll(p, row)
			mustHold(t, p, both)
		}
	}
}

// P1.5: if the limit is not enough for both, one packer has an error.
func TestInPartsWithoutRoom(t *testing.T) {
	for _, row := range allRows() {
		n := len(joined(row))
		if n == 0 {
			continue
		}
		p := pack.New(n - 1)
		putAll(p, row)
		if b, e := p.Out(); e != api.ErrRoom || p.Err() != api.ErrRoom || len(b) != 0 {
			t.Errorf("%s: %v %v", names(row), b, e)
		}
	}
}

// P1.6: of the first bytes of what was put, fewer than all, not all can be taken.
func TestCutOff(t *testing.T) {
	for _, row := range allRows() {
		b := packed(t, row)
		for n := range b {
			u := pack.Read(b[:n])
			for _, x := range row {
				x.right(u)
			}
			if u.Err() != api.ErrShort || u.End() != api.ErrShort {
				t.Fatalf("%s: the first %d of %d bytes: Err %d, End %d", names(row), n, len(b), u.Err(), u.End())
			}
		}
	}
}

// P1.6: what is ahead of the cut is still taken as it was put.
func TestCutOffBehindAPart(t *testing.T) {
	for _, row := range randomRows(100) {
		for cut := range row {
			u := pack.Read(joined(row[:cut]))
			for _, x := range row[:cut] {
				if !x.right(u) {
					t.Errorf("%s: another value was taken", x.name)
				}
			}
			mustBeLeft(t, u, api.OK, 0)
		}
	}
}

// R6: the same calls answer the same, in the same process too.
func TestSameCallsSameAnswers(t *testing.T) {
	for _, row := range randomRows(50) {
		if a, b := packed(t, row), packed(t, row); !bytes.Equal(a, b) {
			t.Errorf("%s: %v and %v", names(row), a, b)
		}
	}
}
