package pack_test

import (
	"bytes"
	"math"
	"strings"
	"testing"

	"flurry/api"
	"flurry/pack"
)

// P1.1: each kind has the form that the chapter says.
func TestPutForms(t *testing.T) {
	for _, x := range edgeParts() {
		t.Run(x.name, func(t *testing.T) {
			p := pack.New(api.MaxPack)
			x.put(p)
			mustHold(t, p, x.bytes)
		})
	}
}

// P1.1: the examples of the chapter, byte for byte.
func TestPutExamples(t *testing.T) {
	p := pack.New(api.MaxPack)
	p.Short(258)
	p.Bytes([]byte{7, 8})
	mustHold(t, p, []byte{1, 2, 0, 0, 0, 2, 7, 8})
	q := pack.New(api.MaxPack)
	q.Text("é")
	mustHold(t, q, []byte{0, 2, 195, 169})
}

// P1.1: what is put stands behind what was put, and Fixed puts any number of bytes alone.
func TestPutBehind(t *testing.T) {
	p := pack.New(api.MaxPack)
	mustHold(t, p, nil)
	p.Byte(1)
	p.Fixed()
	p.Fixed(2, 3)
	p.Short(0x0405)
	p.Int(0x06070809)
	p.Text("a")
	p.Bytes(nil)
	p.Long(0x0a0b0c0d0e0f1011)
	mustHold(t, p, []byte{1, 2, 3, 4, 5, 6, 7, 8, 9, 0, 1, 'a', 0, 0, 0, 0, 10, 11, 12, 13, 14, 15, 16, 17})
}

// P1.1: limits that may be, the least and the greatest one among them, let just so many bytes in.
func TestLimitsThatMayBe(t *testing.T) {
	for _, limit := range []int{0, 1, 2, 7, 4096, api.MaxPack - 1, api.MaxPack} {
		p := pack.New(limit)
		p.Fixed(ramp(limit)...)
		mustHold(t, p, ramp(limit))
		p.Fixed()
		mustHold(t, p, ramp(limit))
		p.Byte(1)
		mustFail(t, p, api.ErrRoom, limit)

		one := pack.New(limit)
		for i := range limit {
			one.Byte(byte(i + 1))
		}
		mustHold(t, one, ramp(limit))

		more := pack.New(limit)
		more.Fixed(ramp(limit + 1)...)
		mustFail(t, more, api.ErrRoom, 0)
	}
}

// P1.1: limits that may not be are an error from the beginning, which stays the first one.
func TestLimitsThatMayNotBe(t *testing.T) {
	for _, limit := range []int{-1, -2, math.MinInt, api.MaxPack + 1, 1 << 20, math.MaxInt} {
		p := pack.New(limit)
		mustFail(t, p, api.ErrArg, 0)
		for _, x := range edgeParts() {
			x.put(p)
			mustFail(t, p, api.ErrArg, 0)
		}
		p.Text(strings.Repeat("k", api.MaxText+1))
		mustFail(t, p, api.ErrArg, 0)
	}
}

// P1.1: what just fits is put; with one byte less of room nothing of it is, and nothing behind it.
func TestPutWholeOrNot(t *testing.T) {
	for _, x := range edgeParts() {
		t.Run(x.name, func(t *testing.T) {
			fits := pack.New(3 + len(x.bytes))
			fits.Fixed(1, 2, 3)
			x.put(fits)
			mustHold(t, fits, append([]byte{1, 2, 3}, x.bytes...))
			for lack := 1; lack <= len(x.bytes); lack++ {
				p := pack.New(3 + len(x.bytes) - lack)
				p.Fixed(1, 2, 3)
				x.put(p)
				mustFail(t, p, api.ErrRoom, 3)
				p.Fixed()
				p.Byte(4)
				mustFail(t, p, api.ErrRoom, 3)
			}
		})
	}
}

// P1.1: behind an error nothing of any kind is put, though it would fit.
func TestNothingBehindAnError(t *testing.T) {
	for _, x := range edgeParts() {
		p := pack.New(api.MaxPack)
		p.Byte(1)
		p.Text(strings.Repeat("k", api.MaxPack))
		mustFail(t, p, api.ErrRoom, 1)
		x.put(p)
		mustFail(t, p, api.ErrRoom, 1)
	}
}

// P1.1: a text of MaxText bytes is only too great for the room, one of a byte more is too long, whatever the room.
func TestLongTexts(t *testing.T) {
	most := strings.Repeat("k", api.MaxText)
	for _, limit := range []int{0, 9, api.MaxPack} {
		p := pack.New(limit)
		p.Text(most)
		mustFail(t, p, api.ErrRoom, 0)
		q := pack.New(limit)
		q.Text(most + "k")
		mustFail(t, q, api.ErrLong, 0)
	}
	fits := strings.Repeat("k", api.MaxPack-2)
	p := pack.New(api.MaxPack)
	p.Text(fits)
	mustHold(t, p, textPart(fits).bytes)
	q := pack.New(api.MaxPack)
	q.Text(fits + "k")
	mustFail(t, q, api.ErrRoom, 0)
}

// P1.1: a text's length is that of its bytes, not of its runes.
func TestLongTextOfRunes(t *testing.T) {
	p := pack.New(api.MaxPack)
	p.Text(strings.Repeat("é", api.MaxText/2+1))
	mustFail(t, p, api.ErrLong, 0)
}

// P1.1: bytes may be more than a text may have; they are beyond the room then.
func TestLongBytes(t *testing.T) {
	for _, n := range []int{api.MaxPack - 3, api.MaxText, api.MaxText + 1} {
		p := pack.New(api.MaxPack)
		p.Bytes(ramp(n))
		mustFail(t, p, api.ErrRoom, 0)
	}
	p := pack.New(api.MaxPack)
	p.Bytes(ramp(api.MaxPack - 4))
	mustHold(t, p, bytesPart(ramp(api.MaxPack-4)).bytes)
}

// P1.1: Err is the first error, not the last.
func TestFirstPutErrorStays(t *testing.T) {
	long := strings.Repeat("k", api.MaxText+1)
	p := pack.New(2)
	p.Int(1)
	p.Text(long)
	mustFail(t, p, api.ErrRoom, 0)
	q := pack.New(2)
	q.Text(long)
	q.Int(1)
	mustFail(t, q, api.ErrLong, 0)
}

// P1.1, R3: what is handed in is not written to, and its owner's changes are not seen.
func TestPutIsACopy(t *testing.T) {
	fixed, counted := []byte{1, 2, 3}, []byte{4, 5}
	p := pack.New(api.MaxPack)
	p.Fixed(fixed...)
	p.Bytes(counted)
	p.Byte(6)
	if !bytes.Equal(fixed, []byte{1, 2, 3}) || !bytes.Equal(counted, []byte{4, 5}) {
		t.Errorf("arguments were written to: %v %v", fixed, counted)
	}
	fixed[0], counted[0] = 99, 99
	mustHold(t, p, []byte{1, 2, 3, 0, 0, 0, 2, 4, 5, 6})
}

// P1.1, R3: a piece of a longer list is put without a look at, or a touch of, what is behind it.
func TestPutAPieceOfAList(t *testing.T) {
	list := []byte{1, 2, 3, 4}
	p := pack.New(api.MaxPack)
	p.Fixed(list[:2]...)
	p.Bytes(list[:1])
	p.Byte(9)
	mustHold(t, p, []byte{1, 2, 0, 0, 0, 1, 1, 9})
	if !bytes.Equal(list, []byte{1, 2, 3, 4}) {
		t.Errorf("the list was written to: %v", list)
	}
}

// P1.1, R3: Out's bytes are the asker's own, and a packer goes on behind it.
func TestOutIsACopy(t *testing.T) {
	p := pack.New(api.MaxPack)
	p.Fixed(1, 2, 3)
	first, _ := p.Out()
	second, _ := p.Out()
	first[0] = 99
	_ = append(first, 98)
	if !bytes.Equal(second, []byte{1, 2, 3}) {
		t.Errorf("two answers share memory: %v", second)
	}
	mustHold(t, p, []byte{1, 2, 3})
	p.Byte(4)
	_ = append(second, 97)
	mustHold(t, p, []byte{1, 2, 3, 4})
	if !bytes.Equal(second, []byte{1, 2, 3}) {
		t.Errorf("an answer was changed later: %v", second)
	}
}

// P1.1: packers go their own ways.
func TestPackersApart(t *testing.T) {
	p, q := pack.New(2), pack.New(3)
	p.Short(0x0102)
	q.Short(0x0304)
	p.Byte(5)
	q.Byte(6)
	mustFail(t, p, api.ErrRoom, 2)
	mustHold(t, q, []byte{3, 4, 6})
}
