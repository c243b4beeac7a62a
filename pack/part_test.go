package pack_test

import (
	"bytes"
	"fmt"
	"math"
	"math/rand/v2"
	"strings"
	"testing"

	"flurry/api"
	"flurry/pack"
)

// part is one thing that is put, the bytes that the chapter says it has, and how it is taken again.
type part struct {
	name  string
	bytes []byte
	put   func(p *pack.Packer)
	right func(u *pack.Unpacker) bool // takes it, and says whether it is what was put
	zero  func(u *pack.Unpacker) bool // takes it, and says whether that is the zero value
}

func bytePart(v uint8) part {
	return part{fmt.Sprint("Byte ", v), []byte{v},
		func(p *pack.Packer) { p.Byte(v) },
		func(u *pack.Unpacker) bool { return u.Byte() == v },
		func(u *pack.Unpacker) bool { return u.Byte() == 0 }}
}

func shortPart(v uint16) part {
	return part{fmt.Sprint("Short ", v), highFirst(uint64(v), 2),
		func(p *pack.Packer) { p.Short(v) },
		func(u *pack.Unpacker) bool { return u.Short() == v },
		func(u *pack.Unpacker) bool { return u.Short() == 0 }}
}

func intPart(v uint32) part {
	return part{fmt.Sprint("Int ", v), highFirst(uint64(v), 4),
		func(p *pack.Packer) { p.Int(v) },
		func(u *pack.Unpacker) bool { return u.Int() == v },
		func(u *pack.Unpacker) bool { return u.Int() == 0 }}
}

func longPart(v uint64) part {
	return part{fmt.Sprint("Long ", v), highFirst(v, 8),
		func(p *pack.Packer) { p.Long(v) },
		func(u *pack.Unpacker) bool { return u.Long() == v },
		func(u *pack.Unpacker) bool { return u.Long() == 0 }}
}

func fixedPart(b []byte) part {
	return part{fmt.Sprint("Fixed of ", len(b)), b,
		func(p *pack.Packer) { p.Fixed(b...) },
		func(u *pack.Unpacker) bool { return bytes.Equal(u.Fixed(len(b)), b) },
		func(u *pack.Unpacker) bool { return len(u.Fixed(len(b))) == 0 }}
}

func bytesPart(b []byte) part {
	return part{fmt.Sprint("Bytes of ", len(b)), append(highFirst(uint64(len(b)), 4), b...),
		func(p *pack.Packer) { p.Bytes(b) },
		func(u *pack.Unpacker) bool { return bytes.Equal(u.Bytes(len(b)), b) },
		func(u *pack.Unpacker) bool { return len(u.Bytes(len(b))) == 0 }}
}

func textPart(s string) part {
	return part{fmt.Sprint("Text of ", len(s)), append(highFirst(uint64(len(s)), 2), s...),
		func(p *pack.Packer) { p.Text(s) },
		func(u *pack.Unpacker) bool { return u.Text(len(s)) == s },
		func(u *pack.Unpacker) bool { return u.Text(len(s)) == "" }}
}

// highFirst writes a number with shifts to the right, unlike the package, so that a fault there is not repeated here.
func highFirst(v uint64, width int) []byte {
	var b []byte
	for i := width - 1; i >= 0; i-- {
		b = append(b, byte(v>>(8*i)))
	}
	return b
}

// edgeParts are a part or more of each kind, edges among them.
func edgeParts() []part {
	return []part{
		bytePart(0), bytePart(1), bytePart(127), bytePart(128), bytePart(255),
		shortPart(0), shortPart(258), shortPart(0x8001), shortPart(math.MaxUint16),
		intPart(0), intPart(0x01020304), intPart(0x80000001), intPart(math.MaxUint32),
		longPart(0), longPart(0x0102030405060708), longPart(1 << 63), longPart(math.MaxUint64),
		fixedPart(nil), fixedPart([]byte{9}), fixedPart([]byte{0, 255, 0, 7, 0}),
		bytesPart(nil), bytesPart([]byte{7, 8}), bytesPart(ramp(300)),
		textPart(""), textPart("é"), textPart("\xff\x00\xc3"), textPart(strings.Repeat("k", 300)),
	}
}

func randomPart(r *rand.Rand) part {
	b := make([]byte, r.IntN(9))
	for i := range b {
		b[i] = byte(r.Uint32())
	}
	switch r.IntN(7) {
	case 0:
		return bytePart(uint8(r.Uint32()))
	case 1:
		return shortPart(uint16(r.Uint32()))
	case 2:
		return intPart(r.Uint32())
	case 3:
		return longPart(r.Uint64())
	case 4:
		return fixedPart(b)
	case 5:
		return bytesPart(b)
	}
	return textPart(string(b))
}

// randomRows are rows of parts, the same in each run.
func randomRows(many int) [][]part {
	r := rand.New(rand.NewPCG(1, 2))
	rows := make([][]part, many)
	for i := range rows {
		for range r.IntN(12) {
			rows[i] = append(rows[i], randomPart(r))
		}
	}
	return rows
}

func joined(l []part) []byte {
	var b []byte
	for _, x := range l {
		b = append(b, x.bytes...)
	}
	return b
}

func names(l []part) string {
	var s []string
	for _, x := range l {
		s = append(s, x.name)
	}
	return strings.Join(s, ", ")
}

func putAll(p *pack.Packer, l []part) {
	for _, x := range l {
		x.put(p)
	}
}

// ramp is n bytes, each unlike its neighbours.
func ramp(n int) []byte {
	b := make([]byte, n)
	for i := range b {
		b[i] = byte(i + 1)
	}
	return b
}

// mustHold checks a packer without an error, by all of its faces.
func mustHold(t *testing.T, p *pack.Packer, want []byte) {
	t.Helper()
	b, e := p.Out()
	if p.Err() != api.OK || e != api.OK || p.Len() != len(want) || !bytes.Equal(b, want) {
		t.Errorf("Err %d, Len %d, Out %v %d; want 0, %d, %v 0", p.Err(), p.Len(), b, e, len(want), want)
	}
}

// mustFail checks a packer with an error, ahead of which so many bytes were put.
func mustFail(t *testing.T, p *pack.Packer, want api.Errno, put int) {
	t.Helper()
	b, e := p.Out()
	if p.Err() != want || e != want || p.Len() != put || len(b) != 0 {
		t.Errorf("Err %d, Len %d, Out %v %d; want %d, %d, nothing, %d", p.Err(), p.Len(), b, e, want, put, want)
	}
}

// mustBeLeft checks an unpacker of which so many bytes are left.
func mustBeLeft(t *testing.T, u *pack.Unpacker, err api.Errno, rest int) {
	t.Helper()
	end := err
	if err == api.OK && rest > 0 {
		end = api.ErrMore
	}
	if u.Err() != err || u.Rest() != rest || u.End() != end {
		t.Errorf("Err %d, Rest %d, End %d; want %d, %d, %d", u.Err(), u.Rest(), u.End(), err, rest, end)
	}
}
