package pack_test

import (
	"bytes"
	"fmt"
	"math"
	"strings"
	"testing"

	"flurry/api"
	"flurry/pack"
)

// P1.2: each kind is taken from the form that the chapter says, and only it.
func TestTakeForms(t *testing.T) {
	for _, x := range edgeParts() {
		t.Run(x.name, func(t *testing.T) {
			u := pack.Read(append(bytes.Clone(x.bytes), 9, 9))
			if !x.right(u) {
				t.Error("another value was taken")
			}
			mustBeLeft(t, u, api.OK, 2)
		})
	}
}

// P1.2: the numbers of bytes that are written out here.
func TestTakeExamples(t *testing.T) {
	u := pack.Read([]byte{1, 2, 0, 0, 0, 2, 7, 8, 0, 2, 195, 169, 3, 0, 0, 1, 0, 1, 2, 3, 4, 5, 6, 7, 8, 5, 6})
	if v := u.Short(); v != 258 {
		t.Errorf("Short: %d", v)
	}
	if b := u.Bytes(2); !bytes.Equal(b, []byte{7, 8}) {
		t.Errorf("Bytes: %v", b)
	}
	if s := u.Text(9); s != "é" {
		t.Errorf("Text: %q", s)
	}
	if v := u.Byte(); v != 3 {
		t.Errorf("Byte: %d", v)
	}
	if v := u.Int(); v != 256 {
		t.Errorf("Int: %d", v)
	}
	if v := u.Long(); v != 0x0102030405060708 {
		t.Errorf("Long: %x", v)
	}
	mustBeLeft(t, u, api.OK, 2)
	if b := u.Fixed(2); !bytes.Equal(b, []byte{5, 6}) {
		t.Errorf("Fixed: %v", b)
	}
	mustBeLeft(t, u, api.OK, 0)
}

// P1.2: End tells what is left, and changes nothing.
func TestEnd(t *testing.T) {
	mustBeLeft(t, pack.Read(nil), api.OK, 0)
	mustBeLeft(t, pack.Read([]byte{}), api.OK, 0)
	u := pack.Read([]byte{1, 2})
	mustBeLeft(t, u, api.OK, 2)
	if u.Byte() != 1 {
		t.Error("nothing could be taken behind End")
	}
	mustBeLeft(t, u, api.OK, 1)
	if u.Byte() != 2 {
		t.Error("nothing could be taken behind End")
	}
	mustBeLeft(t, u, api.OK, 0)
}

// P1.2: with any fewer bytes than a thing needs it is ErrShort, and nothing is taken.
func TestTakeShort(t *testing.T) {
	for _, x := range edgeParts() {
		t.Run(x.name, func(t *testing.T) {
			for n := range len(x.bytes) {
				u := pack.Read(x.bytes[:n])
				if !x.zero(u) {
					t.Errorf("of %d bytes something was taken", n)
				}
				mustBeLeft(t, u, api.ErrShort, n)
			}
		})
	}
}

// failures are takings that have an error of the bytes 0 0 0 5 1 2, each with it.
var failures = []struct {
	name string
	zero func(u *pack.Unpacker) bool
	want api.Errno
}{
	{"Fixed of more than is left", func(u *pack.Unpacker) bool { return len(u.Fixed(7)) == 0 }, api.ErrShort},
	{"Fixed below 0", func(u *pack.Unpacker) bool { return len(u.Fixed(-1)) == 0 }, api.ErrArg},
	{"Long", func(u *pack.Unpacker) bool { return u.Long() == 0 }, api.ErrShort},
	{"Bytes of most below 0", func(u *pack.Unpacker) bool { return len(u.Bytes(-1)) == 0 }, api.ErrArg},
	{"Bytes of too little most", func(u *pack.Unpacker) bool { return len(u.Bytes(4)) == 0 }, api.ErrLong},
	{"Bytes that are not there", func(u *pack.Unpacker) bool { return len(u.Bytes(5)) == 0 }, api.ErrShort},
	{"Text of most below 0", func(u *pack.Unpacker) bool { return u.Text(-1) == "" }, api.ErrArg},
}

// P1.2: behind the first error all kinds answer the zero value, take nothing, and leave the error.
func TestNothingTakenBehindAnError(t *testing.T) {
	for _, first := range failures {
		for _, x := range edgeParts() {
			u := pack.Read([]byte{0, 0, 0, 5, 1, 2})
			if !first.zero(u) {
				t.Errorf("%s: something was taken", first.name)
			}
			mustBeLeft(t, u, first.want, 6)
			if !x.zero(u) {
				t.Errorf("%s, %s: something was taken", first.name, x.name)
			}
			mustBeLeft(t, u, first.want, 6)
		}
		for _, second := range failures {
			u := pack.Read([]byte{0, 0, 0, 5, 1, 2})
			first.zero(u)
			second.zero(u)
			mustBeLeft(t, u, first.want, 6)
		}
	}
}

// P1.2: behind an error even bytes that are no noughts, and would be enough, are not told.
func TestZeroBehindAnError(t *testing.T) {
	takings := []func(u *pack.Unpacker) bool{
		func(u *pack.Unpacker) bool { return u.Byte() == 0 },
		func(u *pack.Unpacker) bool { return u.Short() == 0 },
		func(u *pack.Unpacker) bool { return u.Int() == 0 },
		func(u *pack.Unpacker) bool { return u.Long() == 0 },
		func(u *pack.Unpacker) bool { return len(u.Fixed(3)) == 0 },
		func(u *pack.Unpacker) bool { return len(u.Fixed(0)) == 0 },
		func(u *pack.Unpacker) bool { return len(u.Bytes(math.MaxInt)) == 0 },
		func(u *pack.Unpacker) bool { return u.Text(math.MaxInt) == "" },
	}
	for i, take := range takings {
		u := pack.Read(bytes.Repeat([]byte{1}, 1<<17))
		u.Byte()
		u.Fixed(-1)
		if !take(u) {
			t.Errorf("taking %d: not the zero value", i)
		}
		mustBeLeft(t, u, api.ErrArg, 1<<17-1)
	}
}

// P1.2: Fixed takes any number of bytes that are left, none too.
func TestFixedCounts(t *testing.T) {
	for _, n := range []int{0, 1, 5} {
		u := pack.Read([]byte{1, 2, 3, 4, 5})
		if b := u.Fixed(n); !bytes.Equal(b, []byte{1, 2, 3, 4, 5}[:n]) {
			t.Errorf("Fixed(%d): %v", n, b)
		}
		mustBeLeft(t, u, api.OK, 5-n)
	}
	empty := pack.Read(nil)
	if b := empty.Fixed(0); len(b) != 0 {
		t.Errorf("Fixed(0) of nothing: %v", b)
	}
	mustBeLeft(t, empty, api.OK, 0)
	for n, want := range map[int]api.Errno{6: api.ErrShort, math.MaxInt: api.ErrShort, -1: api.ErrArg, -5: api.ErrArg, math.MinInt: api.ErrArg} {
		u := pack.Read([]byte{1, 2, 3, 4, 5})
		if b := u.Fixed(n); len(b) != 0 {
			t.Errorf("Fixed(%d): %v", n, b)
		}
		mustBeLeft(t, u, want, 5)
	}
}

// form is one of the two that begin with a count: how many bytes that has, and how it is taken.
type form struct {
	name string
	head int
	take func(u *pack.Unpacker, most int) []byte
}

func forms() []form {
	return []form{
		{"Bytes", 4, func(u *pack.Unpacker, most int) []byte { return u.Bytes(most) }},
		{"Text", 2, func(u *pack.Unpacker, most int) []byte { return []byte(u.Text(most)) }},
	}
}

// mustCount takes what begins with a count: all of it, or nothing with the error.
func (f form) mustCount(t *testing.T, count int, behind []byte, most int, want api.Errno) {
	t.Helper()
	all := append(highFirst(uint64(count), f.head), behind...)
	u := pack.Read(all)
	got := f.take(u, most)
	var wanted []byte
	rest := len(all)
	if want == api.OK {
		wanted = behind[:count]
		rest = len(behind) - count
	}
	if !bytes.Equal(got, wanted) {
		t.Errorf("%s(%d) of %d, with %d behind: %v, want %v", f.name, most, count, len(behind), got, wanted)
	}
	mustBeLeft(t, u, want, rest)
}

// P1.2: most, how many there are, and how many are left, at all their edges.
func TestCountedEdges(t *testing.T) {
	for count := range 4 {
		for left := range 5 {
			for most := -2; most < 5; most++ {
				want := api.OK
				switch {
				case most < 0:
					want = api.ErrArg
				case count > most:
					want = api.ErrLong
				case count > left:
					want = api.ErrShort
				}
				for _, f := range forms() {
					f.mustCount(t, count, ramp(left), most, want)
				}
			}
		}
	}
}

// P1.2: a most below 0 comes ahead of a count that is not whole, and that ahead of all others.
func TestCountNotWhole(t *testing.T) {
	for _, f := range forms() {
		for n := range f.head {
			for most, want := range map[int]api.Errno{math.MinInt: api.ErrArg, -1: api.ErrArg, 0: api.ErrShort, 9: api.ErrShort, math.MaxInt: api.ErrShort} {
				u := pack.Read(bytes.Repeat([]byte{255}, n))
				if b := f.take(u, most); len(b) != 0 {
					t.Errorf("%s(%d) of %d bytes: %v", f.name, most, n, b)
				}
				mustBeLeft(t, u, want, n)
			}
		}
	}
}

// P1.2: a count is a number without a sign, and is held against most as a whole.
func TestGreatCounts(t *testing.T) {
	for _, f := range forms() {
		for _, count := range []int{256, math.MaxInt16, 1 << 15, math.MaxUint16, 1 << 16, 1 << 24, math.MaxInt32, 1 << 31, math.MaxUint32} {
			if f.head == 2 && count > math.MaxUint16 {
				continue
			}
			f.mustCount(t, count, ramp(3), -1, api.ErrArg)
			f.mustCount(t, count, ramp(3), 0, api.ErrLong)
			f.mustCount(t, count, ramp(3), count-1, api.ErrLong)
			f.mustCount(t, count, ramp(3), count, api.ErrShort)
			f.mustCount(t, count, ramp(3), math.MaxInt, api.ErrShort)
		}
	}
}

// P1.2: a text of MaxText bytes, and bytes of more than MaxPack, may be taken.
func TestTakeGreat(t *testing.T) {
	s := strings.Repeat("k", api.MaxText)
	u := pack.Read(append(highFirst(uint64(api.MaxText), 2), s...))
	if u.Text(api.MaxText) != s {
		t.Error("a text of MaxText bytes: another one was taken")
	}
	mustBeLeft(t, u, api.OK, 0)
	b := ramp(1 << 17)
	v := pack.Read(append(highFirst(1<<17, 4), b...))
	if !bytes.Equal(v.Bytes(1<<17), b) {
		t.Error("many bytes: others were taken")
	}
	mustBeLeft(t, v, api.OK, 0)
}

// P1.2, R3: an unpacker has bytes of its own, and does not write to those that it was handed.
func TestReadIsACopy(t *testing.T) {
	b := []byte{1, 0, 0, 0, 2, 3, 4, 5}
	u := pack.Read(b)
	clear(b)
	if u.Byte() != 1 || !bytes.Equal(u.Bytes(2), []byte{3, 4}) || u.Byte() != 5 {
		t.Error("the owner's change was seen")
	}
	mustBeLeft(t, u, api.OK, 0)
}

// P1.2, R3: what is taken is the asker's own: no change of it, and nothing appended to it, is seen elsewhere.
func TestTakenIsACopy(t *testing.T) {
	b := []byte{1, 2, 0, 0, 0, 2, 3, 4, 5, 6}
	was := bytes.Clone(b)
	u := pack.Read(b)
	fixed := u.Fixed(2)
	fixed[0] = 99
	_ = append(fixed, 99, 99, 99, 99)
	taken := u.Bytes(2)
	if !bytes.Equal(taken, []byte{3, 4}) {
		t.Fatalf("an answer reaches what is left: %v", taken)
	}
	taken[1] = 99
	_ = append(taken, 99, 99)
	if v := u.Short(); v != 0x0506 {
		t.Errorf("an answer reaches what is left: %x", v)
	}
	if !bytes.Equal(fixed, []byte{99, 2}) || !bytes.Equal(b, was) {
		t.Errorf("answers share memory: %v, %v", fixed, b)
	}
}

// P1.2: unpackers of the same bytes go their own ways.
func TestUnpackersApart(t *testing.T) {
	b := []byte{1, 2, 3}
	u, v := pack.Read(b), pack.Read(b)
	u.Short()
	v.Long()
	mustBeLeft(t, u, api.OK, 1)
	mustBeLeft(t, v, api.ErrShort, 3)
	if got := fmt.Sprint(u.Byte(), v.Byte()); got != "3 0" {
		t.Errorf("taken: %s", got)
	}
}
