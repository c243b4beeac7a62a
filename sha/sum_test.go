package sha_test

import (
	"bytes"
	"crypto/sha256"
	"fmt"
	"math/rand/v2"
	"slices"
	"strings"
	"testing"

	"flurry/api"
	"flurry/sha"
)

// fills are bytes of one length that are unlike each other: all low, all high, and mixed.
func fills(n int) [][]byte {
	r := rand.New(rand.NewPCG(uint64(n), 1))
	mixed := make([]byte, n)
	for i := range mixed {
		mixed[i] = byte(r.Uint32())
	}
	return [][]byte{make([]byte, n), bytes.Repeat([]byte{255}, n), bytes.Repeat([]byte{128}, n), mixed}
}

// mixedBytes are the last of these.
func mixedBytes(n int) []byte { return fills(n)[3] }

// mustSum checks a state by all that it answers.
func mustSum(t *testing.T, s *sha.State, want []byte) {
	t.Helper()
	if got := s.Sum(); got != sha256.Sum256(want) || s.Len() != int64(len(want)) {
		t.Errorf("of %d bytes: Sum %x, Len %d; want %x", len(want), got, s.Len(), sha256.Sum256(want))
	}
}

// P2.1: sums that others have told.
func TestSumOfKnownTexts(t *testing.T) {
	for text, want := range map[string]string{
		"":    "e3b0c44298fc1c149afbf4c8996fb92427ae41e4649b934ca495991b7852b855",
		"abc": "ba7816bf8f01cfea414140de5dae2223b00361a396177a9cb410ff61f20015ad",
		"abcdbcdecdefdefgefghfghighijhijkijkljklmklmnlmnomnopnopq":                                                         "248d6a61d20638b8e5c026930c3e6039a33ce45964ff2167f6ecedd419db06c1",
		"abcdefghbcdefghicdefghijdefghijkefghijklfghijklmghijklmnhijklmnoijklmnopjklmnopqklmnopqrlmnopqrsmnopqrstnopqrstu": "cf5b16a778af8380036ce59e7b0492370b249b11e8f07a51afac45037afee9d1",
		strings.Repeat("a", 1000000): "cdc76e5c9914fb9281a1c7e284d73e67f1809a48a497200e046d39ccc7112cd0",
	} {
		if got := fmt.Sprintf("%x", sha.Sum([]byte(text))); got != want {
			t.Errorf("%.20q of %d bytes: %s, want %s", text, len(text), got, want)
		}
	}
	if sha.Sum(nil) != sha.Sum([]byte{}) {
		t.Error("nil and no bytes have two sums")
	}
}

// P2.1: bytes of all lengths about the edges of what is mixed in at once.
func TestSumOfAllLengths(t *testing.T) {
	lengths := []int{4095, 4096, 4097, 65535, 65536, 1<<21 + 3} // the last ones have counts of bits with three bytes and four
	for n := range 300 {
		lengths = append(lengths, n)
	}
	for _, n := range lengths {
		for i, b := range fills(n) {
			if got, want := sha.Sum(b), sha256.Sum256(b); got != want {
				t.Errorf("%d bytes, fill %d: %x, want %x", n, i, got, want)
			}
		}
	}
}

// P2.1: the count of bits goes beyond 32 of its own.
func TestSumOfMoreThanHalfAGigabyte(t *testing.T) {
	if testing.Short() {
		t.Skip("long")
	}
	s, whole := sha.New(), sha256.New()
	piece := mixedBytes(1 << 20)
	for range 1<<9 + 1 {
		s.Write(piece)
		whole.Write(piece)
	}
	if got := s.Sum(); !bytes.Equal(got[:], whole.Sum(nil)) || s.Len() != (1<<9+1)<<20 {
		t.Errorf("Sum %x, Len %d; want %x", got, s.Len(), whole.Sum(nil))
	}
}

// P2.1: a new state has nothing; pieces come in order, none and empty ones, too; Sum changes nothing.
func TestWrite(t *testing.T) {
	s := sha.New()
	mustSum(t, s, nil)
	var all []byte
	for _, l := range [][][]byte{
		nil, {nil}, {{}}, {{1}}, {{2, 3}, nil, {4}}, {mixedBytes(58), {9}}, {{}, {5}}, {mixedBytes(64)}, {mixedBytes(63)},
		{mixedBytes(200), mixedBytes(1)}, {mixedBytes(2), mixedBytes(128), mixedBytes(3)},
	} {
		if e := s.Write(l...); e != api.OK {
			t.Errorf("Write: %d", e)
		}
		all = append(all, bytes.Join(l, nil)...)
		mustSum(t, s, all)
		mustSum(t, s, all)
	}
}

// P2.1: two states have nothing in common.
func TestTwoStates(t *testing.T) {
	a, b := sha.New(), sha.New()
	a.Write([]byte("a"))
	b.Write([]byte("bb"))
	mustSum(t, a, []byte("a"))
	mustSum(t, b, []byte("bb"))
}

// P2.1, R3: a clone is the same, and each goes its own way.
func TestClone(t *testing.T) {
	for _, n := range []int{0, 1, 55, 56, 63, 64, 65, 130} {
		s := sha.New()
		s.Write(mixedBytes(n))
		c := s.Clone()
		mustSum(t, c, mixedBytes(n))
		s.Write([]byte("left"), mixedBytes(70))
		mustSum(t, c, mixedBytes(n))
		c.Write([]byte("the right"))
		mustSum(t, s, slices.Concat(mixedBytes(n), []byte("left"), mixedBytes(70)))
		mustSum(t, c, slices.Concat(mixedBytes(n), []byte("the right")))
	}
}

// R5: a state that no call made.
func TestStateNotMade(t *testing.T) {
	for name, s := range map[string]*sha.State{"nil": nil, "zero": {}} {
		t.Run(name, func(t *testing.T) {
			for _, l := range [][][]byte{nil, {nil}, {{1, 2}}, {mixedBytes(64), mixedBytes(64)}} {
				if e := s.Write(l...); e != api.ErrMade {
					t.Errorf("Write: %d", e)
				}
				if s.Sum() != (api.ID{}) || s.Len() != 0 || s.Clone() != nil {
					t.Errorf("Sum %x, Len %d, Clone %v", s.Sum(), s.Len(), s.Clone())
				}
			}
		})
	}
}

// R3: what is handed in is not written to, and what is done with it behind the call is not seen.
func TestBytesStayTheirOwners(t *testing.T) {
	for _, n := range []int{1, 63, 64, 100} {
		b := mixedBytes(n)
		s := sha.New()
		s.Write(b[:n/2], b[n/2:])
		sha.Sum(b)
		if !bytes.Equal(b, mixedBytes(n)) {
			t.Errorf("%d bytes were written to", n)
		}
		clear(b)
		mustSum(t, s, mixedBytes(n))
	}
}

// cuts are the places of some random cuts of n bytes, rising.
func cuts(r *rand.Rand, n int) []int {
	l := make([]int, r.IntN(8))
	for i := range l {
		l[i] = r.IntN(n + 1)
	}
	slices.Sort(l)
	return append(l, n)
}

// P2.4: however bytes are cut, and whatever is asked between, the sum is that of them at once.
func TestInAnyPieces(t *testing.T) {
	r := rand.New(rand.NewPCG(3, 4))
	for range 2000 {
		b := mixedBytes(r.IntN(300))
		s := sha.New()
		var pieces [][]byte
		at := 0
		for _, cut := range cuts(r, len(b)) {
			pieces = append(pieces, b[at:cut])
			at = cut
			switch r.IntN(4) {
			case 0:
				s.Write(pieces...)
				pieces = nil
				mustSum(t, s, b[:cut])
			case 1:
				s.Write(pieces...)
				pieces = nil
				c := s.Clone()
				c.Write([]byte("aside"))
			case 2:
				s = s.Clone()
			}
		}
		s.Write(pieces...)
		if s.Sum() != sha.Sum(b) || s.Len() != int64(len(b)) {
			t.Fatalf("%d bytes in pieces: %x of %d bytes, want %x", len(b), s.Sum(), s.Len(), sha.Sum(b))
		}
	}
}

// P2.4: each cut of bytes in two, and byte by byte.
func TestInTwoPieces(t *testing.T) {
	for _, n := range []int{55, 56, 64, 119, 120, 128, 200} {
		b := mixedBytes(n)
		single := sha.New()
		for cut := range n + 1 {
			s := sha.New()
			s.Write(b[:cut])
			s.Write(b[cut:])
			mustSum(t, s, b)
			mustSum(t, single, b[:cut])
			single.Write(b[cut:min(cut+1, n)])
		}
	}
}
