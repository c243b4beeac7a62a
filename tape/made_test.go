package tape_test

import (
	"bytes"
	"math"
	"slices"
	"testing"

	"flurry/api"
	"flurry/tape"
)

// P8.1: no bytes, the power there, nothing armed: as many bytes come as there is room for.
func TestNew(t *testing.T) {
	x := tape.New()
	mustCome(t, x, newPlain(nil))
	if len(x.Bytes()) != 0 || x.Len() != 0 || !x.On() {
		t.Error("a new tape:", x.Bytes(), x.Len(), x.On())
	}
	if e := x.Append(ramp(api.MaxTape)); e != api.OK || !x.On() || !bytes.Equal(x.Bytes(), ramp(api.MaxTape)) {
		t.Error("a new tape that is filled:", e, x.Len(), x.On())
	}
}

// P8.1: up to the most bytes, not beyond; nothing is armed.
func TestOf(t *testing.T) {
	for _, n := range []int{0, 1, 2, 3, 7, 64, 255, 256, 1000, 4097, api.MaxTape/2 + 1, api.MaxTape - 1, api.MaxTape} {
		x, p := of(t, ramp(n))
		mustCome(t, x, p)
		do(t, x, p, appended("Append of all that there is room for", ramp(api.MaxTape-n)))
	}
	for _, n := range []int{api.MaxTape + 1, api.MaxTape + 2, 2 * api.MaxTape, 2*api.MaxTape + 1} {
		if x, e := tape.Of(ramp(n)); x != nil || e != api.ErrLong {
			t.Errorf("Of %d bytes: %v %d", n, x != nil, e)
		}
	}
}

// R4: none, and nil.
func TestOfNothing(t *testing.T) {
	for _, b := range [][]byte{nil, {}} {
		x, p := of(t, b)
		mustCome(t, x, p)
		do(t, x, p, appended("Append of no list"))
		do(t, x, p, appended("Append of an empty one", []byte{}))
		do(t, x, p, appended("Append of nil", nil))
		do(t, x, p, truncated("Truncate", 0))
		mustCome(t, x, p)
	}
}

// P8.1: with the power there and gone.
func TestTellsWithoutPower(t *testing.T) {
	for _, n := range []int{0, 1, 5, api.MaxTape} {
		x, p := of(t, ramp(n))
		mustShow(t, x, p)
		do(t, x, p, crashed())
		do(t, x, p, restarted())
		mustCome(t, x, p)
	}
}

// R5: a tape that no call made has nothing, and takes nothing in; ErrMade comes ahead of what may not be.
func TestNotMade(t *testing.T) {
	for name, x := range map[string]*tape.Tape{"nil": nil, "zero": {}} {
		for range 2 {
			calls := map[string]api.Errno{
				"Append of no list":     x.Append(),
				"Append":                x.Append([]byte{1}, nil, []byte{2}),
				"Append of more":        x.Append(ramp(api.MaxTape), []byte{1}),
				"Truncate":              x.Truncate(0),
				"Truncate of none":      x.Truncate(-1),
				"Truncate of no byte":   x.Truncate(1),
				"Arm":                   x.Arm(0),
				"Arm of some":           x.Arm(3),
				"Arm of none":           x.Arm(-1),
				"Calm":                  x.Calm(),
				"Crash":                 x.Crash(),
				"Restart":               x.Restart(),
				"Restart of what is up": x.Restart(),
			}
			for call, e := range calls {
				if e != api.ErrMade {
					t.Errorf("%s: %s: %d", name, call, e)
				}
			}
			if x.On() || len(x.Bytes()) != 0 || x.Len() != 0 || x.Clone() != nil {
				t.Errorf("%s: %v %v %d", name, x.On(), x.Bytes(), x.Len())
			}
		}
	}
}

// R1: the ends of all numbers, with the power there and gone.
func TestEndsOfNumbers(t *testing.T) {
	for _, n := range []int{math.MinInt, math.MinInt + 1, -api.MaxTape, -1, 0, 1, api.MaxTape, math.MaxInt - 1, math.MaxInt} {
		for _, have := range []int{0, 1, 9} {
			for _, start := range []func(*testing.T, []byte) (*tape.Tape, *plain){of, down} {
				x, p := start(t, ramp(have))
				do(t, x, p, truncated("Truncate", n))
				do(t, x, p, armed("Arm", n))
				mustCome(t, x, p)
			}
		}
	}
}

// P8.1, P8.6: a clone is the same, with the power there and gone, and with what is armed; what is done with it is not seen in the other one, nor the other way round.
func TestClone(t *testing.T) {
	for _, have := range []int{0, 1, 3, 100, api.MaxTape - 2, api.MaxTape} {
		for _, begin := range [][]step{
			{},
			{crashed()},
			{armed("Arm", 0)},
			{armed("Arm", 2)},
			{armed("Arm", 2), calmed()},
			{armed("Arm", 2), crashed(), restarted()},
			{truncated("Truncate", 0), appended("Append", []byte{1, 2, 3})},
			{truncated("Truncate", 0), armed("Arm", 1), appended("Append", []byte{4, 5})},
		} {
			mustGoItsWay(t, have, begin)
		}
	}
}

func mustGoItsWay(t *testing.T, have int, begin []step) {
	t.Helper()
	for _, clonesFirst := range []bool{true, false} {
		x, p := of(t, ramp(have))
		for _, s := range begin {
			do(t, x, p, s)
		}
		first, firstPlain, second, secondPlain := x, p, x.Clone(), p.clone()
		if clonesFirst {
			first, firstPlain, second, secondPlain = second, secondPlain, first, firstPlain
		}
		do(t, first, firstPlain, restarted())
		do(t, first, firstPlain, appended("Append", []byte{91}))
		mustShow(t, second, secondPlain)
		do(t, second, secondPlain, appended("Append", []byte{81, 82}))
		mustShow(t, first, firstPlain)
		do(t, first, firstPlain, truncated("Truncate", 0))
		do(t, first, firstPlain, appended("Append", []byte{92, 93, 94}))
		mustShow(t, second, secondPlain)
		do(t, second, secondPlain, armed("Arm", 1))
		mustCome(t, first, firstPlain)
		do(t, first, firstPlain, crashed())
		mustCome(t, second, secondPlain)
	}
}

// R3: what is handed in is not written to, and not kept in a way that its owner could change.
func TestHandedIn(t *testing.T) {
	whole := ramp(64)
	was := slices.Clone(whole)
	x, p := of(t, whole[:20])
	do(t, x, p, appended("Append", whole[20:30], whole[30:40]))
	do(t, x, p, truncated("Truncate", 10))
	do(t, x, p, armed("Arm", 12))
	do(t, x, p, appended("Append", []byte{1, 2, 3}, whole[40:60]))
	if !slices.Equal(whole, was) {
		t.Fatal("what was handed in was written to:", some(whole))
	}
	clear(whole)
	mustShow(t, x, p)
	whole = slices.Clone(was)
	x, p = of(t, whole)
	do(t, x, p, truncated("Truncate of what it was made of", 10))
	do(t, x, p, appended("Append in its place", []byte{1, 2, 3}))
	if !slices.Equal(whole, was) {
		t.Fatal("what it was made of was written to:", some(whole))
	}
	x, p = of(t, whole)
	clear(whole)
	mustShow(t, x, p)
	l := [][]byte{{1, 2}, {3}}
	x, p = of(t, nil)
	do(t, x, p, appended("Append of a list", l...))
	if len(l) != 2 || !slices.Equal(l[0], []byte{1, 2}) || !slices.Equal(l[1], []byte{3}) {
		t.Fatal("a list was written to:", l)
	}
	l[0][0], l[1] = 77, []byte{78}
	mustShow(t, x, p)
}

// R3: what is answered is nobody's else: neither a write to it, nor one behind it, is seen anywhere; there is no room behind it.
func TestAnswersAreOnesOwn(t *testing.T) {
	for n := range 70 {
		x, p := of(t, ramp(n))
		for _, s := range []step{appended("Append", []byte{1, 2, 3}), truncated("Truncate", n/2), appended("Append", ramp(n)), crashed()} {
			do(t, x, p, s)
			b, other := x.Bytes(), x.Bytes()
			if cap(b) != len(b) {
				t.Errorf("room behind %d bytes: %d", len(b), cap(b))
			}
			for i := range b {
				b[i] = ^b[i]
			}
			_ = append(b, 77)
			mustShow(t, x, p)
			if !slices.Equal(other, p.b) {
				t.Errorf("a write to what was answered is seen in another answer: %s", some(other))
			}
		}
	}
}

// R3: what was told stays, whatever comes behind it, with the tape's own bytes put behind it among that.
func TestToldStays(t *testing.T) {
	x, p := of(t, []byte{1, 2, 3})
	told := x.Bytes()
	do(t, x, p, appended("Append of its own bytes", told, x.Bytes()))
	do(t, x, p, truncated("Truncate", 1))
	do(t, x, p, appended("Append", []byte{9, 9, 9, 9}))
	if !slices.Equal(told, []byte{1, 2, 3}) {
		t.Error("what was told:", told)
	}
}
