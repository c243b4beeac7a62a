package tape_test

import (
	"bytes"
	"testing"

	"flurry/api"
	"flurry/tape"
)

// cuts are ways to cut bytes in pieces, some of them empty.
func cuts(b []byte) [][][]byte {
	n := len(b)
	l := [][][]byte{{b}, {nil, b, {}}, {b[:n/2], b[n/2:]}, {b[:n/3], {}, b[n/3 : n/2], nil, b[n/2:]}}
	var ones [][]byte
	for i := range b {
		ones = append(ones, b[i:i+1])
	}
	return append(l, ones)
}

// P8.2: the bytes of all pieces, in order, behind the others.
func TestAppend(t *testing.T) {
	for _, have := range []int{0, 1, 5, 300} {
		for _, n := range []int{0, 1, 2, 3, 17, 300} {
			for _, l := range cuts(bytes.Repeat([]byte{7, 0, 255}, n)[:n]) {
				x, p := of(t, ramp(have))
				do(t, x, p, appended("Append", l...))
				do(t, x, p, appended("Append once more", l...))
				mustCome(t, x, p)
			}
		}
	}
}

// P8.2: up to the most bytes, not beyond: nothing is done, also where some pieces would have room, and with the power armed to go within them.
func TestAppendTheMost(t *testing.T) {
	for _, have := range []int{0, 1, 10, api.MaxTape - 2, api.MaxTape - 1, api.MaxTape} {
		left := api.MaxTape - have
		for _, more := range []int{1, 2, 3, 100, api.MaxTape} {
			x, p := of(t, ramp(have))
			mustBeFull(t, x, p, left, more)
			do(t, x, p, armed("Arm", 0))
			mustBeFull(t, x, p, left, more)
			do(t, x, p, armed("Arm", 3))
			mustBeFull(t, x, p, left, more)
			do(t, x, p, calmed())
			do(t, x, p, appended("Append of all that there is room for", ramp(left)))
			do(t, x, p, appended("Append of no byte", nil, []byte{}))
			do(t, x, p, appended("Append of one more", []byte{1}))
			if !x.On() || x.Len() != api.MaxTape {
				t.Fatalf("a full tape: On %v, Len %d", x.On(), x.Len())
			}
		}
	}
}

func mustBeFull(t *testing.T, x *tape.Tape, p *plain, left, more int) {
	t.Helper()
	all := ramp(left + more)
	for _, l := range [][][]byte{{all}, {all[:left], all[left:]}, {all[left:], nil, all[:left]}, {all[:1], all[1:]}} {
		if e := x.Append(l...); e != api.ErrFull {
			t.Fatalf("Append of %d bytes and %d more: %d", left, more, e)
		}
		mustShow(t, x, p)
	}
	mustCome(t, x, p)
}

// P8.2, R1: one great piece many times over.
func TestAppendManyGreatPieces(t *testing.T) {
	piece := make([]byte, 1<<20)
	l := make([][]byte, 1<<16)
	for i := range l {
		l[i] = piece
	}
	x, p := of(t, ramp(9))
	if e := x.Append(l...); e != api.ErrFull {
		t.Fatal("Append of too many bytes by far:", e)
	}
	mustCome(t, x, p)
}

// P8.2, R2: that the power is gone comes ahead of too many bytes, and of a number that may not be.
func TestWithoutPower(t *testing.T) {
	for _, have := range []int{0, 4, api.MaxTape} {
		x, p := down(t, ramp(have))
		for _, s := range []step{
			appended("Append of no list"), appended("Append of nil", nil), appended("Append", []byte{1}), appended("Append of too many", ramp(api.MaxTape+1)),
			truncated("Truncate of all", 0), truncated("Truncate of none", have), truncated("Truncate below 0", -1), truncated("Truncate beyond", have+1),
			armed("Arm", 0), armed("Arm of some", 3), armed("Arm below 0", -1), calmed(), crashed(),
		} {
			do(t, x, p, s)
			if e := s.tape(x); e != api.ErrPower {
				t.Errorf("%s: %d", s.name, e)
			}
		}
		do(t, x, p, restarted())
		mustCome(t, x, p)
	}
}

// P8.2: from no byte to all; the first ones stay, and more come behind them.
func TestTruncate(t *testing.T) {
	for _, have := range []int{0, 1, 2, 50, api.MaxTape} {
		for _, n := range []int{-2, -1, 0, 1, 2, 3, 49, 50, 51, api.MaxTape - 1, api.MaxTape, api.MaxTape + 1} {
			x, p := of(t, ramp(have))
			do(t, x, p, truncated("Truncate", n))
			do(t, x, p, truncated("Truncate by one more than there are", x.Len()+1))
			do(t, x, p, appended("Append", []byte{201, 202}))
			do(t, x, p, truncated("Truncate of none", x.Len()))
			mustCome(t, x, p)
		}
	}
}

// P8.2: what is gone does not come again, and its room is there again.
func TestTruncateGivesRoom(t *testing.T) {
	x, p := of(t, ramp(api.MaxTape))
	do(t, x, p, truncated("Truncate", api.MaxTape-3))
	do(t, x, p, appended("Append of one too many", []byte{1, 2, 3, 4}))
	do(t, x, p, appended("Append", []byte{1, 2}))
	do(t, x, p, crashed())
	do(t, x, p, restarted())
	do(t, x, p, appended("Append of the last", []byte{3}))
	do(t, x, p, truncated("Truncate of all", 0))
	do(t, x, p, appended("Append of as many", bytes.Repeat([]byte{5}, api.MaxTape)))
}
