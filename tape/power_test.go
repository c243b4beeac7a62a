package tape_test

import (
	"math"
	"slices"
	"testing"

	"flurry/api"
	"flurry/tape"
)

// Example 1.
func TestExample(t *testing.T) {
	x := tape.New()
	if e := x.Arm(3); e != api.OK {
		t.Error("Arm:", e)
	}
	if e := x.Append([]byte{1, 2}, []byte{3, 4, 5}); e != api.ErrPower || !slices.Equal(x.Bytes(), []byte{1, 2, 3}) {
		t.Error("Append:", e, x.Bytes())
	}
	x = tape.New()
	x.Arm(3)
	if e := x.Append([]byte{1, 2, 3}); e != api.OK || !x.On() {
		t.Error("Append of as many:", e)
	}
	if e := x.Append([]byte{4}); e != api.ErrPower || x.On() || !slices.Equal(x.Bytes(), []byte{1, 2, 3}) {
		t.Error("Append of one more:", e, x.Bytes())
	}
}

// P8.2, P8.3, P8.5: with n armed just n bytes more come, whatever the pieces, and at once or one by one.
func TestArm(t *testing.T) {
	for _, have := range []int{0, 3} {
		for n := range 12 {
			for many := range 12 {
				for _, l := range cuts(ramp(many)) {
					x, p := of(t, ramp(have))
					do(t, x, p, armed("Arm", n))
					do(t, x, p, appended("Append", l...))
					if e := x.Append(); (e == api.OK) != (many <= n) || x.Len() != have+min(n, many) {
						t.Fatalf("%d behind Arm(%d): Append of no list %d, Len %d", many, n, e, x.Len())
					}
					mustCome(t, x, p)
					x, p = of(t, ramp(have))
					do(t, x, p, armed("Arm", n))
					for _, b := range l {
						do(t, x, p, appended("Append of one piece", b))
					}
					mustCome(t, x, p)
				}
			}
		}
	}
}

// P8.3: Arm in the place of what was armed, as of now: with less, with more, with as much.
func TestArmAnew(t *testing.T) {
	for first := range 6 {
		for between := range first + 1 {
			for second := range 8 {
				x, p := of(t, nil)
				do(t, x, p, armed("Arm", first))
				do(t, x, p, appended("Append", ramp(between)))
				do(t, x, p, armed("Arm anew", second))
				mustCome(t, x, p)
				do(t, x, p, armed("Arm below 0", -1))
				mustCome(t, x, p)
				do(t, x, p, calmed())
				mustCome(t, x, p)
			}
		}
	}
}

// P8.3: what is truncated was put down all the same.
func TestArmCountsWhatIsTruncated(t *testing.T) {
	for n := range 8 {
		x, p := of(t, ramp(5))
		do(t, x, p, armed("Arm", n))
		for range 4 {
			do(t, x, p, appended("Append", []byte{1, 2}))
			do(t, x, p, truncated("Truncate", min(4, x.Len())))
		}
		mustCome(t, x, p)
	}
}

// P8.3: armed behind the last byte that there is room for the power stays; so it does, if it is armed as far off as can be.
func TestArmBeyondTheRoom(t *testing.T) {
	for _, n := range []int{api.MaxTape, api.MaxTape + 1, math.MaxInt} {
		x, p := of(t, nil)
		do(t, x, p, armed("Arm", n))
		do(t, x, p, appended("Append", ramp(api.MaxTape-1), []byte{1}))
		do(t, x, p, appended("Append of one more", []byte{1}))
		do(t, x, p, truncated("Truncate", 0))
		do(t, x, p, appended("Append anew", []byte{1, 2}))
		mustCome(t, x, p)
	}
	x, p := of(t, nil)
	do(t, x, p, armed("Arm", api.MaxTape-1))
	do(t, x, p, appended("Append", ramp(api.MaxTape)))
	if x.On() || x.Len() != api.MaxTape-1 {
		t.Error("ahead of the last byte:", x.On(), x.Len())
	}
}

// P8.3: Calm takes back what is armed, if anything is.
func TestCalm(t *testing.T) {
	for n := range 6 {
		for many := range n + 1 {
			x, p := of(t, nil)
			do(t, x, p, calmed())
			do(t, x, p, armed("Arm", n))
			do(t, x, p, appended("Append", ramp(many)))
			do(t, x, p, calmed())
			mustCome(t, x, p)
			do(t, x, p, appended("Append of more", ramp(1000)))
			do(t, x, p, calmed())
			do(t, x, p, armed("Arm anew", 1))
			mustCome(t, x, p)
		}
	}
}

// P8.3: behind a power that went nothing is armed any more, whether by Crash or ahead of a byte; its bytes are all there.
func TestRestart(t *testing.T) {
	for n := range 5 {
		for _, s := range []step{crashed(), appended("Append", ramp(9))} {
			x, p := of(t, []byte{9, 8})
			do(t, x, p, restarted())
			do(t, x, p, armed("Arm", n))
			do(t, x, p, s)
			do(t, x, p, s)
			if x.On() {
				t.Fatalf("%s behind Arm(%d): the power is there", s.name, n)
			}
			do(t, x, p, restarted())
			mustCome(t, x, p)
			do(t, x, p, restarted())
			do(t, x, p, appended("Append of more", ramp(1000)))
			do(t, x, p, armed("Arm anew", n))
			mustCome(t, x, p)
		}
	}
}

// P8.3: each call's answer, with the power there and gone.
func TestPowersErrors(t *testing.T) {
	x := tape.New()
	if e := x.Restart(); e != api.ErrBusy {
		t.Error("Restart of what is there:", e)
	}
	if e := x.Crash(); e != api.OK || x.On() {
		t.Error("Crash:", e, x.On())
	}
	for name, e := range map[string]api.Errno{"Crash": x.Crash(), "Calm": x.Calm(), "Arm": x.Arm(1), "Arm below 0": x.Arm(-1)} {
		if e != api.ErrPower || x.On() {
			t.Errorf("%s without power: %d, On %v", name, e, x.On())
		}
	}
	if e := x.Restart(); e != api.OK || !x.On() {
		t.Error("Restart:", e, x.On())
	}
	for name, e := range map[string]api.Errno{"of one": x.Arm(-1), "of the most": x.Arm(math.MinInt)} {
		if e != api.ErrArg {
			t.Errorf("Arm below 0, %s: %d", name, e)
		}
	}
}
