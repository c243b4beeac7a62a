package tape_test

import (
	"math/rand/v2"
	"slices"
	"testing"

	"flurry/api"
	"flurry/tape"
)

// steps are some of each kind, that may be and may not be.
func steps() []step {
	return []step{
		appended("Append of 1", []byte{1}), appended("Append of 2 and 3 4", []byte{2}, nil, []byte{3, 4}), appended("Append of nothing"), appended("Append of too many", ramp(api.MaxTape+1)),
		truncated("Truncate to none", 0), truncated("Truncate to 2", 2), truncated("Truncate to -1", -1),
		armed("Arm of 0", 0), armed("Arm of 2", 2), armed("Arm of 4", 4), armed("Arm of -1", -1),
		calmed(), crashed(), restarted(),
	}
}

// P8.1 to P8.5: four steps, whichever they are.
func TestAllShortRuns(t *testing.T) {
	all := steps()
	n := len(all)
	for run := range n * n * n * n {
		x, p := of(t, nil)
		var names []string
		for range 4 {
			s := all[run%n]
			run /= n
			names = append(names, s.name)
			if got, want := s.tape(x), s.plain(p); got != want {
				t.Fatalf("%q: %d, not %d", names, got, want)
			}
			mustShow(t, x, p)
		}
		mustCome(t, x, p)
	}
}

// draw is a step by numbers that are drawn, at any place of the tape.
func draw(r *rand.Rand, size int) step {
	switch r.IntN(12) {
	case 0:
		return calmed()
	case 1:
		return crashed()
	case 2, 3, 4:
		return restarted()
	case 5:
		return truncated("Truncate", r.IntN(size+3)-1)
	case 6, 7:
		return armed("Arm", r.IntN(40)-1)
	}
	b := make([]byte, r.IntN(24))
	for i := range b {
		b[i] = byte(r.Uint32())
	}
	at := r.IntN(len(b) + 1)
	return appended("Append", b[:at], b[at:])
}

// P8.4, P8.5, P8.6: long runs, of a tape and of clones that leave it on the way, each held against its own plain one to the end.
func TestLongRuns(t *testing.T) {
	r := rand.New(rand.NewPCG(8, 1))
	for range 60 {
		x, p := of(t, ramp(r.IntN(50)))
		tapes, plains := []*tape.Tape{x}, []*plain{p}
		for range 300 {
			i := r.IntN(len(tapes))
			do(t, tapes[i], plains[i], draw(r, tapes[i].Len()))
			if len(tapes) < 5 && r.IntN(40) == 0 {
				tapes, plains = append(tapes, tapes[i].Clone()), append(plains, plains[i].clone())
			}
			seen := r.IntN(len(tapes))
			mustShow(t, tapes[seen], plains[seen])
		}
		for i := range tapes {
			mustCome(t, tapes[i], plains[i])
		}
	}
}

// P8.4: wherever the power goes, and however often: the bytes are those that were appended, as far as it went.
func TestABeginning(t *testing.T) {
	all := ramp(200)
	for n := range 60 {
		x := tape.New()
		var want []byte
		for len(want) < len(all) {
			x.Arm(n)
			rest := all[len(want):]
			e := x.Append(rest[:len(rest)/2], rest[len(rest)/2:])
			want = all[:min(len(all), len(want)+n)]
			if !slices.Equal(x.Bytes(), want) || (e == api.OK) != (len(rest) <= n) || x.On() != (e == api.OK) {
				t.Fatalf("Append of %d behind Arm(%d): %d, %s", len(rest), n, e, some(x.Bytes()))
			}
			if n == 0 {
				break
			}
			x.Restart()
		}
	}
}

// R6: the same calls answer the same.
func TestTheSameAgain(t *testing.T) {
	run := func() ([]api.Errno, []byte) {
		r := rand.New(rand.NewPCG(8, 2))
		x := tape.New()
		var answers []api.Errno
		for range 500 {
			answers = append(answers, draw(r, x.Len()).tape(x))
		}
		return answers, x.Bytes()
	}
	first, firstBytes := run()
	second, secondBytes := run()
	if !slices.Equal(first, second) || !slices.Equal(firstBytes, secondBytes) {
		t.Error("another run, other answers")
	}
}

// P8.6: a tape and its clone that go the same way stay the same.
func TestTheSameWay(t *testing.T) {
	r := rand.New(rand.NewPCG(8, 3))
	for range 40 {
		x, p := of(t, ramp(r.IntN(20)))
		for range r.IntN(30) {
			do(t, x, p, draw(r, x.Len()))
		}
		c := x.Clone()
		for range 60 {
			s := draw(r, x.Len())
			if a, b := s.tape(x), s.tape(c); a != b || x.On() != c.On() || !slices.Equal(x.Bytes(), c.Bytes()) {
				t.Fatalf("%s: %d and %d of the clone", s.name, a, b)
			}
		}
	}
}
