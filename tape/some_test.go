package tape_test

import (
	"bytes"
	"slices"
	"testing"

	"flurry/api"
	"flurry/tape"
)

// plain is a tape by the chapter's words alone, byte by byte; below 0 nothing is armed.
type plain struct {
	on    bool
	armed int
	b     []byte
}

func newPlain(b []byte) *plain { return &plain{on: true, armed: -1, b: slices.Clone(b)} }

func (p *plain) clone() *plain { return &plain{on: p.on, armed: p.armed, b: slices.Clone(p.b)} }

func (p *plain) append(l ...[]byte) api.Errno {
	all := slices.Concat(l...)
	if !p.on {
		return api.ErrPower
	}
	if len(p.b)+len(all) > api.MaxTape {
		return api.ErrFull
	}
	for _, v := range all {
		if p.armed == 0 {
			p.on, p.armed = false, -1
			return api.ErrPower
		}
		if p.armed > 0 {
			p.armed--
		}
		p.b = append(p.b, v)
	}
	return api.OK
}

func (p *plain) truncate(n int) api.Errno {
	if !p.on {
		return api.ErrPower
	}
	if n < 0 || n > len(p.b) {
		return api.ErrArg
	}
	p.b = p.b[:n]
	return api.OK
}

func (p *plain) arm(n int) api.Errno {
	if !p.on {
		return api.ErrPower
	}
	if n < 0 {
		return api.ErrArg
	}
	p.armed = n
	return api.OK
}

func (p *plain) calm() api.Errno {
	if !p.on {
		return api.ErrPower
	}
	p.armed = -1
	return api.OK
}

func (p *plain) crash() api.Errno {
	if !p.on {
		return api.ErrPower
	}
	p.on, p.armed = false, -1
	return api.OK
}

func (p *plain) restart() api.Errno {
	if p.on {
		return api.ErrBusy
	}
	p.on = true
	return api.OK
}

// step is one thing done to a tape, and to a plain one.
type step struct {
	name  string
	tape  func(*tape.Tape) api.Errno
	plain func(*plain) api.Errno
}

func appended(name string, l ...[]byte) step {
	return step{name, func(x *tape.Tape) api.Errno { return x.Append(l...) }, func(p *plain) api.Errno { return p.append(l...) }}
}

func truncated(name string, n int) step {
	return step{name, func(x *tape.Tape) api.Errno { return x.Truncate(n) }, func(p *plain) api.Errno { return p.truncate(n) }}
}

func armed(name string, n int) step {
	return step{name, func(x *tape.Tape) api.Errno { return x.Arm(n) }, func(p *plain) api.Errno { return p.arm(n) }}
}

func calmed() step { return step{"Calm", (*tape.Tape).Calm, (*plain).calm} }

func crashed() step { return step{"Crash", (*tape.Tape).Crash, (*plain).crash} }

func restarted() step { return step{"Restart", (*tape.Tape).Restart, (*plain).restart} }

// do does a step to both, and holds the answers and what has come of it against each other.
func do(t *testing.T, x *tape.Tape, p *plain, s step) {
	t.Helper()
	if got, want := s.tape(x), s.plain(p); got != want {
		t.Fatalf("%s: %d, not %d", s.name, got, want)
	}
	mustShow(t, x, p)
}

func mustShow(t *testing.T, x *tape.Tape, p *plain) {
	t.Helper()
	if got := x.Bytes(); !bytes.Equal(got, p.b) || x.Len() != len(p.b) || x.On() != p.on {
		t.Fatalf("%s, Len %d, On %v; not %s, %d, %v", some(got), x.Len(), x.On(), some(p.b), len(p.b), p.on)
	}
}

// mustCome holds against each other what a tape shows, and how many bytes more come, as a clone of it tells.
func mustCome(t *testing.T, x *tape.Tape, p *plain) {
	t.Helper()
	mustShow(t, x, p)
	x, p = x.Clone(), p.clone()
	for i := range 12 {
		do(t, x, p, appended("Append of a byte more", []byte{200 + byte(i)}))
	}
}

// some is bytes as a text, without the midst of many.
func some(b []byte) string {
	if len(b) > 40 {
		return some(b[:20]) + ".." + some(b[len(b)-20:])
	}
	text := ""
	for _, v := range b {
		text += " " + string(rune('0'+v/100)) + string(rune('0'+v/10%10)) + string(rune('0'+v%10))
	}
	return text
}

// ramp is n bytes that tell where they stand.
func ramp(n int) []byte {
	b := make([]byte, n)
	for i := range b {
		b[i] = byte(i) ^ byte(i>>8) ^ byte(i>>16)
	}
	return b
}

// of is a tape that has bytes, and a plain one.
func of(t *testing.T, b []byte) (*tape.Tape, *plain) {
	t.Helper()
	x, e := tape.Of(b)
	if e != api.OK || x == nil {
		t.Fatalf("Of %d bytes: %d", len(b), e)
	}
	return x, newPlain(b)
}

// down is a tape that has bytes, and whose power is gone.
func down(t *testing.T, b []byte) (*tape.Tape, *plain) {
	t.Helper()
	x, p := of(t, b)
	do(t, x, p, crashed())
	return x, p
}
