// Package pack is layer 1: see shared/doc/01-pack.md.
package pack

import (
	"slices"

	"flurry/api"
)

// How many bytes say how many there are: of bytes, and of a text.
const (
	bytesHead = 4
	textHead  = 2
)

// Packer is bytes that are put one behind the other.
type Packer struct {
	made  bool // api.OK is the zero Errno, so a zero struct can't be told by its error
	limit int
	out   []byte
	err   api.Errno
}

// New is a packer of so many bytes at most.
func New(limit int) *Packer {
	p := &Packer{made: true, limit: limit}
	if limit < 0 || limit > api.MaxPack {
		p.err = api.ErrArg
	}
	return p
}

// Byte, Short, Int, Long, Fixed, Bytes and Text put something.
func (p *Packer) Byte(v uint8) { setNumber(p.room(1), uint64(v)) }

func (p *Packer) Short(v uint16) { setNumber(p.room(2), uint64(v)) }

func (p *Packer) Int(v uint32) { setNumber(p.room(4), uint64(v)) }

func (p *Packer) Long(v uint64) { setNumber(p.room(8), v) }

func (p *Packer) Fixed(b ...byte) { copy(p.room(len(b)), b) }

func (p *Packer) Bytes(b []byte) {
	if r := p.room(bytesHead + len(b)); r != nil {
		setNumber(r[:bytesHead], uint64(len(b)))
		copy(r[bytesHead:], b)
	}
}

func (p *Packer) Text(s string) {
	if p.Err() == api.OK && len(s) > api.MaxText {
		p.err = api.ErrLong
	}
	if r := p.room(textHead + len(s)); r != nil {
		setNumber(r[:textHead], uint64(len(s)))
		copy(r[textHead:], s)
	}
}

// Len is how many bytes were put, Err the first error, Out all bytes.
func (p *Packer) Len() int {
	if p == nil {
		return 0
	}
	return len(p.out)
}

func (p *Packer) Err() api.Errno {
	if p == nil || !p.made {
		return api.ErrMade
	}
	return p.err
}

func (p *Packer) Out() ([]byte, api.Errno) {
	if e := p.Err(); e != api.OK {
		return nil, e
	}
	return slices.Clone(p.out), api.OK
}

// room is the place of n bytes more, to be written over at once; nil, if they can't be put.
func (p *Packer) room(n int) []byte {
	if p.Err() != api.OK {
		return nil
	}
	at := len(p.out)
	if n > p.limit-at {
		p.err = api.ErrRoom
		return nil
	}
	p.out = slices.Grow(p.out, n)[:at+n]
	return p.out[at:]
}

// setNumber writes v over all of b, the highest byte first.
func setNumber(b []byte, v uint64) {
	for i := len(b) - 1; i >= 0; i-- {
		b[i] = byte(v)
		v >>= 8
	}
}
