package pack

import (
	"slices"

	"flurry/api"
)

// Unpacker is bytes that are taken.
type Unpacker struct {
	made bool
	left []byte
	err  api.Errno
}

// Read is an unpacker of bytes.
func Read(b []byte) *Unpacker {
	return &Unpacker{made: true, left: slices.Clone(b)}
}

// Byte, Short, Int, Long, Fixed, Bytes and Text take something.
func (u *Unpacker) Byte() uint8 { return uint8(number(u.take(1))) }

func (u *Unpacker) Short() uint16 { return uint16(number(u.take(2))) }

func (u *Unpacker) Int() uint32 { return uint32(number(u.take(4))) }

func (u *Unpacker) Long() uint64 { return number(u.take(8)) }

func (u *Unpacker) Fixed(n int) []byte { return slices.Clone(u.take(n)) }

func (u *Unpacker) Bytes(most int) []byte { return slices.Clone(u.counted(bytesHead, most)) }

func (u *Unpacker) Text(most int) string { return string(u.counted(textHead, most)) }

// Rest is how many bytes are left, Err the first error, End whether all was right, and all was taken.
func (u *Unpacker) Rest() int {
	if u == nil {
		return 0
	}
	return len(u.left)
}

func (u *Unpacker) Err() api.Errno {
	if u == nil || !u.made {
		return api.ErrMade
	}
	return u.err
}

func (u *Unpacker) End() api.Errno {
	if e := u.Err(); e != api.OK {
		return e
	}
	if len(u.left) > 0 {
		return api.ErrMore
	}
	return api.OK
}

// take is the next n bytes, still the unpacker's own; nil with an error.
func (u *Unpacker) take(n int) []byte {
	if u.Err() != api.OK {
		return nil
	}
	if n < 0 {
		u.err = api.ErrArg
		return nil
	}
	if n > len(u.left) {
		u.err = api.ErrShort
		return nil
	}
	b := u.left[:n]
	u.left = u.left[n:]
	return b
}

// counted is what stands behind a count of so many bytes, still the unpacker's own; nil with an error.
func (u *Unpacker) counted(head, most int) []byte {
	if u.Err() != api.OK {
		return nil
	}
	u.err = countError(u.left, head, most)
	if u.err != api.OK {
		return nil
	}
	n := int(number(u.take(head)))
	return u.take(n)
}

// countError looks at the count without taking it, so that with an error the count stays, too.
func countError(left []byte, head, most int) api.Errno {
	if most < 0 {
		return api.ErrArg
	}
	if len(left) < head {
		return api.ErrShort
	}
	n := number(left[:head])
	if n > uint64(most) {
		return api.ErrLong
	}
	if n > uint64(len(left)-head) {
		return api.ErrShort
	}
	return api.OK
}

// number is the number that all of b writes, the highest byte first.
func number(b []byte) uint64 {
	var v uint64
	for _, x := range b {
		v = v<<8 | uint64(x)
	}
	return v
}
