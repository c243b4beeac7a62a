package sha_test

import (
	"bytes"
	"fmt"
	"math/rand/v2"
	"strings"
	"testing"
	"unicode/utf8"

	"flurry/api"
	"flurry/sha"
)

// someNames are names at the edges of the order, some that differ in one byte, and random ones, some of them twice.
func someNames() []api.ID {
	var l []api.ID
	for place := range len(api.ID{}) {
		for _, v := range []byte{0, 1, 9, 10, 15, 16, 127, 128, 159, 160, 255} {
			var low, high api.ID
			for i := range high {
				high[i] = 255
			}
			low[place], high[place] = v, v
			l = append(l, low, high)
		}
	}
	r := rand.New(rand.NewPCG(5, 6))
	for range 60 {
		var id api.ID
		for i := range id {
			id[i] = byte(r.Uint32())
		}
		near := id
		near[r.IntN(len(near))]++
		l = append(l, id, near)
	}
	return l
}

// P2.2: each byte is two digits, in order.
func TestHex(t *testing.T) {
	for place := range len(api.ID{}) {
		for v := range 256 {
			var id api.ID
			for i := range id {
				id[i] = byte(7 * i)
			}
			id[place] = byte(v)
			if got, want := sha.Hex(id), fmt.Sprintf("%x", id[:]); got != want {
				t.Errorf("%v: %s, want %s", id, got, want)
			}
		}
	}
	if got := sha.Hex(api.ID{}); got != strings.Repeat("0", 64) {
		t.Errorf("the zero name: %s", got)
	}
}

// P2.5: Parse of Hex is the name, Hex of Parse the text.
func TestHexThereAndBack(t *testing.T) {
	for _, id := range someNames() {
		text := sha.Hex(id)
		back, e := sha.Parse(text)
		if back != id || e != api.OK || sha.Hex(back) != text {
			t.Errorf("%s: %x %d", text, back, e)
		}
	}
}

// P2.5: texts that Hex did not write.
func TestParse(t *testing.T) {
	for text, want := range map[string]api.ID{
		strings.Repeat("0", 64):                      {},
		strings.Repeat("0", 62) + "1f":               {31: 31},
		"a9" + strings.Repeat("0", 62):               {0: 169},
		"0123456789abcdef" + strings.Repeat("0", 48): {0x01, 0x23, 0x45, 0x67, 0x89, 0xab, 0xcd, 0xef},
	} {
		id, e := sha.Parse(text)
		if id != want || e != api.OK || sha.Hex(id) != text {
			t.Errorf("%s: %x %d, want %x", text, id, e, want)
		}
	}
}

func mustNotParse(t *testing.T, text string) {
	t.Helper()
	if id, e := sha.Parse(text); id != (api.ID{}) || e != api.ErrHex {
		t.Errorf("%q: %x %d", text, id, e)
	}
}

// P2.2: texts of any other length name no block.
func TestParseOfOtherLengths(t *testing.T) {
	for n := range 200 {
		if n != 64 {
			mustNotParse(t, strings.Repeat("7", n))
			mustNotParse(t, strings.Repeat("f", n))
		}
	}
	mustNotParse(t, strings.Repeat("0", 1<<20))
}

// P2.2: anything but a digit, at any place, names no block; letters are small.
func TestParseOfOtherBytes(t *testing.T) {
	whole := []byte(strings.Repeat("9f", 32))
	for place := range whole {
		for v := range 256 {
			if strings.IndexByte("0123456789abcdef", byte(v)) < 0 {
				b := bytes.Clone(whole)
				b[place] = byte(v)
				mustNotParse(t, string(b))
			}
		}
	}
	mustNotParse(t, strings.ToUpper(string(whole)))
	mustNotParse(t, "0x"+string(whole[2:]))
	mustNotParse(t, " "+string(whole))
	mustNotParse(t, string(whole)+"\n")
}

// P2.2: runes of several bytes, with 64 bytes or with 64 runes in all, even where a digit's number stands in their last bits.
func TestParseOfOtherRunes(t *testing.T) {
	for _, r := range []rune{0x80, 0xe9, 0x130, 0x161, 0x661, 0x3061, 0x3030, 0xff11, 0xff41, 0x10030, 0x10ffff, utf8.RuneError} {
		n := utf8.RuneLen(r)
		for at := range 64 - n + 1 {
			mustNotParse(t, strings.Repeat("1", at)+string(r)+strings.Repeat("1", 64-n-at))
		}
		mustNotParse(t, strings.Repeat("1", 63)+string(r))
		mustNotParse(t, string(r)+strings.Repeat("1", 63))
		mustNotParse(t, strings.Repeat(string(r), 64))
	}
}

// P2.3: names come as their bytes do, the first one that differs telling it.
func TestCompare(t *testing.T) {
	l := someNames()
	for _, a := range l {
		for _, b := range l {
			want := bytes.Compare(a[:], b[:])
			if got, less := sha.Compare(a, b), sha.Less(a, b); got != want || less != (want == -1) {
				t.Errorf("%x and %x: %d %v, want %d", a, b, got, less, want)
			}
		}
	}
}

// P2.6: turned it says the other way, only the same are the same, and texts come in the same order.
func TestCompareTurned(t *testing.T) {
	l := someNames()
	for _, a := range l {
		for _, b := range l {
			c := sha.Compare(a, b)
			if c != -sha.Compare(b, a) || (c == 0) != (a == b) || c != strings.Compare(sha.Hex(a), sha.Hex(b)) {
				t.Errorf("%x and %x: %d, turned %d, texts %d", a, b, c, sha.Compare(b, a), strings.Compare(sha.Hex(a), sha.Hex(b)))
			}
		}
	}
}

// P2.6: it goes on by a third one.
func TestCompareByAThird(t *testing.T) {
	l := someNames()
	r := rand.New(rand.NewPCG(7, 8))
	for range 200000 {
		a, b, c := l[r.IntN(len(l))], l[r.IntN(len(l))], l[r.IntN(len(l))]
		if x, y := sha.Compare(a, b), sha.Compare(b, c); x == y && sha.Compare(a, c) != x {
			t.Errorf("%x, %x, %x: %d, but the first and the third: %d", a, b, c, x, sha.Compare(a, c))
		}
	}
}

// R6: the same calls answer the same.
func TestSameNamesSameAnswers(t *testing.T) {
	for _, id := range someNames() {
		a, _ := sha.Parse(sha.Hex(id))
		b, _ := sha.Parse(sha.Hex(id))
		if a != b || sha.Hex(id) != sha.Hex(id) || sha.Sum(id[:]) != sha.Sum(id[:]) {
			t.Errorf("%x: two answers", id)
		}
	}
}
