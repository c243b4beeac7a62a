package vdr_test

import (
	"slices"
	"strings"
	"testing"
	"unicode/utf8"

	"flurry/api"
	"flurry/vdr"
)

// P5.1: runes are counted, not bytes; a byte that begins none is one.
func TestRunes(t *testing.T) {
	for _, x := range []struct {
		s    string
		want int
	}{
		{"", 0}, {"a", 1}, {"bö-2", 4}, {"ɏɏ", 2}, {"€", 1}, {"\U0001f600", 1}, {"o\u0308", 2}, {"\x00\n", 2},
		{"\xff", 1}, {"\xff\xfe", 2}, {"\x80a\x80", 3}, {"\xc3", 1}, {"a\xc3", 2}, {"\xc3\xc3\xa4", 2}, {"\xe2\x82", 2},
		{"\xc0\xaf", 2}, {"\xed\xa0\x80", 3}, {"\xf4\x90\x80\x80", 4}, {"\ufffd", 1}, {strings.Repeat("ä", 5000), 5000},
	} {
		if got := vdr.Runes(x.s); got != x.want {
			t.Errorf("%.20q: %d, not %d", x.s, got, x.want)
		}
	}
	for _, l := range goodSets() {
		for _, v := range l {
			if got := vdr.Runes(v.Name); got != utf8.RuneCountInString(v.Name) {
				t.Errorf("%q: %d", v.Name, got)
			}
		}
	}
}

// P5.1: each rune that there is, at each place of a name, may stand there or not.
func TestNameOfEachRune(t *testing.T) {
	may := make([]bool, utf8.MaxRune+1)
	for _, r := range letters {
		may[r] = true
	}
	for r := range rune(len(may)) {
		want := api.ErrName
		if may[r] {
			want = api.OK
		}
		if got := vdr.Name(string(r)); got != want {
			t.Errorf("U+%04X alone: %d", r, got)
		}
		if got := vdr.Name("a" + string(r)); got != want {
			t.Errorf("U+%04X behind an a: %d", r, got)
		}
		if got := vdr.Name(string(r) + "-"); got != want {
			t.Errorf("U+%04X ahead of a hyphen: %d", r, got)
		}
	}
}

// P5.1: a name has from 1 to MaxName runes, of however many bytes.
func TestNameOfEachLength(t *testing.T) {
	for n := range 40 {
		want := api.OK
		if n < 1 || n > 16 {
			want = api.ErrName
		}
		for _, r := range []string{"a", "0", "-", "ö", "ɏ"} {
			if got := vdr.Name(strings.Repeat(r, n)); got != want {
				t.Errorf("%d of %s: %d", n, r, got)
			}
		}
	}
	if len(letters) != 10+26+1+62+128+128+80 {
		t.Errorf("%d letters", len(letters))
	}
}

// P5.1, R1: names that may not be, also of bytes that are no runes.
func TestNamesThatMayNotBe(t *testing.T) {
	for _, s := range badNames() {
		if got := vdr.Name(s); got != api.ErrName {
			t.Errorf("%.20q: %d", s, got)
		}
	}
	for b := range 128 {
		for _, at := range []string{string([]byte{byte(128 + b)}), string([]byte{'a', byte(128 + b)}), string([]byte{byte(128 + b), 'a'})} {
			if got := vdr.Name(at); got != api.ErrName {
				t.Errorf("%q: %d", at, got)
			}
		}
	}
	if got := vdr.Name(strings.Repeat("ä", 1<<22)); got != api.ErrName {
		t.Errorf("a long one: %d", got)
	}
}

// P5.1: of any two bytes, those that are runes of a name, or a letter's of two bytes, are a name.
func TestNameOfEachTwoBytes(t *testing.T) {
	for a := range 256 {
		for b := range 256 {
			s := string([]byte{byte(a), byte(b)})
			want := api.OK
			for _, r := range []rune(s) {
				if !slices.Contains(letters, r) {
					want = api.ErrName
				}
			}
			if got := vdr.Name(s); got != want {
				t.Errorf("%q: %d", s, got)
			}
		}
	}
}
