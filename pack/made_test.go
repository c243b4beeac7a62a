package pack_test

import (
	"strings"
	"testing"

	"flurry/api"
	"flurry/pack"
)

// R5: a packer that no call made answers ErrMade, has nothing, and takes nothing in.
func TestPackerNotMade(t *testing.T) {
	for name, p := range map[string]*pack.Packer{"nil": nil, "zero": {}} {
		t.Run(name, func(t *testing.T) {
			mustFail(t, p, api.ErrMade, 0)
			for _, x := range edgeParts() {
				x.put(p)
				mustFail(t, p, api.ErrMade, 0)
			}
			p.Text(strings.Repeat("k", api.MaxText+1))
			p.Fixed(ramp(api.MaxPack + 1)...)
			mustFail(t, p, api.ErrMade, 0)
		})
	}
}

// R5: an unpacker that no call made answers ErrMade, and zero values of all kinds.
func TestUnpackerNotMade(t *testing.T) {
	for name, u := range map[string]*pack.Unpacker{"nil": nil, "zero": {}} {
		t.Run(name, func(t *testing.T) {
			mustBeLeft(t, u, api.ErrMade, 0)
			for _, x := range edgeParts() {
				if !x.zero(u) {
					t.Errorf("%s: not the zero value", x.name)
				}
				mustBeLeft(t, u, api.ErrMade, 0)
			}
			for _, n := range []int{-1, 0, 1} {
				if b := u.Fixed(n); len(b) != 0 {
					t.Errorf("Fixed(%d): %v", n, b)
				}
				if b := u.Bytes(n); len(b) != 0 {
					t.Errorf("Bytes(%d): %v", n, b)
				}
				if s := u.Text(n); s != "" {
					t.Errorf("Text(%d): %q", n, s)
				}
				mustBeLeft(t, u, api.ErrMade, 0)
			}
		})
	}
}

// R5: one that a call made is not taken for one that none made, though it holds nothing.
func TestMadeOfNothing(t *testing.T) {
	mustHold(t, pack.New(0), nil)
	mustBeLeft(t, pack.Read(nil), api.OK, 0)
}
