package msg_test

import (
	"bytes"
	"math/rand/v2"
	"testing"

	"flurry/api"
	"flurry/msg"
)

// P4.2, P4.4: a message's bytes are of the chapter's form, Size is how many, and Parse tells the message.
func TestThereAndBack(t *testing.T) {
	for _, m := range goodMsgs() {
		was := copied(m)
		b, e := msg.Bytes(m)
		if e != api.OK || !bytes.Equal(b, formed(m)) {
			t.Fatalf("Bytes of %.80s: %.80x %d", told(m), b, e)
		}
		if got := msg.Size(m); got != len(b) || got > api.MaxMsg {
			t.Errorf("Size of %.80s: %d", told(m), got)
		}
		back, e := msg.Parse(b)
		if e != api.OK || !alike(back, m) || !msg.Same(back, m) || !bytes.Equal(b, formed(m)) {
			t.Errorf("Parse of %.80x: %.80s %d", b, told(back), e)
		}
		if !alike(m, was) {
			t.Fatalf("%.80s was written to: %.80s", told(was), told(m))
		}
	}
}

// P4.2: a message that may not be has no bytes, and its bytes are none's.
func TestBytesOfMessagesThatMayNotBe(t *testing.T) {
	for _, m := range badMsgs() {
		if b, e := msg.Bytes(m); e != api.ErrMsg || len(b) != 0 {
			t.Errorf("Bytes of %.80s: %.40x %d", told(m), b, e)
		}
		if got := msg.Size(m); got != 0 {
			t.Errorf("Size of %.80s: %d", told(m), got)
		}
	}
}

// P4.2: the chapter's examples, and one message of each form byte for byte.
func TestBytesOfExamples(t *testing.T) {
	two := ids(2)
	for _, x := range []struct {
		m    api.Msg
		want []byte
	}{
		{api.Msg{Kind: 11, Req: 7, IDs: two}, append(append([]byte{0x0b, 0, 0, 0, 7}, two[0][:]...), two[1][:]...)},
		{api.Msg{Kind: 6, Req: 1}, []byte{6, 0, 0, 0, 1, 0, 0, 0, 0}},
		{api.Msg{Kind: 1, Req: 0x41424344}, []byte{1, 0x41, 0x42, 0x43, 0x44}},
		{api.Msg{Kind: 7, Req: api.MaxReq, IDs: two[1:]}, append([]byte{7, 127, 255, 255, 255}, two[1][:]...)},
		{api.Msg{Kind: 3, Req: 2, IDs: two[:1]}, append([]byte{3, 0, 0, 0, 2, 0, 0, 0, 1}, two[0][:]...)},
		{api.Msg{Kind: 8, Req: 3, Blocks: [][]byte{{5, 6, 7}}}, []byte{8, 0, 0, 0, 3, 0, 0, 0, 3, 5, 6, 7}},
		{api.Msg{Kind: 9, Req: 3, Blocks: [][]byte{nil}}, []byte{9, 0, 0, 0, 3, 0, 0, 0, 0}},
		{api.Msg{Kind: 6, Req: 4, Blocks: [][]byte{{9}, {}, {8, 7}}}, []byte{6, 0, 0, 0, 4, 0, 0, 0, 3, 0, 0, 0, 1, 9, 0, 0, 0, 0, 0, 0, 0, 2, 8, 7}},
	} {
		if b, e := msg.Bytes(x.m); e != api.OK || !bytes.Equal(b, x.want) {
			t.Errorf("%s: %x %d", told(x.m), b, e)
		}
		if m, e := msg.Parse(x.want); e != api.OK || !alike(m, x.m) {
			t.Errorf("%x: %s %d", x.want, told(m), e)
		}
	}
}

// P4.4: the longest message has MaxMsg bytes.
func TestTheLongestMessage(t *testing.T) {
	m := api.Msg{Kind: api.MsAncestors, Req: api.MaxReq}
	for range api.MaxMany {
		m.Blocks = append(m.Blocks, ramp(api.MaxBlock))
	}
	b, e := msg.Bytes(m)
	if e != api.OK || len(b) != 4009 || msg.Size(m) != api.MaxMsg {
		t.Errorf("%d bytes, %d", len(b), e)
	}
	if back, e := msg.Parse(b); e != api.OK || !alike(back, m) {
		t.Errorf("%d", e)
	}
}

// P4.5: bytes with something more behind, or with less, are none.
func TestParseOfMoreOrLess(t *testing.T) {
	for _, m := range goodMsgs() {
		b, _ := msg.Bytes(m)
		for n := range len(b) {
			if n < 20 || n%31 == 0 || n > len(b)-40 {
				mustNotParse(t, b[:n])
			}
		}
		for _, more := range [][]byte{{0}, {1}, make([]byte, 4), make([]byte, 32), make([]byte, 36), b} {
			mustNotParse(t, append(bytes.Clone(b), more...))
		}
	}
}

// P4.2: bytes of no kind, or of a number beyond MaxReq, are none.
func TestParseOfWrongHeads(t *testing.T) {
	for kind := range 256 {
		if kind >= 1 && kind <= 11 {
			continue
		}
		for _, behind := range []int{0, 4, 32, 64} {
			mustNotParse(t, append([]byte{byte(kind), 0, 0, 0, 1}, make([]byte, behind)...))
		}
	}
	for _, r := range table {
		b := formed(api.Msg{Kind: r.kind, Req: 1, IDs: ids(r.fewIDs), Blocks: many(r.few)})
		for _, first := range []byte{128, 129, 200, 255} {
			b[1] = first
			mustNotParse(t, b)
		}
	}
	mustNotParse(t, nil)
	mustNotParse(t, []byte{})
}

// P4.2, R1: counts that there may not be are refused, whether what they claim is there or not.
func TestParseOfWrongCounts(t *testing.T) {
	for _, m := range badMsgs() {
		if m.Req == 5 {
			counted := m.Kind == api.MsAncestors && len(m.IDs) == 0 || (m.Kind == api.MsGetAccepted || m.Kind == api.MsAccepted) && len(m.Blocks) == 0
			if counted {
				mustNotParse(t, formed(m))
			}
		}
	}
	for _, count := range [][]byte{{0, 0, 0, 33}, {0, 0, 1, 0}, {0, 1, 0, 0}, {1, 0, 0, 0}, {128, 0, 0, 0}, {255, 255, 255, 255}, {0, 0, 1, 1}} {
		for _, kind := range []byte{3, 4, 6, 8, 9} {
			head := append([]byte{kind, 0, 0, 0, 5}, count...)
			for _, behind := range []int{0, 4, 32, 33 * 4, 33 * 32, 32 * 32, 16 * 4, 17 * 4, 256, 257, 4009} {
				if kind < 8 || int(count[2])<<8|int(count[3]) != behind || count[0] != 0 || count[1] != 0 || behind > api.MaxBlock {
					mustNotParse(t, append(bytes.Clone(head), make([]byte, behind)...))
				}
			}
		}
	}
	for n := api.MaxBlock + 1; n < api.MaxBlock+20; n++ {
		mustNotParse(t, formed(api.Msg{Kind: api.MsPut, Req: 1, Blocks: [][]byte{ramp(n)}}))
	}
}

// P4.2, P4.4, R1: of any bytes Parse tells the message whose bytes they are, or none.
func TestParseOfAnyBytes(t *testing.T) {
	r := rand.New(rand.NewPCG(5, 6))
	good := goodMsgs()
	parsed := 0
	for range 20000 {
		b := formed(good[r.IntN(len(good))])
		for range r.IntN(4) {
			b[r.IntN(min(len(b), 1+r.IntN(40)))] = byte(r.Uint32() >> r.IntN(9))
		}
		was := bytes.Clone(b)
		m, e := msg.Parse(b)
		if !bytes.Equal(b, was) {
			t.Fatalf("%.60x was written to", was)
		}
		if e != api.OK {
			mustNotParse(t, b)
			continue
		}
		parsed++
		if back, e := msg.Bytes(m); e != api.OK || !bytes.Equal(back, b) || !bytes.Equal(formed(m), b) {
			t.Fatalf("%.60x: %.60x %d", b, back, e)
		}
	}
	if parsed < 1000 || parsed > 19000 {
		t.Errorf("%d were a message's", parsed)
	}
}

// P4.5: messages that are not the same have unlike bytes.
func TestNoTwoAlike(t *testing.T) {
	seen := map[string]string{}
	for _, m := range goodMsgs() {
		b, _ := msg.Bytes(m)
		if was, ok := seen[string(b)]; ok && was != told(m) {
			t.Errorf("%.80s and %.80s have the same bytes", was, told(m))
		}
		seen[string(b)] = told(m)
	}
	if len(seen) < 700 {
		t.Errorf("only %d messages", len(seen))
	}
}

// R3: what Bytes and Parse answer is nobody else's.
func TestAnswersAreOnesOwn(t *testing.T) {
	m := api.Msg{Kind: api.MsAncestors, Req: 3, Blocks: [][]byte{{1, 2}, {3}}}
	b, _ := msg.Bytes(m)
	back, _ := msg.Parse(b)
	names, _ := msg.Bytes(api.Msg{Kind: api.MsChits, IDs: ids(2)})
	chits, _ := msg.Parse(names)
	for i := range b {
		b[i] = 99
	}
	for i := range names {
		names[i] = 99
	}
	if !alike(back, m) || !alike(chits, api.Msg{Kind: api.MsChits, IDs: ids(2)}) {
		t.Errorf("the messages saw a change: %s, %s", told(back), told(chits))
	}
	_ = append(back.Blocks[0], 98)
	if back.Blocks[1][0] != 3 {
		t.Error("one block lies behind the other one")
	}
	back.Blocks[0][0] = 97
	again, _ := msg.Bytes(m)
	if m.Blocks[0][0] != 1 || !bytes.Equal(again, formed(m)) {
		t.Error("the message saw a change")
	}
}
