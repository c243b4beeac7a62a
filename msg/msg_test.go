package msg_test

import (
	"math"
	"testing"

	"flurry/api"
	"flurry/msg"
)

// P4.1: messages that may be, of all kinds, at all edges.
func TestCheckOfMessagesThatMayBe(t *testing.T) {
	for _, m := range goodMsgs() {
		if e := msg.Check(m); e != api.OK {
			t.Errorf("%.80s: %d", told(m), e)
		}
	}
}

// P4.1, R4: empty lists are as good as nil.
func TestCheckOfEmptyLists(t *testing.T) {
	for _, m := range []api.Msg{
		{Kind: api.MsGetFrontier, IDs: []api.ID{}, Blocks: [][]byte{}},
		{Kind: api.MsFrontier, IDs: ids(1), Blocks: [][]byte{}},
		{Kind: api.MsAccepted, IDs: []api.ID{}, Blocks: [][]byte{}},
		{Kind: api.MsAncestors, IDs: []api.ID{}, Blocks: [][]byte{}},
		{Kind: api.MsPut, IDs: []api.ID{}, Blocks: [][]byte{{}}},
		{Kind: api.MsPut, Blocks: [][]byte{nil}},
	} {
		if e := msg.Check(m); e != api.OK {
			t.Errorf("%.80s: %d", told(m), e)
		}
	}
}

// P4.1: messages that may not be: no kind, a number out of its range, too few or too many names or blocks, blocks that are too long.
func TestCheckOfMessagesThatMayNotBe(t *testing.T) {
	for _, m := range badMsgs() {
		if e := msg.Check(m); e != api.ErrMsg {
			t.Errorf("%.80s: %d", told(m), e)
		}
	}
}

// P4.1, R4: Same holds any messages against each other field by field.
func TestSame(t *testing.T) {
	l := []api.Msg{
		{}, {Kind: 1}, {Kind: -1}, {Kind: math.MaxInt}, {Req: 1}, {Req: -1}, {Req: math.MinInt64}, {Kind: 1, Req: 1},
		{IDs: make([]api.ID, 1)}, {IDs: make([]api.ID, 2)}, {IDs: ids(1)}, {IDs: ids(2)}, {IDs: ids(3)[1:]},
		{Blocks: [][]byte{nil}}, {Blocks: [][]byte{nil, nil}}, {Blocks: [][]byte{{0}}}, {Blocks: [][]byte{{0}, nil}},
		{Blocks: [][]byte{nil, {0}}}, {Blocks: [][]byte{{1}}}, {Blocks: [][]byte{{0, 1}}}, {Blocks: [][]byte{{0}, {1}}},
		{Blocks: many(20)}, {IDs: ids(40), Blocks: many(20)}, {IDs: ids(1), Blocks: [][]byte{nil}},
	}
	for i, a := range l {
		for j, b := range l {
			if got := msg.Same(a, copied(b)); got != (i == j) {
				t.Errorf("%.80s and %.80s: %v", told(a), told(b), got)
			}
		}
	}
	a := api.Msg{Kind: 6, Blocks: [][]byte{nil, {}}}
	b := api.Msg{Kind: 6, IDs: []api.ID{}, Blocks: [][]byte{{}, nil}}
	if !msg.Same(a, b) || !msg.Same(b, a) || !msg.Same(api.Msg{}, api.Msg{IDs: []api.ID{}, Blocks: [][]byte{}}) {
		t.Error("empty lists and nil are not the same")
	}
}

// P4.1: one byte that differs is enough.
func TestSameButForOneByte(t *testing.T) {
	a := api.Msg{Kind: 6, Req: 7, IDs: ids(3), Blocks: [][]byte{ramp(9), ramp(2)}}
	for i := range a.IDs {
		for j := range a.IDs[i] {
			b := copied(a)
			b.IDs[i][j]++
			mustDiffer(t, a, b)
		}
	}
	for i := range a.Blocks {
		for j := range a.Blocks[i] {
			b := copied(a)
			b.Blocks[i][j]++
			mustDiffer(t, a, b)
		}
	}
	for bit := range 64 {
		b := copied(a)
		b.Req ^= 1 << bit
		mustDiffer(t, a, b)
		b = copied(a)
		b.Kind ^= 1 << bit
		mustDiffer(t, a, b)
	}
}

func mustDiffer(t *testing.T, a, b api.Msg) {
	t.Helper()
	if msg.Same(a, b) || msg.Same(b, a) {
		t.Errorf("%s and %s are the same", told(a), told(b))
	}
}

// P4.1, R3: a clone is the same, of any message, and neither sees the other's changes.
func TestClone(t *testing.T) {
	for _, m := range append(goodMsgs(), badMsgs()...) {
		was := copied(m)
		c := msg.Clone(m)
		if !alike(c, was) || !alike(m, was) {
			t.Fatalf("%.80s: a clone is %.80s", told(was), told(c))
		}
		spoil(m)
		if !alike(c, was) {
			t.Fatalf("%.80s: the clone saw a change", told(was))
		}
	}
	m := api.Msg{IDs: ids(2), Blocks: many(2)}
	was := copied(m)
	spoil(msg.Clone(m))
	if !alike(m, was) {
		t.Error("the message saw its clone's change")
	}
}

// P4.1, R3: lists that are pieces of longer ones are cloned without what is behind them.
func TestCloneOfPiecesOfLists(t *testing.T) {
	m := api.Msg{IDs: ids(3), Blocks: [][]byte{{1, 2, 3}, {4}}}
	was := copied(m)
	c := msg.Clone(api.Msg{IDs: m.IDs[:1], Blocks: [][]byte{m.Blocks[0][:1], m.Blocks[0][1:2]}})
	_ = append(c.IDs, api.ID{9})
	_ = append(c.Blocks, nil)
	_ = append(c.Blocks[0], 9)
	_ = append(c.Blocks[1], 9)
	if !alike(m, was) || c.Blocks[0][0] != 1 || c.Blocks[1][0] != 2 {
		t.Errorf("%s, then %s", told(m), told(c))
	}
}

// spoil writes over all that a message bears.
func spoil(m api.Msg) {
	for i := range m.IDs {
		m.IDs[i][0]++
	}
	for _, b := range m.Blocks {
		for i := range b {
			b[i]++
		}
	}
	for i := range m.Blocks {
		m.Blocks[i] = []byte{0xee}
	}
}

// P4.3: what answers a kind, and a kind's name, as the chapter's table has them.
func TestReplyAndName(t *testing.T) {
	for _, r := range table {
		if got := msg.Reply(r.kind); got != r.reply {
			t.Errorf("%s is answered by %d", r.name, got)
		}
		if got := msg.Name(r.kind); got != r.name {
			t.Errorf("%d is %q", r.kind, got)
		}
	}
}

// P4.3, R1: what is no kind has neither.
func TestReplyAndNameOfNoKind(t *testing.T) {
	l := []int{math.MinInt, math.MaxInt, 1 << 32, 1<<32 + 1, 256, 257, 259, -256, -255}
	for n := range 300 {
		l = append(l, -n, 12+n)
	}
	for _, kind := range l {
		if msg.Reply(kind) != 0 || msg.Name(kind) != "" {
			t.Errorf("%d: %d %q", kind, msg.Reply(kind), msg.Name(kind))
		}
	}
}
