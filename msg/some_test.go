package msg_test

import (
	"encoding/binary"
	"fmt"
	"math/rand/v2"
	"testing"

	"flurry/api"
	"flurry/msg"
)

// kindRow is a line of the chapter's table, and what answers the kind.
type kindRow struct {
	kind            int
	name            string
	fewIDs, manyIDs int
	few, many       int
	counted         bool
	reply           int
}

var table = []kindRow{
	{1, "get_frontier", 0, 0, 0, 0, false, 2},
	{2, "frontier", 1, 1, 0, 0, false, 0},
	{3, "get_accepted", 0, 32, 0, 0, true, 4},
	{4, "accepted", 0, 32, 0, 0, true, 0},
	{5, "get_ancestors", 1, 1, 0, 0, false, 6},
	{6, "ancestors", 0, 0, 0, 16, true, 0},
	{7, "get", 1, 1, 0, 0, false, 8},
	{8, "put", 0, 0, 1, 1, false, 0},
	{9, "push_query", 0, 0, 1, 1, false, 11},
	{10, "pull_query", 1, 1, 0, 0, false, 11},
	{11, "chits", 2, 2, 0, 0, false, 0},
}

// ids are n names none of which is like another one.
func ids(n int) []api.ID {
	l := make([]api.ID, n)
	for i := range l {
		for j := range l[i] {
			l[i][j] = byte(i + j + 1)
		}
	}
	return l
}

// many are n blocks' bytes of unlike lengths, the first one as long as it may be.
func many(n int) [][]byte {
	l := make([][]byte, n)
	for i := range l {
		l[i] = ramp(max(0, api.MaxBlock-i*i*2))
	}
	return l
}

// ramp is n bytes none of which is like the one beside it.
func ramp(n int) []byte {
	b := make([]byte, n)
	for i := range b {
		b[i] = byte(i + 1)
	}
	return b
}

// goodMsgs are unlike messages that may be, of all kinds with all counts that they may bear.
func goodMsgs() []api.Msg {
	var l []api.Msg
	for _, r := range table {
		for n := r.fewIDs; n <= r.manyIDs; n++ {
			for m := r.few; m <= r.many; m++ {
				for _, req := range []int64{0, 1, 255, 256, 0x01020304, api.MaxReq - 1, api.MaxReq} {
					l = append(l, api.Msg{Kind: r.kind, Req: req, IDs: ids(n), Blocks: many(m)})
				}
			}
		}
	}
	for _, kind := range []int{api.MsPut, api.MsPushQuery} {
		for n := range api.MaxBlock { // MaxBlock is above
			l = append(l, api.Msg{Kind: kind, Req: 9, Blocks: [][]byte{ramp(n)}})
		}
	}
	for _, blocks := range [][][]byte{{nil}, {nil, nil}, {{0}}, {{0}, nil}, {nil, {0}}, {{0, 0, 0, 0}}, make([][]byte, api.MaxMany)} {
		l = append(l, api.Msg{Kind: api.MsAncestors, Req: 9, Blocks: blocks})
	}
	return append(l, randomMsgs()...)
}

// randomMsgs are messages that may be, the same in each run.
func randomMsgs() []api.Msg {
	r := rand.New(rand.NewPCG(4, 11))
	l := make([]api.Msg, 300)
	for i := range l {
		row := table[r.IntN(len(table))]
		m := api.Msg{Kind: row.kind, Req: int64(r.Uint32() >> 1)}
		m.IDs = make([]api.ID, row.fewIDs+r.IntN(row.manyIDs-row.fewIDs+1))
		for j := range m.IDs {
			copy(m.IDs[j][:], randomBytes(r, len(api.ID{})))
		}
		m.Blocks = make([][]byte, row.few+r.IntN(row.many-row.few+1))
		for j := range m.Blocks {
			m.Blocks[j] = randomBytes(r, r.IntN(api.MaxBlock+1))
		}
		l[i] = m
	}
	return l
}

func randomBytes(r *rand.Rand, n int) []byte {
	b := make([]byte, n)
	for i := range b {
		b[i] = byte(r.Uint32())
	}
	return b
}

// badMsgs are messages that may not be, each for one reason or for several.
func badMsgs() []api.Msg {
	var l []api.Msg
	for _, kind := range []int{0, -1, -11, 12, 13, 255, 256, 257, 256 + 11, 1 << 32, 1<<32 + 1, -1 << 63, -255} {
		l = append(l, api.Msg{Kind: kind}, api.Msg{Kind: kind, IDs: ids(1)}, api.Msg{Kind: kind, IDs: ids(2)}, api.Msg{Kind: kind, Blocks: many(1)})
	}
	for _, r := range table {
		for n := range api.MaxIDs + 4 {
			for m := range api.MaxMany + 4 {
				if n < r.fewIDs || n > r.manyIDs || m < r.few || m > r.many {
					l = append(l, api.Msg{Kind: r.kind, Req: 5, IDs: ids(n), Blocks: many(m)})
				}
			}
		}
		for _, req := range []int64{-1, -2, api.MaxReq + 1, 1<<32 - 1, 1 << 32, 1<<32 + 1, 1<<63 - 1, -1 << 63} {
			l = append(l, api.Msg{Kind: r.kind, Req: req, IDs: ids(r.fewIDs), Blocks: many(r.few)})
		}
		for m := max(1, r.few); m <= r.many; m++ {
			for at := range m {
				l = append(l, withLong(r.kind, m, at, api.MaxBlock+1), withLong(r.kind, m, at, 1<<16))
			}
		}
	}
	return append(l, api.Msg{Kind: api.MsAccepted, IDs: make([]api.ID, 1<<16)}, api.Msg{Kind: api.MsAncestors, Blocks: make([][]byte, 1<<16)})
}

// withLong is a message with so many blocks, one of which has so many bytes.
func withLong(kind, count, at, long int) api.Msg {
	m := api.Msg{Kind: kind, Req: 5, Blocks: make([][]byte, count)}
	m.Blocks[at] = make([]byte, long)
	return m
}

// formed is a message's bytes by another way than the package's, that asks nothing of the message.
func formed(m api.Msg) []byte {
	l := binary.BigEndian.AppendUint32([]byte{byte(m.Kind)}, uint32(m.Req))
	counted := false
	for _, r := range table {
		if r.kind == m.Kind {
			counted = r.counted
		}
	}
	if counted {
		l = binary.BigEndian.AppendUint32(l, uint32(len(m.IDs)+len(m.Blocks)))
	}
	for _, id := range m.IDs {
		l = append(l, id[:]...)
	}
	for _, b := range m.Blocks {
		l = append(binary.BigEndian.AppendUint32(l, uint32(len(b))), b...)
	}
	return l
}

// copied is a message in memory of its own by another way than the package's.
func copied(m api.Msg) api.Msg {
	c := api.Msg{Kind: m.Kind, Req: m.Req, IDs: append([]api.ID{}, m.IDs...)}
	for _, b := range m.Blocks {
		c.Blocks = append(c.Blocks, append([]byte{}, b...))
	}
	return c
}

// alike tells whether two messages are the same by another way than the package's.
func alike(a, b api.Msg) bool { return told(a) == told(b) }

func told(m api.Msg) string { return fmt.Sprintf("%d %d %x %x", m.Kind, m.Req, m.IDs, m.Blocks) }

func isZero(m api.Msg) bool {
	return m.Kind == 0 && m.Req == 0 && len(m.IDs) == 0 && len(m.Blocks) == 0
}

func mustNotParse(t *testing.T, b []byte) {
	t.Helper()
	if m, e := msg.Parse(b); e != api.ErrMsg || !isZero(m) {
		t.Errorf("%.60x (%d bytes): %.60s %d", b, len(b), told(m), e)
	}
}
