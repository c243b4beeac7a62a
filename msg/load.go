package msg

import (
	"flurry/api"
	"flurry/pack"
)

// span is how many there may be; where that is no choice, their count is not written.
type span struct{ least, most int }

// names and blocks are what a kind bears.
type (
	names  struct{ span }
	blocks struct{ span }
)

// loadOf is what a kind bears: names or blocks; nil, if it is no kind.
func loadOf(kind int) any {
	switch kind {
	case api.MsGetFrontier:
		return names{}
	case api.MsFrontier, api.MsGetAncestors, api.MsGet, api.MsPullQuery:
		return names{span{1, 1}}
	case api.MsChits:
		return names{span{2, 2}}
	case api.MsGetAccepted, api.MsAccepted:
		return names{span{0, api.MaxIDs}}
	case api.MsPut, api.MsPushQuery:
		return blocks{span{1, 1}}
	case api.MsAncestors:
		return blocks{span{0, api.MaxMany}}
	}
	return nil
}

// bearsRightly tells whether m has what its kind bears, and nothing else.
func bearsRightly(m api.Msg) bool {
	load := loadOf(m.Kind)
	if n, ok := load.(names); ok {
		return n.holds(len(m.IDs)) && len(m.Blocks) == 0
	}
	l, ok := load.(blocks)
	return ok && l.holds(len(m.Blocks)) && len(m.IDs) == 0 && noneTooLong(m.Blocks)
}

func noneTooLong(l [][]byte) bool {
	for _, b := range l {
		if len(b) > api.MaxBlock {
			return false
		}
	}
	return true
}

func (n names) put(p *pack.Packer, l []api.ID) {
	n.putCount(p, len(l))
	for _, id := range l {
		p.Fixed(id[:]...)
	}
}

func (n names) take(u *pack.Unpacker) []api.ID {
	count := n.takeCount(u)
	l := make([]api.ID, count)
	for i := range count {
		copy(l[i][:], u.Fixed(len(l[i])))
	}
	return l
}

func (l blocks) put(p *pack.Packer, all [][]byte) {
	l.putCount(p, len(all))
	for _, b := range all {
		p.Bytes(b)
	}
}

func (l blocks) take(u *pack.Unpacker) [][]byte {
	all := make([][]byte, l.takeCount(u))
	for i := range all {
		all[i] = u.Bytes(api.MaxBlock)
	}
	return all
}

func (s span) holds(n int) bool { return n >= s.least && n <= s.most }

func (s span) counted() bool { return s.least != s.most }

func (s span) putCount(p *pack.Packer, n int) {
	if s.counted() {
		p.Int(uint32(n))
	}
}

// takeCount is the count that is written; one more than there may be, if it is greater still, so that no count that bytes claim makes room for more.
func (s span) takeCount(u *pack.Unpacker) int {
	if !s.counted() {
		return s.least
	}
	return int(min(u.Int(), uint32(s.most+1)))
}
