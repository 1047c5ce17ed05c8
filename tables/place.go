package tables

import (
	"ragpicker/api"
	"ragpicker/mems"
	"ragpicker/words"
)

// line of an operation; each operation tells lines of its own from alone on.
type line int

// Lines that both operations have.
const (
	over  line = iota // none of them; an operation that no call made has it, too
	read              // 6 of a Join, 5 of a Leave
	less              // 7 of a Join, 6 of a Leave
	alone             // the first one that one of them has alone
)

// place of the table, which an operation takes or leaves: what both have in common.
type place struct {
	next   line
	block  int
	thread int
	word   uint64    // the block's word itself, since the CAS is from that, whatever its bits
	ends   api.Errno // it may be known ahead of the end, but is told no sooner
}

// over: is it?
func (p *place) over() bool { return p.next == over }

// got: how it ended.
func (p *place) got() api.Errno {
	if !p.over() {
		return api.OK
	}
	return p.ends
}

// end it.
func (p *place) end(e api.Errno) line {
	p.ends = e
	return over
}

// at: where a word of the thread stands.
func (p *place) at(field int) api.Addr {
	return api.Addr{Kind: api.WdThread, At: p.thread, Field: field}
}

// blockAt: where the block's word stands.
func (p *place) blockAt() api.Addr { return api.Addr{Kind: api.WdBlock, At: p.block} }

// change how many joined the block, if its word still is the one that was read; closed or not stays.
func (p *place) change(m *mems.Mem, joined uint32) bool {
	_, closed := words.AsBlock(p.word)
	return m.CAS(p.blockAt(), p.word, words.Block(joined, closed))
}

// read the block's word.
func (p *place) read(m *mems.Mem) line {
	p.word = m.Load(p.blockAt())
	return less
}

// less by one joined the block; of none it stays none.
func (p *place) less(m *mems.Mem) line {
	joined, _ := words.AsBlock(p.word)
	if !p.change(m, max(joined, 1)-1) {
		return read
	}
	return over
}
