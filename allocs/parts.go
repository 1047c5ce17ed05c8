package allocs

import (
	"ragpicker/api"
	"ragpicker/mems"
)

// part of an operation: what steps, and answers whether it is over. It may be another operation, or a line of its own.
type part interface {
	Step(m *mems.Mem) bool
}

// load of a word: one line.
type load struct {
	at  api.Addr
	got uint64
}

// Step of it.
func (l *load) Step(m *mems.Mem) bool {
	l.got = m.Load(l.at)
	return true
}

// store of a word: one line.
type store struct {
	at api.Addr
	is uint64
}

// Step of it.
func (s *store) Step(m *mems.Mem) bool {
	m.Store(s.at, s.is)
	return true
}

// swap of a word for another one: one line.
type swap struct {
	at      api.Addr
	was, is uint64
	did     bool
}

// Step of it.
func (s *swap) Step(m *mems.Mem) bool {
	s.did = m.CAS(s.at, s.was, s.is)
	return true
}

// count of a word, by one more or less: two lines, till nobody else changes the word between them.
type count struct {
	at     api.Addr
	by     int
	was    uint64
	loaded bool
}

// Step of it.
func (c *count) Step(m *mems.Mem) bool {
	if !c.loaded {
		c.was, c.loaded = m.Load(c.at), true
		return false
	}
	c.loaded = false
	return m.CAS(c.at, c.was, c.was+uint64(c.by))
}

// may a slot be?
func may(slot int) bool { return slot >= 0 && slot < api.MaxSlots }

// slotAt: where a word of a slot stands.
func slotAt(slot, field int) api.Addr { return api.Addr{Kind: api.WdSlot, At: slot, Field: field} }

// segAt: where a word of a slot's segment stands.
func segAt(slot, field int) api.Addr {
	return api.Addr{Kind: api.WdSeg, At: slot / api.SegSlots, Field: field}
}

// Lines that more than one operation has.
type (
	header struct{ load }  // of the slot
	state  struct{ load }  // of its segment
	aside  struct{ count } // the slot is counted with those that are put aside
)

func newHeader(slot int) *header { return &header{load{at: slotAt(slot, api.SlHeader)}} }
func newState(slot int) *state   { return &state{load{at: segAt(slot, api.SgState)}} }
func newAside(slot int) *aside   { return &aside{count{at: segAt(slot, api.SgParked), by: 1}} }
