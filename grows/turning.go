package grows

import (
	"ragpicker/api"
	"ragpicker/frees"
	"ragpicker/mems"
	"ragpicker/segs"
	"ragpicker/words"
)

// part of an operation: another operation, which takes its steps.
type part interface {
	Step(m *mems.Mem) bool
}

// line of an operation, by the number or the letter that the chapter gives it.
type line int

const (
	over  line = iota // none of them; an operation that no call made has it, too
	ask               // 1
	begin             // 2
	look              // 3
	unmap             // 4
	run               // 5 to 7: a step of the part
	remap             // 8
	read              // A
	free              // B
	count             // C
	less              // D
	push              // E
)

// turning of a segment's parked slots, and of its state: what both operations have in common.
type turning struct {
	next line
	part part
	seg  int
	slot int       // the one that is turned
	was  uint64    // the word that was loaded, from which the CAS behind that is
	ends api.Errno // it may be known ahead of the end, but is told no sooner
}

// newTurning: one that begins; of what is no segment it is over.
func newTurning(seg int) turning {
	from, to := segs.Slots(seg)
	if from == to {
		return turning{ends: api.ErrArg}
	}
	return turning{next: ask, seg: seg, slot: from}
}

// over: is it?
func (t *turning) over() bool { return t.next == over }

// got: how it ended.
func (t *turning) got() api.Errno {
	if !t.over() {
		return api.OK
	}
	return t.ends
}

// end it.
func (t *turning) end(e api.Errno) line {
	t.ends = e
	return over
}

// ask whether the segment is in the state that it is to be turned from, or already in the one that it is to be turned to.
func (t *turning) ask(m *mems.Mem, from, to uint64, already api.Errno) line {
	switch m.Load(segs.Word(t.seg, api.SgState)) {
	case from:
		return begin
	case to:
		return t.end(already)
	}
	return t.end(api.ErrBusy)
}

// change the segment's state, and go on with that line; if somebody else did that meanwhile, it is over.
func (t *turning) change(m *mems.Mem, from, to uint64, then line) line {
	if !m.CAS(segs.Word(t.seg, api.SgState), from, to) {
		return t.end(api.ErrBusy)
	}
	return then
}

// turn the slots, one behind the other.
func (t *turning) turn(m *mems.Mem) line {
	header, aside := segs.Slot(t.slot, api.SlHeader), segs.Word(t.seg, api.SgParked)
	switch t.next {
	case read:
		t.was = m.Load(header)
		if state, _ := words.AsHeader(t.was); state == api.StParked {
			return free
		}
	case free:
		_, gen := words.AsHeader(t.was)
		if m.CAS(header, t.was, words.Header(api.StFree, gen)) {
			return count
		}
	case count:
		t.was = m.Load(aside)
		return less
	case less:
		if !m.CAS(aside, t.was, t.was-1) {
			return count
		}
		t.part = frees.NewPush(t.slot)
		return push
	case push:
		if !t.part.Step(m) {
			return push
		}
	}
	return t.forth()
}

// forth to the next slot; behind the segment's last one it is over.
func (t *turning) forth() line {
	t.slot++
	if segs.Of(t.slot) != t.seg {
		return over
	}
	return read
}
