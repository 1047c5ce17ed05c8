// Package words is layer 1: shared words, put together and taken apart. See doc/01-words.md.
package words

import "ragpicker/api"

// field of a word, by which layout tells its bits.
type field int

const (
	refSlot field = iota
	refGen
	refMark
	headSlot
	headTag
	headerState
	headerGen
	phaseNow
	phaseOld
	phaseNew
	phaseNumber
	blockJoined
	blockClosed
)

// bits of a field: the number of the least one, and how many there are.
type bits struct{ from, many uint8 }

var layout = [...]bits{
	refSlot:     {0, 16},
	refGen:      {16, 32},
	refMark:     {63, 1},
	headSlot:    {0, 16},
	headTag:     {16, 48},
	headerState: {0, 3},
	headerGen:   {3, 32},
	phaseNow:    {0, 3},
	phaseOld:    {3, 3},
	phaseNew:    {6, 3},
	phaseNumber: {16, 48},
	blockJoined: {0, 32},
	blockClosed: {32, 1},
}

// value is whatever a field is told as.
type value interface {
	~int | ~uint8 | ~uint32 | ~uint64
}

// mask of as many low bits as the field has.
func mask(f field) uint64 { return 1<<layout[f].many - 1 }

// take a field out of a word.
func take[T value](w uint64, f field) T { return T((w >> layout[f].from) & mask(f)) }

// put a value where the field stands, in a word that is 0 elsewhere; what has no room there is cut off.
func put[T value](v T, f field) uint64 { return (uint64(v) & mask(f)) << layout[f].from }

// flag of one bit.
func flag(b bool) uint8 {
	if b {
		return 1
	}
	return 0
}

// number of a slot in a word: one more than the slot, since 0 is none.
func number(slot int) uint64 {
	if slot < 0 || slot >= api.MaxSlots {
		return 0
	}
	return uint64(slot) + 1
}

// asSlot: the slot of such a number; a word may have numbers of slots that there are not.
func asSlot(number int) int {
	if number > api.MaxSlots {
		return -1
	}
	return number - 1
}

// state that there is, for one that there may not be.
func state(s api.State) api.State {
	if s > api.StGone {
		return api.StGone
	}
	return s
}

// phase that there is, for one that there may not be.
func phase(p api.Phase) api.Phase {
	if p > api.PhDrain {
		return api.PhStable
	}
	return p
}

// Ref as a word. (P1.1)
func Ref(r api.Ref) uint64 {
	w := put(flag(r.Mark), refMark)
	n := number(r.Slot)
	if n == 0 { // none has no generation
		return w
	}
	return w | put(n, refSlot) | put(r.Gen, refGen)
}

// AsRef: what a word says as a ref. (P1.1)
func AsRef(w uint64) api.Ref {
	r := api.Ref{Slot: asSlot(take[int](w, refSlot)), Mark: Marked(w)}
	if r.Slot >= 0 { // none has no generation
		r.Gen = take[uint32](w, refGen)
	}
	return r
}

// Head of a stack as a word. (P1.1)
func Head(slot int, tag uint64) uint64 {
	return put(number(slot), headSlot) | put(tag, headTag)
}

// AsHead: what a word says as a head. (P1.1)
func AsHead(w uint64) (slot int, tag uint64) {
	return asSlot(take[int](w, headSlot)), take[uint64](w, headTag)
}

// Header of a slot as a word. (P1.2)
func Header(s api.State, gen uint32) uint64 {
	return put(state(s), headerState) | put(gen, headerGen)
}

// AsHeader: what a word says as a header. (P1.2)
func AsHeader(w uint64) (s api.State, gen uint32) {
	return state(take[api.State](w, headerState)), take[uint32](w, headerGen)
}

// Phase as a word. (P1.3)
func Phase(p api.PhaseWord) uint64 {
	return put(phase(p.Phase), phaseNow) | put(p.Old, phaseOld) | put(p.New, phaseNew) | put(p.Number, phaseNumber)
}

// AsPhase: what a word says as a phase. (P1.3)
func AsPhase(w uint64) api.PhaseWord {
	return api.PhaseWord{
		Phase:  phase(take[api.Phase](w, phaseNow)),
		Old:    take[api.Scheme](w, phaseOld),
		New:    take[api.Scheme](w, phaseNew),
		Number: take[uint64](w, phaseNumber),
	}
}

// Block of threads as a word. (P1.4)
func Block(joined uint32, closed bool) uint64 {
	return put(joined, blockJoined) | put(flag(closed), blockClosed)
}

// AsBlock: what a word says as a block. (P1.4)
func AsBlock(w uint64) (joined uint32, closed bool) {
	return take[uint32](w, blockJoined), take[uint8](w, blockClosed) != 0
}

// Mark a word. (P1.5)
func Mark(w uint64) uint64 { return w | put(flag(true), refMark) }

// Unmark a word. (P1.5)
func Unmark(w uint64) uint64 { return w &^ put(flag(true), refMark) }

// Marked: is it? (P1.5)
func Marked(w uint64) bool { return take[uint8](w, refMark) != 0 }
