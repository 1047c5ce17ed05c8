package allocs

import (
	"iter"
	"math"
	"reflect"
	"slices"
	"testing"

	"ragpicker/api"
	"ragpicker/frees"
	"ragpicker/mems"
	"ragpicker/words"
)

const (
	minInt  = math.MinInt
	maxInt  = math.MaxInt
	maxWord = uint64(math.MaxUint64)
	maxTag  = uint64(1<<48 - 1)
	maxGen  = uint32(math.MaxUint32)
	none    = -1
	end     = api.MaxSlots - 1 // the last slot
)

// States of a segment, told anew.
const (
	unmapped uint64 = iota
	mapped
	drains
)

var (
	freeAt = api.Addr{Kind: api.WdFree}
	eraAt  = api.Addr{Kind: api.WdEra}
	noRef  = api.Ref{Slot: -1}
)

// Where words stand, told anew.
func headerAt(slot int) api.Addr { return api.Addr{Kind: api.WdSlot, At: slot, Field: 0} }
func birthAt(slot int) api.Addr  { return api.Addr{Kind: api.WdSlot, At: slot, Field: 1} }
func linkAt(slot int) api.Addr   { return api.Addr{Kind: api.WdSlot, At: slot, Field: 2} }
func stateAt(slot int) api.Addr  { return api.Addr{Kind: api.WdSeg, At: slot / 8, Field: 0} }
func asideAt(slot int) api.Addr  { return api.Addr{Kind: api.WdSeg, At: slot / 8, Field: 1} }

// hd: the word of a list's head, told anew: the slot and 1 in bits 0 to 15, the tag behind them.
func hd(slot int, tag uint64) uint64 { return tag<<16 | uint64(slot+1) }

// slotTold: the slot of such a word.
func slotTold(w uint64) int {
	if n := int(w & 0xffff); n <= 256 {
		return n - 1
	}
	return none
}

// hw: the word of a header, told anew: the state in bits 0 to 2, the generation behind them.
func hw(s api.State, gen uint32) uint64 { return uint64(gen)<<3 | uint64(s) }

// genTold: the generation of such a word.
func genTold(w uint64) uint32 { return uint32(w >> 3) }

// Accesses, as a memory tells them.
func ld(a api.Addr, v uint64) api.Access {
	return api.Access{Kind: api.AcLoad, Addr: a, Was: v, Is: v}
}

func st(a api.Addr, was, is uint64) api.Access {
	return api.Access{Kind: api.AcStore, Addr: a, Was: was, Is: is}
}

func cas(a api.Addr, was, is uint64) api.Access {
	return api.Access{Kind: api.AcCAS, Addr: a, Was: was, Is: is, Done: true}
}

func casNot(a api.Addr, v uint64) api.Access {
	return api.Access{Kind: api.AcCAS, Addr: a, Was: v, Is: v}
}

// pushed: the accesses of a Push of a slot that nobody disturbs, onto a head, over an old link.
func pushed(slot int, head, link uint64) []api.Access {
	under, tag := slotTold(head), head>>16
	return []api.Access{ld(freeAt, head), st(linkAt(slot), link, hd(under, 0)), cas(freeAt, head, hd(slot, (tag+1)&maxTag))}
}

// popped: those of a Pop.
func popped(head, link uint64) []api.Access {
	slot, tag := slotTold(head), head>>16
	return []api.Access{ld(freeAt, head), ld(linkAt(slot), link), cas(freeAt, head, hd(slotTold(link), (tag+1)&maxTag))}
}

// joined accesses.
func joined(l ...[]api.Access) []api.Access { return slices.Concat(l...) }

// memory with these words.
func memory(l ...mems.Word) *mems.Mem {
	m := mems.New()
	for _, w := range l {
		m.Store(w.Addr, w.Value)
	}
	return m
}

// operation: what all three of them are.
type operation interface {
	Step(m *mems.Mem) bool
	Over() bool
}

// answer of an operation's Got: of an Alloc, of a Free, of a Park.
type answer struct {
	ref   api.Ref
	got   bool
	state api.State
	stays bool
}

// begun: what Got answers ahead of the end.
func begun() answer { return answer{ref: noRef} }

// told: what it answers of an operation.
func told(o operation) answer {
	a := begun()
	switch o := o.(type) {
	case *Alloc:
		a.ref, a.got = o.Got()
	case *Free:
		a.state = o.Got()
	case *Park:
		a.stays = o.Got()
	}
	return a
}

// Answers of operations that are over.
func gotRef(slot int, gen uint32) answer {
	return answer{ref: api.Ref{Slot: slot, Gen: gen}, got: true}
}
func gotState(s api.State) answer { return answer{ref: noRef, state: s} }
func gotStay(b bool) answer       { return answer{ref: noRef, stays: b} }

// numbers that always are the same ones.
type numbers uint64

// below a limit: the next one.
func (x *numbers) below(n int) int {
	*x ^= *x << 13
	*x ^= *x >> 7
	*x ^= *x << 17
	return int(uint64(*x) >> 33 % uint64(n))
}

// meddling of somebody else ahead of a step.
type meddling struct {
	ahead int // of which step, from 0 on
	at    api.Addr
	is    uint64
}

// course of an operation, step by step.
type course struct {
	name   string
	at     []mems.Word // at first
	of     operation
	others []meddling
	want   []api.Access
	got    answer
}

// held: each step of it against its accesses; ahead of the end it is not over, and got nothing.
func (c course) held(t *testing.T) {
	t.Helper()
	m := memory(c.at...)
	if c.of.Over() || told(c.of) != begun() {
		t.Errorf("%s: ahead of all steps over is %v, Got %+v", c.name, c.of.Over(), told(c.of))
	}
	for i, a := range c.want {
		for _, x := range c.others {
			if x.ahead == i {
				m.Store(x.at, x.is)
			}
		}
		step(t, c.name, c.of, m, i, a, i == len(c.want)-1)
	}
	for range 2 {
		if got := told(c.of); got != c.got {
			t.Errorf("%s: Got is %+v, want %+v", c.name, got, c.got)
		}
		rests(t, c.name, c.of, m)
	}
}

// step of an operation, held against the access and whether it is over.
func step(t *testing.T, name string, o operation, m *mems.Mem, i int, want api.Access, is bool) {
	t.Helper()
	steps := m.Steps()
	if got := told(o); got != begun() {
		t.Errorf("%s: ahead of step %d Got is %+v", name, i+1, got)
	}
	if got := o.Step(m); got != is {
		t.Errorf("%s: step %d answers %v", name, i+1, got)
	}
	if o.Over() != is {
		t.Errorf("%s: Over is %v behind step %d", name, o.Over(), i+1)
	}
	if m.Steps() != steps+1 {
		t.Fatalf("%s: step %d makes %d accesses", name, i+1, m.Steps()-steps)
	}
	if got := m.Last(); got != want {
		t.Errorf("%s: step %d is %+v, want %+v", name, i+1, got, want)
	}
}

// rests: an operation that is over takes no step any more, of whatever memory, and says so.
func rests(t *testing.T, name string, o operation, m *mems.Mem) {
	t.Helper()
	var zero mems.Mem
	other := memory(mems.Word{Addr: freeAt, Value: hd(5, 3)}, mems.Word{Addr: stateAt(5), Value: drains})
	got := told(o)
	for _, m := range []*mems.Mem{m, other, mems.New(), nil, &zero} {
		was, steps, access := m.Words(), m.Steps(), m.Last()
		for range 4 {
			if !o.Step(m) || !o.Over() || told(o) != got {
				t.Errorf("%s: not over any more", name)
			}
		}
		if m.Steps() != steps || m.Last() != access || !slices.Equal(m.Words(), was) {
			t.Errorf("%s: takes steps when it is over", name)
		}
	}
}

// P8.2, P8.3: chapter 8's examples.
func TestExamples(t *testing.T) {
	m := memory(mems.Word{Addr: freeAt, Value: hd(3, 0)}, mems.Word{Addr: stateAt(3), Value: mapped}, mems.Word{Addr: eraAt, Value: 5})
	run := func(o operation, steps int) answer {
		t.Helper()
		for i := range steps {
			if o.Step(m) != (i == steps-1) {
				t.Errorf("over, or not, behind step %d", i+1)
			}
		}
		return told(o)
	}
	if got := run(NewAlloc(), 8); got != gotRef(3, 0) {
		t.Errorf("Alloc got %+v", got)
	}
	if e := m.Load(birthAt(3)); e != 5 {
		t.Errorf("SlBirth is %d", e)
	}
	if got := run(NewFree(3, 9), 6); got != gotState(api.StFree) {
		t.Errorf("Free got %+v", got)
	}
	if got := run(NewAlloc(), 8); got != gotRef(3, 1) {
		t.Errorf("the next Alloc got %+v", got)
	}
	if got := run(NewAlloc(), 1); got != begun() {
		t.Errorf("an Alloc of nothing got %+v", got)
	}
}

// P8.1: each line of a Park, by each way that its lines take.
func TestParkLines(t *testing.T) {
	for _, slot := range []int{0, 7, 8, 100, end} {
		h, s, n := headerAt(slot), stateAt(slot), asideAt(slot)
		word := func(a api.Addr, v uint64) mems.Word { return mems.Word{Addr: a, Value: v} }
		f4, p4 := hw(api.StFree, 4), hw(api.StParked, 4)
		first := func(state uint64) []api.Access {
			return []api.Access{ld(h, f4), st(h, f4, p4), ld(n, 2), cas(n, 2, 3), ld(s, state)}
		}
		less := []api.Access{ld(n, 3), cas(n, 3, 2)}
		more := []api.Access{ld(n, 2), cas(n, 2, 3)}
		at := func(state uint64) []mems.Word { return []mems.Word{word(h, f4), word(s, state), word(n, 2)} }
		back := joined(first(mapped), less, []api.Access{ld(s, mapped), cas(h, p4, f4)})
		for _, c := range []course{
			{name: "drains", at: at(drains), want: first(drains), got: gotStay(true)},
			{name: "is not mapped", at: at(unmapped), want: first(unmapped), got: gotStay(true)},
			{name: "is of no state", at: at(3), want: first(3), got: gotStay(true)},
			{name: "is of the greatest state", at: at(maxWord), want: first(maxWord), got: gotStay(true)},
			{name: "is mapped", at: at(mapped), want: joined(back, pushed(slot, 0, 0)), got: gotStay(false)},
			{name: "is mapped, and the list has slots", at: append(at(mapped), word(freeAt, hd(50, 9)), word(linkAt(slot), hd(9, 3))), want: joined(back, pushed(slot, hd(50, 9), hd(9, 3))), got: gotStay(false)},
			{name: "is mapped, and others push meanwhile", at: at(mapped), others: []meddling{{10, freeAt, hd(50, 9)}}, want: joined(back, []api.Access{ld(freeAt, 0), st(linkAt(slot), 0, 0), casNot(freeAt, hd(50, 9))}, pushed(slot, hd(50, 9), 0)), got: gotStay(false)},
			{name: "is mapped at last", at: at(drains), others: []meddling{{4, s, mapped}}, want: joined(back, pushed(slot, 0, 0)), got: gotStay(false)},
			{name: "drains at last", at: at(mapped), others: []meddling{{4, s, drains}}, want: first(drains), got: gotStay(true)},
			{name: "drains behind line 5, and on", at: at(mapped), others: []meddling{{5, s, drains}}, want: joined(first(mapped), less, []api.Access{ld(s, drains)}, more, []api.Access{ld(s, drains)}), got: gotStay(true)},
			{name: "drains behind line 6", at: at(mapped), others: []meddling{{6, s, drains}}, want: joined(first(mapped), less, []api.Access{ld(s, drains)}, more, []api.Access{ld(s, drains)}), got: gotStay(true)},
			{name: "drains behind line 7", at: at(mapped), others: []meddling{{7, s, drains}}, want: joined(first(mapped), less, []api.Access{ld(s, drains)}, more, []api.Access{ld(s, drains)}), got: gotStay(true)},
			{name: "is not mapped behind line 7", at: at(mapped), others: []meddling{{7, s, unmapped}}, want: joined(first(mapped), less, []api.Access{ld(s, unmapped)}, more, []api.Access{ld(s, unmapped)}), got: gotStay(true)},
			{name: "drains behind line 8", at: at(mapped), others: []meddling{{8, s, drains}}, want: joined(back, pushed(slot, 0, 0)), got: gotStay(false)},
			{name: "drains at line 8, is mapped at line 5", at: at(mapped), others: []meddling{{7, s, drains}, {10, s, mapped}}, want: joined(first(mapped), less, []api.Access{ld(s, drains)}, more, []api.Access{ld(s, mapped)}, less, []api.Access{ld(s, mapped), cas(h, p4, f4)}, pushed(slot, 0, 0)), got: gotStay(false)},
			{name: "drains at line 8 twice", at: at(mapped), others: []meddling{{7, s, drains}, {10, s, mapped}, {13, s, drains}}, want: joined(first(mapped), less, []api.Access{ld(s, drains)}, more, []api.Access{ld(s, mapped)}, less, []api.Access{ld(s, drains)}, more, []api.Access{ld(s, drains)}), got: gotStay(true)},
			{name: "turned back by others", at: at(mapped), others: []meddling{{8, h, f4}}, want: joined(first(mapped), less, []api.Access{ld(s, mapped), casNot(h, f4)}, more), got: gotStay(false)},
			{name: "turned back by others, and live", at: at(mapped), others: []meddling{{5, h, hw(api.StLive, 4)}}, want: joined(first(mapped), less, []api.Access{ld(s, mapped), casNot(h, hw(api.StLive, 4))}, more), got: gotStay(false)},
			{name: "parked again, of one generation more", at: at(mapped), others: []meddling{{5, h, hw(api.StParked, 5)}}, want: joined(first(mapped), less, []api.Access{ld(s, mapped), casNot(h, hw(api.StParked, 5))}, more), got: gotStay(false)},
			{name: "turned back by others, while it counts", at: at(mapped), others: []meddling{{8, h, f4}, {10, n, 7}}, want: joined(first(mapped), less, []api.Access{ld(s, mapped), casNot(h, f4), ld(n, 2), casNot(n, 7), ld(n, 7), cas(n, 7, 8)}), got: gotStay(false)},
			{name: "turned back, and parked again", at: at(mapped), others: []meddling{{6, h, f4}, {7, h, p4}}, want: joined(back, pushed(slot, 0, 0)), got: gotStay(false)},
			{name: "counted by others behind line 3", at: at(drains), others: []meddling{{3, n, 6}}, want: []api.Access{ld(h, f4), st(h, f4, p4), ld(n, 2), casNot(n, 6), ld(n, 6), cas(n, 6, 7), ld(s, drains)}, got: gotStay(true)},
			{name: "counted by others behind line 3, twice", at: at(drains), others: []meddling{{3, n, 6}, {5, n, 0}}, want: []api.Access{ld(h, f4), st(h, f4, p4), ld(n, 2), casNot(n, 6), ld(n, 6), casNot(n, 0), ld(n, 0), cas(n, 0, 1), ld(s, drains)}, got: gotStay(true)},
			{name: "counted by others ahead of line 3", at: at(drains), others: []meddling{{2, n, 6}}, want: []api.Access{ld(h, f4), st(h, f4, p4), ld(n, 6), cas(n, 6, 7), ld(s, drains)}, got: gotStay(true)},
			{name: "counted by others behind line 6", at: at(mapped), others: []meddling{{6, n, 1}}, want: joined(first(mapped), []api.Access{ld(n, 3), casNot(n, 1), ld(n, 1), cas(n, 1, 0), ld(s, mapped), cas(h, p4, f4)}, pushed(slot, 0, 0)), got: gotStay(false)},
			{name: "counted by others behind line 6, twice", at: at(mapped), others: []meddling{{6, n, 1}, {8, n, 9}}, want: joined(first(mapped), []api.Access{ld(n, 3), casNot(n, 1), ld(n, 1), casNot(n, 9), ld(n, 9), cas(n, 9, 8), ld(s, mapped), cas(h, p4, f4)}, pushed(slot, 0, 0)), got: gotStay(false)},
			{name: "header changed behind line 1", at: at(drains), others: []meddling{{1, h, hw(api.StLive, 9)}}, want: joined([]api.Access{ld(h, f4), st(h, hw(api.StLive, 9), p4)}, more, []api.Access{ld(s, drains)}), got: gotStay(true)},
			{name: "one more of the greatest number", at: []mems.Word{word(h, f4), word(s, drains), word(n, maxWord)}, want: []api.Access{ld(h, f4), st(h, f4, p4), ld(n, maxWord), cas(n, maxWord, 0), ld(s, drains)}, got: gotStay(true)},
			{name: "one less of 0", at: at(mapped), others: []meddling{{5, n, 0}}, want: joined(first(mapped), []api.Access{ld(n, 0), cas(n, 0, maxWord), ld(s, mapped), cas(h, p4, f4)}, pushed(slot, 0, 0)), got: gotStay(false)},
			{name: "one less of the greatest number", at: at(mapped), others: []meddling{{5, n, maxWord}}, want: joined(first(mapped), []api.Access{ld(n, maxWord), cas(n, maxWord, maxWord-1), ld(s, mapped), cas(h, p4, f4)}, pushed(slot, 0, 0)), got: gotStay(false)},
			{name: "one more of 0", at: []mems.Word{word(h, f4), word(s, drains)}, want: []api.Access{ld(h, f4), st(h, f4, p4), ld(n, 0), cas(n, 0, 1), ld(s, drains)}, got: gotStay(true)},
			{name: "one more of the greatest number, at line 11", at: at(mapped), others: []meddling{{8, h, f4}, {9, n, maxWord}}, want: joined(first(mapped), less, []api.Access{ld(s, mapped), casNot(h, f4), ld(n, maxWord), cas(n, maxWord, 0)}), got: gotStay(false)},
		} {
			c.of = NewPark(slot)
			c.held(t)
		}
	}
}

// P8.2: each line of an Alloc, by each way that its lines take.
func TestAllocLines(t *testing.T) {
	word := func(a api.Addr, v uint64) mems.Word { return mems.Word{Addr: a, Value: v} }
	alone := []api.Access{ld(freeAt, 0)}
	for _, slot := range []int{0, 7, 8, 100, end} {
		h, s, n, b := headerAt(slot), stateAt(slot), asideAt(slot), birthAt(slot)
		f4, p4, l4 := hw(api.StFree, 4), hw(api.StParked, 4), hw(api.StLive, 4)
		pop := popped(hd(slot, 9), 0)
		live := []api.Access{ld(eraAt, 6), st(b, 2, 6), ld(h, f4), st(h, f4, l4)}
		at := func(state uint64) []mems.Word {
			return []mems.Word{word(freeAt, hd(slot, 9)), word(h, f4), word(s, state), word(eraAt, 6), word(b, 2)}
		}
		other := (slot + 24) % api.MaxSlots // of another segment
		two := func(state uint64) []mems.Word {
			return append(at(state), word(linkAt(slot), hd(other, 1)), word(headerAt(other), hw(api.StFree, 2)), word(stateAt(other), mapped))
		}
		next := []api.Access{ld(stateAt(other), mapped), ld(eraAt, 6), st(birthAt(other), 0, 6), ld(headerAt(other), hw(api.StFree, 2)), st(headerAt(other), hw(api.StFree, 2), hw(api.StLive, 2))}
		stay := []api.Access{ld(s, drains), ld(h, f4), st(h, f4, p4), ld(n, 0), cas(n, 0, 1)}
		for _, c := range []course{
			{name: "of nothing", want: alone, got: begun()},
			{name: "of none, with a tag", at: []mems.Word{word(freeAt, 9<<16)}, want: []api.Access{ld(freeAt, 9<<16)}, got: begun()},
			{name: "is mapped", at: at(mapped), want: joined(pop, []api.Access{ld(s, mapped)}, live), got: gotRef(slot, 4)},
			{name: "is not mapped", at: at(unmapped), want: joined(pop, []api.Access{ld(s, unmapped)}, live), got: gotRef(slot, 4)},
			{name: "is of no state", at: at(3), want: joined(pop, []api.Access{ld(s, 3)}, live), got: gotRef(slot, 4)},
			{name: "drains, and there is none else", at: at(drains), want: joined(pop, stay, []api.Access{ld(s, drains), ld(freeAt, 10<<16)}), got: begun()},
			{name: "drains, and the next one does not", at: two(drains), want: joined(popped(hd(slot, 9), hd(other, 1)), stay, []api.Access{ld(s, drains)}, popped(hd(other, 10), 0), next), got: gotRef(other, 2)},
			{name: "drains, and is mapped ahead of the Park's line 5", at: at(drains), others: []meddling{{8, s, mapped}},
				want: joined(pop, stay, []api.Access{ld(s, mapped), ld(n, 1), cas(n, 1, 0), ld(s, mapped), cas(h, p4, f4)}, pushed(slot, 10<<16, 0), popped(hd(slot, 11), 0), []api.Access{ld(s, mapped)}, live), got: gotRef(slot, 4)},
			{name: "drains, and is turned back by others", at: at(drains), others: []meddling{{8, s, mapped}, {12, h, f4}},
				want: joined(pop, stay, []api.Access{ld(s, mapped), ld(n, 1), cas(n, 1, 0), ld(s, mapped), casNot(h, f4), ld(n, 0), cas(n, 0, 1), ld(freeAt, 10<<16)}), got: begun()},
			{name: "drains behind line 2", at: at(mapped), others: []meddling{{4, s, drains}}, want: joined(pop, []api.Access{ld(s, mapped)}, live), got: gotRef(slot, 4)},
			{name: "drains ahead of line 2", at: at(mapped), others: []meddling{{3, s, drains}}, want: joined(pop, stay, []api.Access{ld(s, drains), ld(freeAt, 10<<16)}), got: begun()},
			{name: "its Pop's CAS fails", at: two(mapped), others: []meddling{{2, freeAt, hd(other, 10)}}, want: joined([]api.Access{ld(freeAt, hd(slot, 9)), ld(linkAt(slot), hd(other, 1)), casNot(freeAt, hd(other, 10))}, popped(hd(other, 10), 0), next), got: gotRef(other, 2)},
			{name: "its Pop's CAS fails, and there is none", at: at(mapped), others: []meddling{{2, freeAt, 10 << 16}}, want: []api.Access{ld(freeAt, hd(slot, 9)), ld(linkAt(slot), 0), casNot(freeAt, 10<<16), ld(freeAt, 10<<16)}, got: begun()},
			{name: "the era rises behind line 4", at: at(mapped), others: []meddling{{5, eraAt, 7}}, want: joined(pop, []api.Access{ld(s, mapped)}, live), got: gotRef(slot, 4)},
			{name: "the era rises ahead of line 4", at: at(mapped), others: []meddling{{4, eraAt, 7}}, want: joined(pop, []api.Access{ld(s, mapped), ld(eraAt, 7), st(b, 2, 7), ld(h, f4), st(h, f4, l4)}), got: gotRef(slot, 4)},
			{name: "the header changes behind line 6", at: at(mapped), others: []meddling{{7, h, hw(api.StParked, 8)}}, want: joined(pop, []api.Access{ld(s, mapped), ld(eraAt, 6), st(b, 2, 6), ld(h, f4), st(h, hw(api.StParked, 8), l4)}), got: gotRef(slot, 4)},
			{name: "the header changes ahead of line 6", at: at(mapped), others: []meddling{{6, h, hw(api.StParked, 8)}}, want: joined(pop, []api.Access{ld(s, mapped), ld(eraAt, 6), st(b, 2, 6), ld(h, hw(api.StParked, 8)), st(h, hw(api.StParked, 8), hw(api.StLive, 8))}), got: gotRef(slot, 8)},
		} {
			c.of = NewAlloc()
			c.held(t)
		}
	}
}

// P8.3: each line of a Free, by each way that its lines take.
func TestFreeLines(t *testing.T) {
	word := func(a api.Addr, v uint64) mems.Word { return mems.Word{Addr: a, Value: v} }
	for _, slot := range []int{0, 7, 8, 100, end} {
		h, s, n := headerAt(slot), stateAt(slot), asideAt(slot)
		l4, f5, p5, g4 := hw(api.StLive, 4), hw(api.StFree, 5), hw(api.StParked, 5), hw(api.StGone, 4)
		at := func(state uint64) []mems.Word { return []mems.Word{word(h, l4), word(s, state), word(n, 2)} }
		first := func(state uint64) []api.Access { return []api.Access{ld(h, l4), st(h, l4, f5), ld(s, state)} }
		stay := []api.Access{ld(h, f5), st(h, f5, p5), ld(n, 2), cas(n, 2, 3)}
		back := []api.Access{ld(s, mapped), ld(n, 3), cas(n, 3, 2), ld(s, mapped)}
		gone := []api.Access{ld(h, l4), st(h, l4, g4), ld(n, 2), cas(n, 2, 3)}
		for _, c := range []course{
			{name: "is mapped", at: at(mapped), of: NewFree(slot, 5), want: joined(first(mapped), pushed(slot, 0, 0)), got: gotState(api.StFree)},
			{name: "is mapped, and the list has slots", at: append(at(mapped), word(freeAt, hd(50, 9))), of: NewFree(slot, 9), want: joined(first(mapped), pushed(slot, hd(50, 9), 0)), got: gotState(api.StFree)},
			{name: "is mapped, and others push meanwhile", at: at(mapped), of: NewFree(slot, 9), others: []meddling{{5, freeAt, hd(50, 9)}}, want: joined(first(mapped), []api.Access{ld(freeAt, 0), st(linkAt(slot), 0, 0), casNot(freeAt, hd(50, 9))}, pushed(slot, hd(50, 9), 0)), got: gotState(api.StFree)},
			{name: "is not mapped", at: at(unmapped), of: NewFree(slot, 9), want: joined(first(unmapped), pushed(slot, 0, 0)), got: gotState(api.StFree)},
			{name: "is of no state", at: at(maxWord), of: NewFree(slot, 9), want: joined(first(maxWord), pushed(slot, 0, 0)), got: gotState(api.StFree)},
			{name: "drains", at: at(drains), of: NewFree(slot, 9), want: joined(first(drains), stay, []api.Access{ld(s, drains)}), got: gotState(api.StParked)},
			{name: "drains, and is not mapped then", at: at(drains), of: NewFree(slot, 9), others: []meddling{{6, s, unmapped}}, want: joined(first(drains), stay, []api.Access{ld(s, unmapped)}), got: gotState(api.StParked)},
			{name: "drains, and is mapped again", at: at(drains), of: NewFree(slot, 9), others: []meddling{{6, s, mapped}}, want: joined(first(drains), stay, back, []api.Access{cas(h, p5, f5)}, pushed(slot, 0, 0)), got: gotState(api.StFree)},
			{name: "drains, and is turned back by others", at: at(drains), of: NewFree(slot, 9), others: []meddling{{6, s, mapped}, {11, h, f5}}, want: joined(first(drains), stay, back, []api.Access{casNot(h, f5), ld(n, 2), cas(n, 2, 3)}), got: gotState(api.StFree)},
			{name: "drains behind line 5", at: at(mapped), of: NewFree(slot, 9), others: []meddling{{3, s, drains}}, want: joined(first(mapped), pushed(slot, 0, 0)), got: gotState(api.StFree)},
			{name: "drains ahead of line 5", at: at(mapped), of: NewFree(slot, 9), others: []meddling{{2, s, drains}}, want: joined(first(drains), stay, []api.Access{ld(s, drains)}), got: gotState(api.StParked)},
			{name: "the last generation", at: at(mapped), of: NewFree(slot, 4), want: gone, got: gotState(api.StGone)},
			{name: "the last generation, and it drains", at: at(drains), of: NewFree(slot, 4), want: gone, got: gotState(api.StGone)},
			{name: "behind the last generation", at: at(mapped), of: NewFree(slot, 3), want: gone, got: gotState(api.StGone)},
			{name: "far behind the last generation", at: at(mapped), of: NewFree(slot, 0), want: gone, got: gotState(api.StGone)},
			{name: "the last generation, counted by others", at: at(mapped), of: NewFree(slot, 4), others: []meddling{{3, n, 7}, {5, n, maxWord}}, want: joined(gone[:3], []api.Access{casNot(n, 7), ld(n, 7), casNot(n, maxWord), ld(n, maxWord), cas(n, maxWord, 0)}), got: gotState(api.StGone)},
			{name: "the last generation, with nothing counted", at: []mems.Word{word(h, l4)}, of: NewFree(slot, 4), want: []api.Access{ld(h, l4), st(h, l4, g4), ld(n, 0), cas(n, 0, 1)}, got: gotState(api.StGone)},
			{name: "the header changes behind line 1", at: at(mapped), of: NewFree(slot, 5), others: []meddling{{1, h, hw(api.StLive, 9)}}, want: joined([]api.Access{ld(h, l4), st(h, hw(api.StLive, 9), f5), ld(s, mapped)}, pushed(slot, 0, 0)), got: gotState(api.StFree)},
			{name: "the header changes ahead of line 1", at: at(mapped), of: NewFree(slot, 5), others: []meddling{{0, h, hw(api.StLive, 5)}}, want: []api.Access{ld(h, hw(api.StLive, 5)), st(h, hw(api.StLive, 5), hw(api.StGone, 5)), ld(n, 2), cas(n, 2, 3)}, got: gotState(api.StGone)},
		} {
			c.held(t)
		}
	}
}

// P8.3: generations below most, most, and above it.
func TestFreeMost(t *testing.T) {
	gens := []uint32{0, 1, 2, 3, 255, 1<<16 - 1, 1 << 16, 1<<31 - 1, 1 << 31, maxGen - 1, maxGen}
	for _, most := range gens {
		for _, gen := range gens {
			for s := range api.StGone + 1 {
				h, w := headerAt(9), hw(s, gen)
				c := course{name: "most", at: []mems.Word{{Addr: h, Value: w}}, of: NewFree(9, most)}
				if gen >= most {
					c.want = []api.Access{ld(h, w), st(h, w, hw(api.StGone, gen)), ld(asideAt(9), 0), cas(asideAt(9), 0, 1)}
					c.got = gotState(api.StGone)
				} else {
					c.want = joined([]api.Access{ld(h, w), st(h, w, hw(api.StFree, gen+1)), ld(stateAt(9), 0)}, pushed(9, 0, 0))
					c.got = gotState(api.StFree)
				}
				c.held(t)
			}
		}
	}
}

// odd words, of whatever bits.
func odd() []uint64 {
	l := []uint64{0, 1, 2, 3, 4, 5, 6, 7, 8, 12, 255, 256, 257, 258, 65535, 65536, 65537, 1<<35 - 8, 1<<35 - 1, 1 << 35, 1<<35 + 11, 1<<48 + 27, 1<<63 + 2, maxWord - 7, maxWord - 1, maxWord}
	return l
}

// P8.1, P8.2, P8.3: headers of whatever bits, as AsHeader reads them: what counts is the generation.
func TestHeaderBits(t *testing.T) {
	for _, w := range odd() {
		_, gen := words.AsHeader(w)
		if gen != genTold(w) {
			t.Fatalf("AsHeader of %#x is of %d", w, gen)
		}
		h, s, n := headerAt(3), stateAt(3), asideAt(3)
		parked, free, live := hw(api.StParked, gen), hw(api.StFree, gen), hw(api.StLive, gen)
		at := []mems.Word{{Addr: h, Value: w}, {Addr: s, Value: mapped}, {Addr: freeAt, Value: hd(3, 0)}}
		course{name: "Alloc", at: at, of: NewAlloc(), want: joined(popped(hd(3, 0), 0), []api.Access{ld(s, mapped), ld(eraAt, 0), st(birthAt(3), 0, 0), ld(h, w), st(h, w, live)}), got: gotRef(3, gen)}.held(t)
		course{name: "Park", at: at[:2], of: NewPark(3), want: joined([]api.Access{ld(h, w), st(h, w, parked), ld(n, 0), cas(n, 0, 1), ld(s, mapped), ld(n, 1), cas(n, 1, 0), ld(s, mapped), cas(h, parked, free)}, pushed(3, 0, 0)), got: gotStay(false)}.held(t)
		for _, v := range odd() { // the CAS is from the word of StParked alone
			if v != parked {
				course{name: "Park", at: at[:2], of: NewPark(3), others: []meddling{{8, h, v}}, want: []api.Access{ld(h, w), st(h, w, parked), ld(n, 0), cas(n, 0, 1), ld(s, mapped), ld(n, 1), cas(n, 1, 0), ld(s, mapped), casNot(h, v), ld(n, 0), cas(n, 0, 1)}, got: gotStay(false)}.held(t)
			}
		}
	}
}

// P8.1, P8.2, P8.3: states of a segment, counts and eras of whatever bits.
func TestWordBits(t *testing.T) {
	h, s, n := headerAt(3), stateAt(3), asideAt(3)
	parked := hw(api.StParked, 0)
	for _, v := range odd() {
		alloc := course{name: "Alloc", at: []mems.Word{{Addr: freeAt, Value: hd(3, 0)}, {Addr: s, Value: v}}, of: NewAlloc()}
		free := course{name: "Free", at: []mems.Word{{Addr: s, Value: v}}, of: NewFree(3, 1)}
		park := course{name: "Park", at: []mems.Word{{Addr: s, Value: v}}, of: NewPark(3), want: []api.Access{ld(h, 0), st(h, 0, parked), ld(n, 0), cas(n, 0, 1), ld(s, v)}, got: gotStay(true)}
		if v == drains {
			alloc.want = joined(popped(hd(3, 0), 0), []api.Access{ld(s, v), ld(h, 0), st(h, 0, parked), ld(n, 0), cas(n, 0, 1), ld(s, v), ld(freeAt, 1<<16)})
			alloc.got = begun()
			free.want = []api.Access{ld(h, 0), st(h, 0, hw(api.StFree, 1)), ld(s, v), ld(h, hw(api.StFree, 1)), st(h, hw(api.StFree, 1), hw(api.StParked, 1)), ld(n, 0), cas(n, 0, 1), ld(s, v)}
			free.got = gotState(api.StParked)
		} else {
			alloc.want = joined(popped(hd(3, 0), 0), []api.Access{ld(s, v), ld(eraAt, 0), st(birthAt(3), 0, 0), ld(h, 0), st(h, 0, hw(api.StLive, 0))})
			alloc.got = gotRef(3, 0)
			free.want = joined([]api.Access{ld(h, 0), st(h, 0, hw(api.StFree, 1)), ld(s, v)}, pushed(3, 0, 0))
			free.got = gotState(api.StFree)
		}
		if v == mapped {
			park.want = joined(park.want, []api.Access{ld(n, 1), cas(n, 1, 0), ld(s, v), cas(h, parked, 0)}, pushed(3, 0, 0))
			park.got = gotStay(false)
		}
		for _, c := range []course{alloc, free, park} {
			c.held(t)
		}
		course{name: "of an era", at: []mems.Word{{Addr: freeAt, Value: hd(3, 0)}, {Addr: eraAt, Value: v}, {Addr: birthAt(3), Value: ^v}}, of: NewAlloc(), want: joined(popped(hd(3, 0), 0), []api.Access{ld(s, 0), ld(eraAt, v), st(birthAt(3), ^v, v), ld(h, 0), st(h, 0, hw(api.StLive, 0))}), got: gotRef(3, 0)}.held(t)
		course{name: "of a count", at: []mems.Word{{Addr: n, Value: v}}, of: NewPark(3), want: []api.Access{ld(h, 0), st(h, 0, parked), ld(n, v), cas(n, v, v+1), ld(s, 0)}, got: gotStay(true)}.held(t)
		course{name: "of a count, back", at: []mems.Word{{Addr: n, Value: 0}, {Addr: s, Value: mapped}}, of: NewPark(3), others: []meddling{{5, n, v}}, want: joined([]api.Access{ld(h, 0), st(h, 0, parked), ld(n, 0), cas(n, 0, 1), ld(s, mapped), ld(n, v), cas(n, v, v-1), ld(s, mapped), cas(h, parked, 0)}, pushed(3, 0, 0)), got: gotStay(false)}.held(t)
		course{name: "of a count, gone", at: []mems.Word{{Addr: n, Value: v}}, of: NewFree(3, 0), want: []api.Access{ld(h, 0), st(h, 0, hw(api.StGone, 0)), ld(n, v), cas(n, v, v+1)}, got: gotState(api.StGone)}.held(t)
	}
}

// P8.2, P8.3: heads and links of whatever bits, as AsHead reads them.
func TestHeadBits(t *testing.T) {
	for _, w := range odd() {
		slot, tag := words.AsHead(w)
		course{name: "Free", at: []mems.Word{{Addr: freeAt, Value: w}}, of: NewFree(9, 1), want: []api.Access{ld(headerAt(9), 0), st(headerAt(9), 0, hw(api.StFree, 1)), ld(stateAt(9), 0), ld(freeAt, w), st(linkAt(9), 0, words.Head(slot, 0)), cas(freeAt, w, words.Head(9, tag+1))}, got: gotState(api.StFree)}.held(t)
		for _, v := range odd() {
			at := []mems.Word{{Addr: freeAt, Value: w}, {Addr: linkAt(max(slot, 0)), Value: v}}
			if slot < 0 {
				course{name: "none", at: at, of: NewAlloc(), want: []api.Access{ld(freeAt, w)}, got: begun()}.held(t)
				continue
			}
			to, _ := words.AsHead(v)
			course{name: "Alloc", at: at, of: NewAlloc(), want: []api.Access{ld(freeAt, w), ld(linkAt(slot), v), cas(freeAt, w, words.Head(to, tag+1)), ld(stateAt(slot), 0), ld(eraAt, 0), st(birthAt(slot), 0, 0), ld(headerAt(slot), 0), st(headerAt(slot), 0, hw(api.StLive, 0))}, got: gotRef(slot, 0)}.held(t)
		}
	}
}

// P8.1, P8.3: of what is no slot they are over, and do nothing.
func TestNoSlot(t *testing.T) {
	for _, slot := range []int{-1, -2, -8, -api.MaxSlots, minInt, minInt + 1, api.MaxSlots, api.MaxSlots + 1, 1 << 16, 1 << 32, 1<<32 + 3, 65535, maxInt - 1, maxInt} {
		for _, o := range []operation{NewPark(slot), NewFree(slot, 0), NewFree(slot, 3), NewFree(slot, maxGen)} {
			if !o.Over() || told(o) != begun() {
				t.Errorf("of %d: over is %v, Got %+v", slot, o.Over(), told(o))
			}
			for _, m := range []*mems.Mem{mems.New(), memory(mems.Word{Addr: freeAt, Value: hd(3, 0)}), nil} {
				rests(t, "of no slot", o, m)
			}
			if told(o) != begun() {
				t.Errorf("of %d: Got is %+v", slot, told(o))
			}
		}
		if NewPark(slot) == nil || NewFree(slot, 3) == nil {
			t.Errorf("of %d: nothing", slot)
		}
	}
	for _, slot := range []int{0, 1, 8, end - 1, end} {
		for _, o := range []operation{NewPark(slot), NewFree(slot, 0), NewFree(slot, maxGen)} {
			if o.Over() {
				t.Errorf("of %d: over ahead of all steps", slot)
			}
		}
	}
}

// R3: operations that are not there, or that no call made, are over, and got nothing.
func TestNotMade(t *testing.T) {
	var alloc Alloc
	var free Free
	var park Park
	for _, o := range []operation{(*Alloc)(nil), (*Free)(nil), (*Park)(nil), &alloc, &free, &park, new(Alloc), new(Free), new(Park)} {
		for _, m := range []*mems.Mem{mems.New(), memory(mems.Word{Addr: freeAt, Value: hd(3, 0)}), nil} {
			if !o.Over() || told(o) != begun() {
				t.Errorf("%T that no call made: over is %v, Got %+v", o, o.Over(), told(o))
			}
			rests(t, "what no call made", o, m)
			if told(o) != begun() {
				t.Errorf("%T that no call made: Got is %+v", o, told(o))
			}
		}
	}
}

// R3: of a memory that is not there each word is 0, and no CAS does: each call ends, and answers what the lines say of that.
func TestNoMemory(t *testing.T) {
	var zero mems.Mem
	for _, m := range []*mems.Mem{nil, &zero} {
		a := NewAlloc()
		if !a.Step(m) || !a.Over() || told(a) != begun() {
			t.Errorf("an Alloc is over: %v, Got %+v", a.Over(), told(a))
		}
		for _, o := range []operation{NewPark(3), NewFree(3, 0), NewFree(3, 9)} { // the CAS of their count, or Push, never does
			for i := range 100 {
				if o.Step(m) || o.Over() || told(o) != begun() {
					t.Fatalf("%T: over, or Got %+v, behind step %d", o, told(o), i+1)
				}
			}
		}
		if m.Steps() != 0 || m.Words() != nil {
			t.Error("a memory that is not there has steps, or words")
		}
	}
	// a memory that comes, or goes, between: the lines go on
	m := memory(mems.Word{Addr: stateAt(3), Value: drains}, mems.Word{Addr: headerAt(3), Value: hw(api.StFree, 4)})
	p := NewPark(3)
	p.Step(m)
	p.Step(m)
	for range 2 {
		p.Step(nil) // loads 0, and the CAS does not
	}
	step(t, "Park", p, m, 4, ld(asideAt(3), 0), false)
	step(t, "Park", p, m, 5, cas(asideAt(3), 0, 1), false)
	step(t, "Park", p, m, 6, ld(stateAt(3), drains), true)
	if !p.Got() {
		t.Error("the Park did not stay")
	}
}

// P8.1 to P8.3: each operation has its own place: steps of one do not take another one on.
func TestApart(t *testing.T) {
	word := func(a api.Addr, v uint64) mems.Word { return mems.Word{Addr: a, Value: v} }
	m := memory(word(freeAt, hd(3, 0)), word(linkAt(3), hd(11, 0)), word(stateAt(3), drains), word(stateAt(11), mapped))
	a, b, f, g, p, q := NewAlloc(), NewAlloc(), NewFree(4, 9), NewFree(12, 0), NewPark(5), NewPark(13)
	for i, s := range []struct {
		of   operation
		want api.Access
		over bool
	}{
		{a, ld(freeAt, hd(3, 0)), false},
		{f, ld(headerAt(4), 0), false},
		{p, ld(headerAt(5), 0), false},
		{g, ld(headerAt(12), 0), false},
		{a, ld(linkAt(3), hd(11, 0)), false},
		{b, ld(freeAt, hd(3, 0)), false},
		{p, st(headerAt(5), 0, hw(api.StParked, 0)), false},
		{q, ld(headerAt(13), 0), false},
		{a, cas(freeAt, hd(3, 0), hd(11, 1)), false},
		{g, st(headerAt(12), 0, hw(api.StGone, 0)), false},
		{b, ld(linkAt(3), hd(11, 0)), false},
		{a, ld(stateAt(3), drains), false},
		{p, ld(asideAt(5), 0), false},
		{b, casNot(freeAt, hd(11, 1)), false},
		{f, st(headerAt(4), 0, hw(api.StFree, 1)), false},
		{a, ld(headerAt(3), 0), false},
		{p, cas(asideAt(5), 0, 1), false},
		{b, ld(freeAt, hd(11, 1)), false},
		{f, ld(stateAt(4), drains), false},
		{a, st(headerAt(3), 0, hw(api.StParked, 0)), false},
		{g, ld(asideAt(12), 0), false},
		{b, ld(linkAt(11), 0), false},
		{a, ld(asideAt(3), 1), false},
		{f, ld(headerAt(4), hw(api.StFree, 1)), false},
		{p, ld(stateAt(5), drains), true},
		{a, cas(asideAt(3), 1, 2), false},
		{b, cas(freeAt, hd(11, 1), 2<<16), false},
		{g, cas(asideAt(12), 0, 1), true},
		{a, ld(stateAt(3), drains), false},
		{b, ld(stateAt(11), mapped), false},
		{a, ld(freeAt, 2<<16), true},
		{b, ld(eraAt, 0), false},
		{q, st(headerAt(13), 0, hw(api.StParked, 0)), false},
		{b, st(birthAt(11), 0, 0), false},
		{b, ld(headerAt(11), 0), false},
		{b, st(headerAt(11), 0, hw(api.StLive, 0)), true},
	} {
		step(t, "apart", s.of, m, i, s.want, s.over)
	}
	for _, s := range []struct {
		of  operation
		got answer
	}{{a, begun()}, {b, gotRef(11, 0)}, {f, begun()}, {g, gotState(api.StGone)}, {p, gotStay(true)}, {q, begun()}} {
		if got := told(s.of); got != s.got {
			t.Errorf("%T: Got is %+v, want %+v", s.of, got, s.got)
		}
	}
}

// stopped: a telling that is not gone on with.
type stopped struct{}

// tale: an operation, told anew as what is done line by line, that waits ahead of each access.
type tale struct {
	by   map[api.Addr]uint64 // the words, which all tales share
	wait func(struct{}) bool
	last api.Access
	got  answer
	next func() (struct{}, bool)
	stop func()
	over bool
}

// tell a tale: it waits ahead of its first access.
func tell(by map[api.Addr]uint64, do func(*tale) answer) *tale {
	t := &tale{by: by, got: begun()}
	t.next, t.stop = iter.Pull(func(yield func(struct{}) bool) {
		defer func() {
			if x := recover(); x != nil {
				if _, ok := x.(stopped); !ok {
					panic(x)
				}
			}
		}()
		t.wait = yield
		got := do(t)
		t.over, t.got = true, got
	})
	t.next()
	return t
}

// step of it: the access.
func (t *tale) step() api.Access {
	t.next()
	return t.last
}

// pause till the next step.
func (t *tale) pause() {
	if !t.wait(struct{}{}) {
		panic(stopped{})
	}
}

func (t *tale) load(a api.Addr) uint64 {
	t.pause()
	t.last = ld(a, t.by[a])
	return t.by[a]
}

func (t *tale) store(a api.Addr, v uint64) {
	t.pause()
	t.last = st(a, t.by[a], v)
	t.by[a] = v
}

func (t *tale) cas(a api.Addr, was, is uint64) bool {
	t.pause()
	if t.last = casNot(a, t.by[a]); t.by[a] != was {
		return false
	}
	t.last = cas(a, was, is)
	t.by[a] = is
	return true
}

// add to a word.
func (t *tale) add(a api.Addr, n uint64) {
	for {
		if w := t.load(a); t.cas(a, w, w+n) {
			return
		}
	}
}

// pop a slot of the list; none: -1.
func (t *tale) pop() int {
	for {
		h := t.load(freeAt)
		slot := slotTold(h)
		if slot < 0 {
			return none
		}
		if to := slotTold(t.load(linkAt(slot))); t.cas(freeAt, h, hd(to, h>>16+1)) {
			return slot
		}
	}
}

// push a slot onto the list.
func (t *tale) push(slot int) {
	for {
		h := t.load(freeAt)
		t.store(linkAt(slot), hd(slotTold(h), 0))
		if t.cas(freeAt, h, hd(slot, h>>16+1)) {
			return
		}
	}
}

// park a slot: does it stay?
func (t *tale) park(slot int) bool {
	gen := genTold(t.load(headerAt(slot)))
	t.store(headerAt(slot), hw(api.StParked, gen))
	for {
		t.add(asideAt(slot), 1)
		if t.load(stateAt(slot)) != mapped {
			return true
		}
		t.add(asideAt(slot), maxWord)
		if t.load(stateAt(slot)) == mapped {
			break
		}
	}
	if t.cas(headerAt(slot), hw(api.StParked, gen), hw(api.StFree, gen)) {
		t.push(slot)
	} else {
		t.add(asideAt(slot), 1)
	}
	return false
}

// alloc a slot.
func (t *tale) alloc() answer {
	slot := t.pop()
	for slot >= 0 && t.load(stateAt(slot)) == drains {
		t.park(slot)
		slot = t.pop()
	}
	if slot < 0 {
		return begun()
	}
	t.store(birthAt(slot), t.load(eraAt))
	gen := genTold(t.load(headerAt(slot)))
	t.store(headerAt(slot), hw(api.StLive, gen))
	return gotRef(slot, gen)
}

// free a slot.
func (t *tale) free(slot int, most uint32) answer {
	gen := genTold(t.load(headerAt(slot)))
	if gen >= most {
		t.store(headerAt(slot), hw(api.StGone, gen))
		t.add(asideAt(slot), 1)
		return gotState(api.StGone)
	}
	t.store(headerAt(slot), hw(api.StFree, gen+1))
	if t.load(stateAt(slot)) != drains {
		t.push(slot)
		return gotState(api.StFree)
	}
	if t.park(slot) {
		return gotState(api.StParked)
	}
	return gotState(api.StFree)
}

// P8.1 to P8.3: in many orders of steps, of whatever words, which others change between: each step is that of the lines.
func TestLinesAnyOrder(t *testing.T) {
	x := numbers(88172645463325252)
	var ends [7]int
	slots := []int{0, 1, 7, 8, 9, end}
	pick := func(l ...uint64) uint64 { return l[x.below(len(l))] }
	for round := range 200 {
		by := map[api.Addr]uint64{}
		m := mems.New()
		put := func(a api.Addr, v uint64) {
			by[a] = v
			m.Store(a, v)
		}
		headed := func() uint64 { return pick(0, 1, 2, 8, 9, 10, 256, 257, 65535) | pick(0, 1, maxTag)<<16 }
		meddle := func() {
			slot := slots[x.below(len(slots))]
			switch x.below(7) {
			case 0:
				put(freeAt, headed())
			case 1:
				put(linkAt(slot), headed())
			case 2:
				put(headerAt(slot), pick(0, 1, 2, 3, 4, 5, 7, maxWord)|pick(0, 1, 2, 3, uint64(maxGen))<<3)
			case 3, 4:
				put(stateAt(slot), pick(mapped, drains, mapped, drains, unmapped, 3, maxWord))
			case 5:
				put(asideAt(slot), pick(0, 1, 8, maxWord))
			case 6:
				put(eraAt, pick(0, 1, 5, maxWord))
			}
		}
		for range 60 {
			meddle()
		}
		ops, tales := make([]operation, 6), make([]*tale, 6)
		for i := range 600 {
			n := x.below(len(ops))
			if ops[n] == nil || tales[n].over {
				slot, most := slots[x.below(len(slots))], uint32(pick(0, 1, 2, 3, uint64(maxGen)))
				switch x.below(4) {
				case 0, 1:
					ops[n], tales[n] = NewAlloc(), tell(by, (*tale).alloc)
				case 2:
					ops[n], tales[n] = NewFree(slot, most), tell(by, func(t *tale) answer { return t.free(slot, most) })
				case 3:
					ops[n], tales[n] = NewPark(slot), tell(by, func(t *tale) answer { return gotStay(t.park(slot)) })
				}
			}
			if x.below(5) == 0 {
				meddle()
			}
			want := tales[n].step()
			step(t, "any order", ops[n], m, i, want, tales[n].over)
			if got := told(ops[n]); got != tales[n].got {
				t.Errorf("Got is %+v, want %+v", got, tales[n].got)
			}
			if tales[n].over {
				ends[kind(ops[n], tales[n].got)]++
			}
			if t.Failed() {
				t.Fatalf("in round %d, at step %d", round, i)
			}
		}
		for _, o := range tales {
			if o != nil {
				o.stop()
			}
		}
		for _, w := range m.Words() {
			if by[w.Addr] != w.Value {
				t.Fatalf("round %d: the word %+v is %#x, want %#x", round, w.Addr, w.Value, by[w.Addr])
			}
			delete(by, w.Addr)
		}
		for a, v := range by {
			if v != 0 {
				t.Fatalf("round %d: the word %+v is 0, want %#x", round, a, v)
			}
		}
	}
	for i, n := range ends {
		if n < 50 {
			t.Errorf("the end %d came %d times alone: %v", i, n, ends)
		}
	}
}

// kind of an end, of the seven that there are.
func kind(o operation, a answer) int {
	switch o.(type) {
	case *Alloc:
		if a.got {
			return 1
		}
		return 0
	case *Free:
		return 2 + map[api.State]int{api.StFree: 0, api.StParked: 1, api.StGone: 2}[a.state]
	}
	if a.stays {
		return 6
	}
	return 5
}

// mover of segments: it lets them drain, and maps them again, one at a time; then it turns those of their slots that are parked.
type mover struct {
	line  rune // which comes next; 0: it has nothing under way
	seg   int
	slots []int // of the segment, those that are not turned yet
	w, n  uint64
	push  *frees.Push
}

// begin to let a segment drain, or to map it again.
func (v *mover) begin(drain bool, slots []int) {
	*v = mover{line: 'm', slots: slots}
	if drain {
		v.line = 'd'
	}
}

// turned: the slot is done with.
func (v *mover) turned() {
	v.line = 'A'
	if v.slots = v.slots[1:]; len(v.slots) == 0 {
		v.line = 0
	}
}

// step of what it has under way.
func (v *mover) step(m *mems.Mem) {
	slot := v.slots[0]
	switch v.line {
	case 'd':
		m.CAS(stateAt(slot), mapped, drains)
		v.line = 0
	case 'm':
		v.line = 0
		if m.CAS(stateAt(slot), drains, mapped) {
			v.line = 'A'
		}
	case 'A':
		if v.w = m.Load(headerAt(slot)); v.w&7 == uint64(api.StParked) {
			v.line = 'B'
			return
		}
		v.turned()
	case 'B':
		if m.CAS(headerAt(slot), v.w, hw(api.StFree, genTold(v.w))) {
			v.line = 'C'
			return
		}
		v.turned()
	case 'C':
		v.n, v.line = m.Load(asideAt(slot)), 'D'
	case 'D':
		v.line = 'C'
		if m.CAS(asideAt(slot), v.n, v.n-1) {
			v.line, v.push = 'E', frees.NewPush(slot)
		}
	case 'E':
		if v.push.Step(m) {
			v.turned()
		}
	}
}

// thread: somebody who allocs, and frees what they got, one operation behind the other.
type thread struct {
	op  operation // nil: it has nothing under way
	has []api.Ref // what it got, and did not begin to free yet
	of  api.Ref   // what it frees
}

// world of threads, a mover, and a memory.
type world struct {
	m       *mems.Mem
	most    uint32
	slots   []int
	threads []*thread
	mover   mover
	gens    map[int]uint32 // by slot: the generation that was got last, and 1
	gone    map[int]bool
}

// newWorld: all slots in the list, the first one first, of a generation; all segments mapped.
func newWorld(threads int, most, gen uint32, tag uint64, slots ...int) *world {
	w := &world{m: mems.New(), most: most, slots: slots, gens: map[int]uint32{}, gone: map[int]bool{}}
	at := freeAt
	for _, slot := range slots {
		w.m.Store(at, hd(slot, tag))
		w.m.Store(stateAt(slot), mapped)
		w.m.Store(headerAt(slot), hw(api.StFree, gen))
		at = linkAt(slot)
	}
	for range threads {
		w.threads = append(w.threads, &thread{})
	}
	return w
}

// of a segment: its slots.
func (w *world) of(seg int) []int {
	return slices.DeleteFunc(slices.Clone(w.slots), func(slot int) bool { return slot/8 != seg })
}

// alloc, free: a thread begins with that.
func (d *thread) alloc() { d.op = NewAlloc() }

func (d *thread) free(which int, most uint32) {
	d.of = d.has[which]
	d.has = slices.Delete(slices.Clone(d.has), which, which+1)
	d.op = NewFree(d.of.Slot, most)
}

// step of what a thread has under way; a ref that is got is its own from then on.
func (w *world) step(t *testing.T, d *thread) {
	t.Helper()
	if !d.op.Step(w.m) {
		return
	}
	switch o := d.op.(type) {
	case *Alloc:
		if r, ok := o.Got(); ok {
			w.take(t, r)
			d.has = append(slices.Clone(d.has), r)
		}
	case *Free:
		last := d.of.Gen >= w.most
		if s := o.Got(); (s == api.StGone) != last {
			t.Fatalf("freed %+v, Got is %d", d.of, s)
		}
		w.gone[d.of.Slot] = w.gone[d.of.Slot] || last
	}
	d.op = nil
}

// take a ref that was got: its slot is not gone, and its generation is above the one that was got last.
func (w *world) take(t *testing.T, r api.Ref) {
	t.Helper()
	if w.gone[r.Slot] || r.Gen < w.gens[r.Slot] || r.Mark {
		t.Fatalf("got %+v, behind generation %d of it, gone %v", r, int(w.gens[r.Slot])-1, w.gone[r.Slot])
	}
	w.gens[r.Slot] = r.Gen + 1
}

// idle: is nothing under way?
func (w *world) idle() bool {
	for _, d := range w.threads {
		if d.op != nil {
			return false
		}
	}
	return w.mover.line == 0
}

// listed slots, from the head on; false, if they go round.
func listed(by map[api.Addr]uint64) (map[int]bool, bool) {
	l := map[int]bool{}
	for s := slotTold(by[freeAt]); s >= 0; s = slotTold(by[linkAt(s)]) {
		if l[s] {
			return l, false
		}
		l[s] = true
	}
	return l, true
}

// holds: is each slot that was got live, and for one alone?
func (w *world) holds(t *testing.T) {
	t.Helper()
	live := map[int]bool{}
	for _, d := range w.threads {
		for _, r := range d.has {
			if is := w.m.Load(headerAt(r.Slot)); live[r.Slot] || is != hw(api.StLive, r.Gen) {
				t.Fatalf("%+v is live for another one, too: %v, or its header %#x", r, live[r.Slot], is)
			}
			live[r.Slot] = true
		}
	}
	if w.idle() {
		w.rests(t, live)
	}
}

// rests: when nothing is under way, is each slot live, in the list, parked, or gone, and counted so?
func (w *world) rests(t *testing.T, live map[int]bool) {
	t.Helper()
	by := map[api.Addr]uint64{}
	for _, x := range w.m.Words() {
		by[x.Addr] = x.Value
	}
	list, ok := listed(by)
	if !ok {
		t.Fatal("the list goes round")
	}
	aside := map[api.Addr]uint64{}
	for _, slot := range w.slots {
		at := 0
		is := api.State(by[headerAt(slot)] & 7)
		for s, b := range map[api.State]bool{api.StFree: list[slot], api.StLive: live[slot], api.StGone: w.gone[slot], api.StParked: is == api.StParked && by[stateAt(slot)] == drains} {
			if b {
				at++
			}
			if b != (is == s) {
				t.Fatalf("slot %d is of state %d: live %v, in the list %v, gone %v", slot, is, live[slot], list[slot], w.gone[slot])
			}
		}
		if at != 1 {
			t.Fatalf("slot %d, of state %d, is at %d places", slot, is, at)
		}
		if is == api.StParked || is == api.StGone {
			aside[asideAt(slot)]++
		}
	}
	for _, slot := range w.slots {
		if n := by[asideAt(slot)]; n != aside[asideAt(slot)] {
			t.Fatalf("of slot %d's segment %d are told put aside, want %d", slot, n, aside[asideAt(slot)])
		}
	}
}

// finish all that is under way, one behind the other, each alone.
func (w *world) finish(t *testing.T) {
	t.Helper()
	within := 30 * (2 + len(w.slots))
	for _, d := range w.threads {
		for range within {
			if d.op != nil {
				w.step(t, d)
			}
		}
	}
	for range within {
		if w.mover.line != 0 {
			w.mover.step(w.m)
		}
	}
	if !w.idle() {
		t.Fatalf("not over behind %d steps alone", within)
	}
	w.holds(t)
}

// begin something, whatever the numbers say.
func (w *world) begin(x *numbers, d *thread) {
	if len(d.has) == 0 || x.below(9) < 5 {
		d.alloc()
		return
	}
	d.free(x.below(len(d.has)), w.most)
}

// P8.4: many threads, in many orders of steps, while segments drain and are mapped again.
func TestManyThreads(t *testing.T) {
	x := numbers(1234567890123456789)
	var gone, deepest int
	for _, c := range []struct {
		threads, slots, apart, rounds, steps int
		most, gen                            uint32
	}{
		{1, 1, 1, 20, 200, 9, 0}, {2, 1, 1, 150, 300, 200, 0}, {2, 2, 1, 100, 300, 5, 0}, {3, 2, 1, 100, 400, 300, 0}, {3, 3, 5, 100, 400, 2, 0},
		{4, 5, 3, 50, 600, maxGen, maxGen - 3}, {8, 4, 1, 50, 1200, 300, 100}, {8, 12, 2, 30, 1500, 4, 2}, {16, 16, 1, 20, 3000, 60, 0}, {5, 256, 1, 1, 6000, 3, 0}, {16, 64, 4, 5, 6000, 2, 1},
	} {
		for range c.rounds {
			var l []int
			for i := range c.slots {
				l = append(l, end-i*c.apart)
			}
			w := newWorld(c.threads, c.most, c.gen, []uint64{0, 5, maxTag - 20, maxTag}[x.below(4)], l...)
			for range c.steps {
				if x.below(4) == 0 {
					if w.mover.line == 0 {
						w.mover.begin(x.below(2) == 0, w.of(l[x.below(len(l))]/8))
					}
					for range 1 + x.below(1+x.below(20)) {
						if w.mover.line != 0 {
							w.mover.step(w.m)
						}
					}
				}
				d := w.threads[x.below(c.threads)]
				for range 1 + x.below(1+x.below(9)) { // some orders let one go on for a while
					if d.op == nil {
						w.begin(&x, d)
					}
					w.step(t, d)
				}
				if c.slots < 100 || x.below(50) == 0 {
					w.holds(t)
				}
			}
			w.finish(t)
			gone += len(w.gone)
			for _, gen := range w.gens {
				deepest = max(deepest, int(gen))
			}
		}
	}
	if gone < 400 || deepest < 40 {
		t.Errorf("%d slots freed, the greatest generation %d", gone, deepest)
	}
}

// P8.4: each order that there is of the steps of two threads and a mover, each of which has a few things to do.
func TestEachOrder(t *testing.T) {
	for _, c := range []struct {
		name  string
		slots []int
		most  uint32
		does  []string // by a thread: a allocs, f frees what was got last, if something was; the last one is the mover: d drains, m maps
	}{
		{"one slot, two threads", []int{7}, 9, []string{"afa", "afa", ""}},
		{"one slot, which is gone", []int{7}, 1, []string{"afaf", "afa", ""}},
		{"one slot, one thread, that drains and is mapped", []int{0}, 9, []string{"afafa", "dmdm"}},
		{"one slot, two threads, that drains and is mapped", []int{0}, 9, []string{"afa", "af", "dmd"}},
		{"one slot, two threads, that drains, is mapped, and drains again", []int{end}, 0, []string{"af", "a", "dmdm"}},
		{"two slots of a segment, two threads", []int{8, 9}, 9, []string{"a", "a", "dm"}},
		{"two slots of two segments, two threads", []int{8, 7}, 9, []string{"af", "a", "dm"}},
	} {
		o := orders{t: t, does: c.does, seen: map[moment]bool{}}
		w := newWorld(len(c.does)-1, c.most, 0, 0, c.slots...)
		o.from(w, make([]int, len(c.does)))
		if o.ends == 0 {
			t.Errorf("%s: no end", c.name)
		}
		t.Logf("%s: %d moments, %d ends", c.name, len(o.seen), o.ends)
	}
}

// orders of steps, gone through from moment to moment.
type orders struct {
	t    *testing.T
	does []string
	seen map[moment]bool
	ends int
}

// moment: all words, and what each one is at; from two that are alike the same things follow.
type moment struct {
	words   string
	threads [2]struct {
		op, of any
		has    [2]api.Ref
		many   int
	}
	mover struct {
		line rune
		left int
		w, n uint64
		push frees.Push
	}
	done [3]int
	gens [2]uint32
	gone [2]bool
}

// at: the moment of a world.
func (o *orders) at(w *world, done []int) moment {
	var k moment
	var b []byte
	for _, x := range w.m.Words() {
		b = append(b, byte(x.Addr.Kind), byte(x.Addr.At), byte(x.Addr.Field), byte(x.Value), byte(x.Value>>8), byte(x.Value>>16), byte(x.Value>>24))
	}
	k.words = string(b)
	for i, d := range w.threads {
		of := &k.threads[i]
		of.op, of.of, of.many = valued(d.op), d.of, len(d.has)
		copy(of.has[:], d.has)
	}
	k.mover.line, k.mover.left, k.mover.w, k.mover.n = w.mover.line, len(w.mover.slots), w.mover.w, w.mover.n
	if w.mover.push != nil {
		k.mover.push = *w.mover.push
	}
	copy(k.done[:], done)
	for i, slot := range w.slots {
		k.gens[i], k.gone[i] = w.gens[slot], w.gone[slot]
	}
	return k
}

// from a moment on: each one that has something to do goes next once.
func (o *orders) from(w *world, done []int) {
	k := o.at(w, done)
	if o.seen[k] {
		return
	}
	o.seen[k] = true
	w.holds(o.t)
	idle := true
	for i := range o.does {
		mover := i == len(w.threads)
		under := mover && w.mover.line != 0 || !mover && w.threads[i].op != nil
		if !under && done[i] == len(o.does[i]) {
			continue
		}
		idle = false
		on, after := w.copied(), slices.Clone(done)
		if !under {
			after[i]++
			if !on.begins(i, rune(o.does[i][done[i]])) {
				o.from(on, after)
				continue
			}
		}
		if mover {
			on.mover.step(on.m)
		} else {
			on.step(o.t, on.threads[i])
		}
		o.from(on, after)
	}
	if idle {
		o.ends++
	}
}

// begins: one of them begins with what it has to do; false, if there is nothing to be freed.
func (w *world) begins(i int, what rune) bool {
	if what == 'd' || what == 'm' {
		w.mover.begin(what == 'd', w.of(w.slots[0]/8))
		return true
	}
	d := w.threads[i]
	if what == 'a' {
		d.alloc()
		return true
	}
	if len(d.has) == 0 {
		return false
	}
	d.free(len(d.has)-1, w.most)
	return true
}

// copied: a world like it, apart from it.
func (w *world) copied() *world {
	c := *w
	c.m = memory(w.m.Words()...)
	c.threads, c.gens, c.gone = nil, map[int]uint32{}, map[int]bool{}
	for _, d := range w.threads {
		c.threads = append(c.threads, &thread{of: d.of, has: slices.Clone(d.has), op: opCopied(d.op)})
	}
	if w.mover.push != nil {
		c.mover.push = copied(w.mover.push).(*frees.Push)
	}
	for slot, gen := range w.gens {
		c.gens[slot], c.gone[slot] = gen, w.gone[slot]
	}
	return &c
}

// opCopied: an operation like it, apart from it.
func opCopied(o operation) operation {
	if o == nil {
		return nil
	}
	return copied(o).(operation)
}

// copied: a part like it, apart from it, with the part that it is at.
func copied(p part) part {
	if p == nil {
		return nil
	}
	v := reflect.New(reflect.TypeOf(p).Elem())
	v.Elem().Set(reflect.ValueOf(p).Elem())
	switch c := v.Interface().(type) {
	case *Alloc:
		c.next = copied(c.next)
	case *Free:
		c.next = copied(c.next)
	case *Park:
		c.next = copied(c.next)
	}
	return v.Interface().(part)
}

// value of a part, with no pointer in it, so that those that are alike are equal.
type value struct{ of, next any }

// valued: the value.
func valued(p part) any {
	if p == nil {
		return nil
	}
	var next part
	p = copied(p)
	switch p := p.(type) {
	case *Alloc:
		next, p.next = p.next, nil
	case *Free:
		next, p.next = p.next, nil
	case *Park:
		next, p.next = p.next, nil
	}
	return value{reflect.ValueOf(p).Elem().Interface(), valued(next)}
}
