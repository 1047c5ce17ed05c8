package grows

import (
	"math"
	"slices"
	"testing"

	"ragpicker/api"
	"ragpicker/mems"
	"ragpicker/words"
)

const (
	minInt  = math.MinInt
	maxInt  = math.MaxInt
	maxWord = uint64(math.MaxUint64)
	maxTag  = uint64(1<<48 - 1)
	maxGen  = uint32(math.MaxUint32)
	none    = -1
	lastSeg = api.MaxSegs - 1
)

// States of a segment, told anew.
const (
	unmapped uint64 = iota
	mapped
	drains
)

// Where words stand, told anew.
var freeAt = api.Addr{Kind: api.WdFree}

func headerAt(slot int) api.Addr { return api.Addr{Kind: api.WdSlot, At: slot, Field: 0} }
func birthAt(slot int) api.Addr  { return api.Addr{Kind: api.WdSlot, At: slot, Field: 1} }
func linkAt(slot int) api.Addr   { return api.Addr{Kind: api.WdSlot, At: slot, Field: 2} }
func stateAt(seg int) api.Addr   { return api.Addr{Kind: api.WdSeg, At: seg, Field: 0} }
func asideAt(seg int) api.Addr   { return api.Addr{Kind: api.WdSeg, At: seg, Field: 1} }

// hd: the word of a list's head, told anew: the slot and 1 in bits 0 to 15, the tag behind them.
func hd(slot int, tag uint64) uint64 { return tag<<16 | uint64(slot+1) }

// slotTold: the slot of such a word.
func slotTold(w uint64) int {
	if n := int(w & 0xffff); n <= 256 {
		return n - 1
	}
	return none
}

// hw: the word of a header, told anew: the state in bits 0 to 2, the generation behind them.
func hw(s api.State, gen uint32) uint64 { return uint64(gen)<<3 | uint64(s) }

// genTold: the generation of such a word.
func genTold(w uint64) uint32 { return uint32(w >> 3) }

// isParked: does such a word say so?
func isParked(w uint64) bool { return w&7 == 3 }

// Accesses, as a memory tells them.
func ld(a api.Addr, v uint64) api.Access {
	return api.Access{Kind: api.AcLoad, Addr: a, Was: v, Is: v}
}

func st(a api.Addr, was, is uint64) api.Access {
	return api.Access{Kind: api.AcStore, Addr: a, Was: was, Is: is}
}

func cas(a api.Addr, was, is uint64) api.Access {
	return api.Access{Kind: api.AcCAS, Addr: a, Was: was, Is: is, Done: true}
}

func casNot(a api.Addr, v uint64) api.Access {
	return api.Access{Kind: api.AcCAS, Addr: a, Was: v, Is: v}
}

// accesses, one behind the other.
type accesses = []api.Access

// joined accesses.
func joined(l ...accesses) accesses { return slices.Concat(l...) }

// pushed: the accesses of a Push of a slot that nobody disturbs, onto a head, over an old link.
func pushed(slot int, head, link uint64) accesses {
	return accesses{ld(freeAt, head), st(linkAt(slot), link, hd(slotTold(head), 0)), cas(freeAt, head, hd(slot, (head>>16+1)&maxTag))}
}

// popped: those of a Pop.
func popped(head, link uint64) accesses {
	return accesses{ld(freeAt, head), ld(linkAt(slotTold(head)), link), cas(freeAt, head, hd(slotTold(link), (head>>16+1)&maxTag))}
}

// parked: those of a Park of a slot that stays, with so many put aside.
func parked(slot int, header, aside uint64) accesses {
	h, n := headerAt(slot), asideAt(slot/8)
	return accesses{ld(h, header), st(h, header, hw(api.StParked, genTold(header))), ld(n, aside), cas(n, aside, aside+1), ld(stateAt(slot/8), drains)}
}

// freed: those of lines A to D of a slot, whose header is that word, with so many put aside.
func freed(slot int, header, aside uint64) accesses {
	h, n := headerAt(slot), asideAt(slot/8)
	return accesses{ld(h, header), cas(h, header, hw(api.StFree, genTold(header))), ld(n, aside), cas(n, aside, aside-1)}
}

// memory with these words.
func memory(l ...mems.Word) *mems.Mem {
	m := mems.New()
	for _, w := range l {
		m.Store(w.Addr, w.Value)
	}
	return m
}

func word(a api.Addr, v uint64) mems.Word { return mems.Word{Addr: a, Value: v} }

// operation: what both of them are.
type operation interface {
	Step(m *mems.Mem) bool
	Over() bool
	Got() api.Errno
}

// numbers that always are the same ones.
type numbers uint64

// below a limit: the next one.
func (x *numbers) below(n int) int {
	*x ^= *x << 13
	*x ^= *x >> 7
	*x ^= *x << 17
	return int(uint64(*x) >> 33 % uint64(n))
}

// meddling of somebody else ahead of a step.
type meddling struct {
	ahead int // of which step, from 0 on
	at    api.Addr
	is    uint64
}

// course of an operation, step by step.
type course struct {
	name   string
	at     []mems.Word // at first
	of     operation
	others []meddling
	want   accesses
	got    api.Errno
}

// held: each step of it against its accesses; ahead of the end it is not over, and got OK.
func (c course) held(t *testing.T) {
	t.Helper()
	m := memory(c.at...)
	if c.of.Over() || c.of.Got() != api.OK {
		t.Errorf("%s: ahead of all steps over is %v, Got %d", c.name, c.of.Over(), c.of.Got())
	}
	for i, a := range c.want {
		for _, x := range c.others {
			if x.ahead == i {
				m.Store(x.at, x.is)
			}
		}
		step(t, c.name, c.of, m, i, a, i == len(c.want)-1)
	}
	rests(t, c.name, c.of, m, c.got)
}

// step of an operation, held against the access and whether it is over.
func step(t *testing.T, name string, o operation, m *mems.Mem, i int, want api.Access, is bool) {
	t.Helper()
	steps := m.Steps()
	if o.Got() != api.OK {
		t.Errorf("%s: ahead of step %d Got is %d", name, i+1, o.Got())
	}
	if got := o.Step(m); got != is || o.Over() != is {
		t.Errorf("%s: step %d answers %v, Over %v, want %v", name, i+1, got, o.Over(), is)
	}
	if m.Steps() != steps+1 {
		t.Fatalf("%s: step %d makes %d accesses", name, i+1, m.Steps()-steps)
	}
	if got := m.Last(); got != want {
		t.Fatalf("%s: step %d is %+v, want %+v", name, i+1, got, want)
	}
}

// rests: an operation that is over, and got that, takes no step any more, of whatever memory, and says so.
func rests(t *testing.T, name string, o operation, m *mems.Mem, got api.Errno) {
	t.Helper()
	var zero mems.Mem
	other := memory(word(freeAt, hd(5, 3)), word(stateAt(0), drains), word(headerAt(0), 3))
	for _, m := range []*mems.Mem{m, other, mems.New(), nil, &zero} {
		was, steps, access := m.Words(), m.Steps(), m.Last()
		for range 3 {
			if !o.Over() || o.Got() != got || !o.Step(m) || !o.Over() || o.Got() != got {
				t.Errorf("%s: over is %v, Got %d, want %d", name, o.Over(), o.Got(), got)
			}
		}
		if m.Steps() != steps || m.Last() != access || !slices.Equal(m.Words(), was) {
			t.Errorf("%s: takes steps when it is over", name)
		}
	}
}

// gone headers in all slots of a segment, and so many put aside: nothing is turned.
func gone(seg int, state, aside uint64) []mems.Word {
	l := []mems.Word{word(stateAt(seg), state), word(asideAt(seg), aside)}
	for i := range 8 {
		l = append(l, word(headerAt(8*seg+i), hw(api.StGone, 9)))
	}
	return l
}

// passed: the accesses of slots, from one to the other, that are gone.
func passed(from, to int) accesses {
	var l accesses
	for slot := from; slot < to; slot++ {
		l = append(l, ld(headerAt(slot), hw(api.StGone, 9)))
	}
	return l
}

// some segments: the first one, the last one, and others.
func some() []int { return []int{0, 1, 17, lastSeg} }

// odd words, of whatever bits.
func odd() []uint64 {
	return []uint64{0, 1, 2, 3, 4, 5, 6, 7, 8, 9, 11, 12, 255, 256, 257, 258, 65535, 65536, 65537, 1 << 32, 1<<32 + 1, 1<<32 + 2, 1<<32 + 8, 1<<35 - 8, 1<<35 - 5, 1<<35 - 1, 1 << 35, 1<<35 + 11, 1<<48 + 27, 1<<63 + 2, 1<<63 + 3, 1<<63 + 8, maxWord - 7, maxWord - 4, maxWord - 1, maxWord}
}

// P9.1, P9.2: chapter 9's examples.
func TestExamples(t *testing.T) {
	m := memory(word(asideAt(1), 8))
	for slot := 8; slot < 16; slot++ {
		m.Store(headerAt(slot), hw(api.StParked, 0))
	}
	run := func(o operation, want api.Errno) int {
		t.Helper()
		steps := 1
		for !o.Step(m) && steps < 1000 {
			steps++
		}
		if o.Got() != want {
			t.Errorf("Got is %d, want %d", o.Got(), want)
		}
		return steps
	}
	segment := func(state, aside uint64) {
		t.Helper()
		if m.Load(stateAt(1)) != state || m.Load(asideAt(1)) != aside {
			t.Errorf("the segment is of state %d, and %d are put aside", m.Load(stateAt(1)), m.Load(asideAt(1)))
		}
	}
	if n := run(NewGrow(1), api.OK); n != 58 {
		t.Errorf("Grow has %d steps", n)
	}
	segment(mapped, 0)
	var l []int
	for s := slotTold(m.Load(freeAt)); s >= 0 && len(l) < 9; s = slotTold(m.Load(linkAt(s))) {
		l = append(l, s)
		if h := m.Load(headerAt(s)); h != hw(api.StFree, 0) {
			t.Errorf("slot %d has the header %d", s, h)
		}
	}
	if !slices.Equal(l, []int{15, 14, 13, 12, 11, 10, 9, 8}) {
		t.Errorf("in the list are %v", l)
	}
	run(NewShrink(1, 1), api.OK)
	segment(unmapped, 8)
	run(NewShrink(1, 1), api.ErrNone)
	run(NewGrow(1), api.OK)
	run(NewGrow(1), api.ErrSame)
	m.Store(freeAt, m.Load(linkAt(15))) // one is taken
	m.Store(headerAt(15), hw(api.StLive, 0))
	if n := run(NewShrink(1, 0), api.ErrGone); n != 4+8 {
		t.Errorf("Shrink with no look has %d steps", n)
	}
	segment(mapped, 0)
	run(NewShrink(1, 2), api.ErrGone)
	segment(mapped, 0)
	m.Store(headerAt(15), hw(api.StParked, 0))
	m.Store(asideAt(1), 1)
	run(NewShrink(1, 2), api.OK)
	segment(unmapped, 8)
}

// P9.1: lines 1 and 2 of a Grow, by each way that they take.
func TestGrowBegins(t *testing.T) {
	for _, seg := range some() {
		s := stateAt(seg)
		come := joined(accesses{ld(s, unmapped), cas(s, unmapped, mapped)}, passed(8*seg, 8*seg+8))
		for _, c := range []course{
			{name: "is not mapped", want: come, got: api.OK},
			{name: "is mapped", at: []mems.Word{word(s, mapped)}, want: accesses{ld(s, mapped)}, got: api.ErrSame},
			{name: "drains", at: []mems.Word{word(s, drains)}, want: accesses{ld(s, drains)}, got: api.ErrBusy},
			{name: "is mapped by others behind line 1", others: []meddling{{1, s, mapped}}, want: accesses{ld(s, unmapped), casNot(s, mapped)}, got: api.ErrBusy},
			{name: "drains behind line 1", others: []meddling{{1, s, drains}}, want: accesses{ld(s, unmapped), casNot(s, drains)}, got: api.ErrBusy},
			{name: "is of no state behind line 1", others: []meddling{{1, s, maxWord}}, want: accesses{ld(s, unmapped), casNot(s, maxWord)}, got: api.ErrBusy},
			{name: "is mapped behind line 1, and gone again", others: []meddling{{1, s, mapped}, {1, s, unmapped}}, want: come, got: api.OK},
			{name: "is not mapped at last", at: []mems.Word{word(s, mapped)}, others: []meddling{{0, s, unmapped}}, want: come, got: api.OK},
			{name: "drains behind line 2", others: []meddling{{2, s, drains}, {5, s, unmapped}}, want: come, got: api.OK},
			{name: "so many are put aside as may be", at: []mems.Word{word(asideAt(seg), 8)}, want: come, got: api.OK},
		} {
			c.at = append(gone(seg, unmapped, 8), c.at...)
			c.of = NewGrow(seg)
			c.held(t)
		}
		for _, v := range odd()[3:] { // the three ahead of these are states
			at := []mems.Word{word(s, v)}
			course{name: "Grow, of no state", at: at, of: NewGrow(seg), want: accesses{ld(s, v)}, got: api.ErrBusy}.held(t)
			course{name: "Shrink, of no state", at: at, of: NewShrink(seg, 2), want: accesses{ld(s, v)}, got: api.ErrBusy}.held(t)
		}
	}
}

// turning of a slot, as both operations do it: the courses' accesses begin at line A.
func turnings(slot int) []course {
	h, n := headerAt(slot), asideAt(slot/8)
	p4, f4 := hw(api.StParked, 4), hw(api.StFree, 4)
	at := func(header, aside uint64) []mems.Word { return []mems.Word{word(h, header), word(n, aside)} }
	mine := accesses{ld(h, p4), cas(h, p4, f4)}
	less := accesses{ld(n, 5), cas(n, 5, 4)}
	l := []course{
		{name: "parked", at: at(p4, 5), want: joined(mine, less, pushed(slot, 0, 0))},
		{name: "parked, and the list has slots", at: append(at(p4, 5), word(freeAt, hd(50, 9)), word(linkAt(slot), hd(9, 3))), want: joined(mine, less, pushed(slot, hd(50, 9), hd(9, 3)))},
		{name: "parked, and others push meanwhile", at: at(p4, 5), others: []meddling{{6, freeAt, hd(50, 9)}}, want: joined(mine, less, accesses{ld(freeAt, 0), st(linkAt(slot), 0, 0), casNot(freeAt, hd(50, 9))}, pushed(slot, hd(50, 9), 0))},
		{name: "parked, and others push twice", at: at(p4, 5), others: []meddling{{6, freeAt, hd(50, 9)}, {9, freeAt, hd(51, 2)}}, want: joined(mine, less, accesses{ld(freeAt, 0), st(linkAt(slot), 0, 0), casNot(freeAt, hd(50, 9)), ld(freeAt, hd(50, 9)), st(linkAt(slot), 0, hd(50, 0)), casNot(freeAt, hd(51, 2))}, pushed(slot, hd(51, 2), hd(50, 0)))},
		{name: "turned by others behind A", at: at(p4, 5), others: []meddling{{1, h, f4}}, want: accesses{ld(h, p4), casNot(h, f4)}},
		{name: "live behind A", at: at(p4, 5), others: []meddling{{1, h, hw(api.StLive, 4)}}, want: accesses{ld(h, p4), casNot(h, hw(api.StLive, 4))}},
		{name: "of one generation more behind A", at: at(p4, 5), others: []meddling{{1, h, hw(api.StParked, 5)}}, want: accesses{ld(h, p4), casNot(h, hw(api.StParked, 5))}},
		{name: "of another bit behind A", at: at(p4, 5), others: []meddling{{1, h, p4 | 1<<63}}, want: accesses{ld(h, p4), casNot(h, p4|1<<63)}},
		{name: "turned behind A, and parked again", at: at(p4, 5), others: []meddling{{1, h, f4}, {1, h, p4}}, want: joined(mine, less, pushed(slot, 0, 0))},
		{name: "parked ahead of A", at: at(f4, 5), others: []meddling{{0, h, p4}}, want: joined(mine, less, pushed(slot, 0, 0))},
		{name: "turned ahead of A", at: at(p4, 5), others: []meddling{{0, h, f4}}, want: accesses{ld(h, f4)}},
		{name: "live behind B", at: at(p4, 5), others: []meddling{{2, h, hw(api.StLive, 4)}}, want: joined(mine, less, pushed(slot, 0, 0))},
		{name: "counted by others ahead of C", at: at(p4, 5), others: []meddling{{2, n, 7}}, want: joined(mine, accesses{ld(n, 7), cas(n, 7, 6)}, pushed(slot, 0, 0))},
		{name: "counted by others behind C", at: at(p4, 5), others: []meddling{{3, n, 7}}, want: joined(mine, accesses{ld(n, 5), casNot(n, 7), ld(n, 7), cas(n, 7, 6)}, pushed(slot, 0, 0))},
		{name: "counted by others behind C, twice", at: at(p4, 5), others: []meddling{{3, n, 7}, {5, n, 5}}, want: joined(mine, accesses{ld(n, 5), casNot(n, 7), ld(n, 7), casNot(n, 5), ld(n, 5), cas(n, 5, 4)}, pushed(slot, 0, 0))},
		{name: "counted by others behind C, and back", at: at(p4, 5), others: []meddling{{3, n, 7}, {3, n, 5}}, want: joined(mine, less, pushed(slot, 0, 0))},
		{name: "one less of 0", at: at(p4, 0), want: joined(mine, accesses{ld(n, 0), cas(n, 0, maxWord)}, pushed(slot, 0, 0))},
		{name: "one less of 0 behind C", at: at(p4, 5), others: []meddling{{3, n, 0}}, want: joined(mine, accesses{ld(n, 5), casNot(n, 0), ld(n, 0), cas(n, 0, maxWord)}, pushed(slot, 0, 0))},
		{name: "one less of 1", at: at(p4, 1), want: joined(mine, accesses{ld(n, 1), cas(n, 1, 0)}, pushed(slot, 0, 0))},
		{name: "one less of the greatest number", at: at(p4, maxWord), want: joined(mine, accesses{ld(n, maxWord), cas(n, maxWord, maxWord-1)}, pushed(slot, 0, 0))},
		{name: "its segment drains meanwhile", at: at(p4, 5), others: []meddling{{1, stateAt(slot / 8), drains}, {4, stateAt(slot / 8), unmapped}}, want: joined(mine, less, pushed(slot, 0, 0))},
	}
	for _, v := range odd() {
		if !isParked(v) {
			l = append(l, course{name: "of other bits, not parked", at: at(v, 5), want: accesses{ld(h, v)}})
			continue
		}
		l = append(l, course{name: "of other bits, parked", at: at(v, 5), want: joined(accesses{ld(h, v), cas(h, v, hw(api.StFree, genTold(v)))}, less, pushed(slot, 0, 0))})
	}
	for _, v := range odd() {
		l = append(l, course{name: "of a count of other bits", at: at(p4, v), want: joined(mine, accesses{ld(n, v), cas(n, v, v-1)}, pushed(slot, 0, 0))})
		to, tag := words.AsHead(v)
		l = append(l, course{name: "onto a head of other bits", at: append(at(p4, 5), word(freeAt, v), word(linkAt(slot), v)), want: joined(mine, less, accesses{ld(freeAt, v), st(linkAt(slot), v, words.Head(to, 0)), cas(freeAt, v, words.Head(slot, tag+1))})})
	}
	return l
}

// P9.1, P9.2: lines A to E of a slot, at each place of a segment, by each way that they take, within a Grow, and within a Shrink that gives up.
func TestTurning(t *testing.T) {
	for _, seg := range some() {
		for _, slot := range []int{8 * seg, 8*seg + 3, 8*seg + 7} {
			for _, c := range turnings(slot) {
				at, lines, others := c.at, c.want, c.others
				turned := joined(passed(8*seg, slot), lines, passed(slot+1, 8*seg+8))
				within := func(of operation, got api.Errno, state uint64, first accesses) {
					t.Helper()
					c.of, c.got = of, got
					c.at = append(gone(seg, state, 0), at...)
					c.want = joined(first, turned)
					c.others = nil
					for _, x := range others {
						x.ahead += len(first) + slot - 8*seg
						c.others = append(c.others, x)
					}
					c.held(t)
				}
				s, n := stateAt(seg), asideAt(seg)
				within(NewGrow(seg), api.OK, unmapped, accesses{ld(s, unmapped), cas(s, unmapped, mapped)})
				aside := memory(at...).Load(n)
				if aside != 8 { // a Shrink with as many would end otherwise
					within(NewShrink(seg, 0), api.ErrGone, mapped, accesses{ld(s, mapped), cas(s, mapped, drains), ld(n, aside), cas(s, drains, mapped)})
				}
			}
		}
	}
}

// P9.1, P9.2: slots of all states in one segment: those that are parked are turned, in their order.
func TestTurningAll(t *testing.T) {
	states := []uint64{3, 0, 3, 4, 1, 3, 2, 3}
	for _, seg := range some() {
		for shift := range states {
			at := []mems.Word{word(asideAt(seg), 5), word(freeAt, hd(none, 7))}
			var lines accesses
			head, aside := hd(none, 7), uint64(5)
			for i := range states {
				slot := 8*seg + i
				w := states[(i+shift)%8] | uint64(i)<<3
				at = append(at, word(headerAt(slot), w))
				if !isParked(w) {
					lines = append(lines, ld(headerAt(slot), w))
					continue
				}
				lines = joined(lines, freed(slot, w, aside), pushed(slot, head, 0))
				head, aside = hd(slot, head>>16+1), aside-1
			}
			s := stateAt(seg)
			course{name: "Grow", at: at, of: NewGrow(seg), want: joined(accesses{ld(s, unmapped), cas(s, unmapped, mapped)}, lines), got: api.OK}.held(t)
			at = append(at, word(s, mapped))
			course{name: "Shrink", at: at, of: NewShrink(seg, 0), want: joined(accesses{ld(s, mapped), cas(s, mapped, drains), ld(asideAt(seg), 5), cas(s, drains, mapped)}, lines), got: api.ErrGone}.held(t)
		}
	}
}

// P9.2: lines 1 to 4, and 8, of a Shrink, by each way that they take, with looks that find nothing in the list.
func TestShrinkLooks(t *testing.T) {
	for _, seg := range some() {
		s, n := stateAt(seg), asideAt(seg)
		first := accesses{ld(s, mapped), cas(s, mapped, drains)}
		look := func(aside uint64) accesses { return accesses{ld(n, aside)} }
		empty := accesses{ld(freeAt, 0)}
		all := joined(first, look(8), accesses{cas(s, drains, unmapped)})
		back := joined(accesses{cas(s, drains, mapped)}, passed(8*seg, 8*seg+8))
		for _, c := range []course{
			{name: "is not mapped", of: NewShrink(seg, 1), others: []meddling{{0, s, unmapped}}, want: accesses{ld(s, unmapped)}, got: api.ErrNone},
			{name: "drains", of: NewShrink(seg, 1), others: []meddling{{0, s, drains}}, want: accesses{ld(s, drains)}, got: api.ErrBusy},
			{name: "drains behind line 1", of: NewShrink(seg, 1), others: []meddling{{1, s, drains}}, want: accesses{ld(s, mapped), casNot(s, drains)}, got: api.ErrBusy},
			{name: "is not mapped behind line 1", of: NewShrink(seg, 1), others: []meddling{{1, s, unmapped}}, want: accesses{ld(s, mapped), casNot(s, unmapped)}, got: api.ErrBusy},
			{name: "is of no state behind line 1", of: NewShrink(seg, 1), others: []meddling{{1, s, maxWord}}, want: accesses{ld(s, mapped), casNot(s, maxWord)}, got: api.ErrBusy},
			{name: "drains behind line 1, and is mapped again", of: NewShrink(seg, 1), others: []meddling{{1, s, drains}, {1, s, mapped}, {2, n, 8}}, want: all, got: api.OK},
			{name: "all are put aside, no look", of: NewShrink(seg, 0), others: []meddling{{0, n, 8}}, want: all, got: api.OK},
			{name: "all are put aside, looks below 0", of: NewShrink(seg, minInt), others: []meddling{{0, n, 8}}, want: all, got: api.OK},
			{name: "all are put aside, some looks", of: NewShrink(seg, 5), others: []meddling{{0, n, 8}}, want: all, got: api.OK},
			{name: "all are put aside at the first look's end", of: NewShrink(seg, 1), others: []meddling{{3, n, 8}}, want: joined(first, look(2), empty, look(8), accesses{cas(s, drains, unmapped)}), got: api.OK},
			{name: "all are put aside at the third look's end", of: NewShrink(seg, 3), others: []meddling{{7, n, 8}}, want: joined(first, look(2), empty, look(2), empty, look(2), empty, look(8), accesses{cas(s, drains, unmapped)}), got: api.OK},
			{name: "all are put aside, and are not behind line 3", of: NewShrink(seg, 3), others: []meddling{{2, n, 8}, {3, n, 7}}, want: all, got: api.OK},
			{name: "is mapped by others behind line 3", of: NewShrink(seg, 1), others: []meddling{{2, n, 8}, {3, s, mapped}}, want: joined(first, look(8), accesses{casNot(s, mapped)}), got: api.ErrBusy},
			{name: "is not mapped behind line 3", of: NewShrink(seg, 1), others: []meddling{{2, n, 8}, {3, s, unmapped}}, want: joined(first, look(8), accesses{casNot(s, unmapped)}), got: api.ErrBusy},
			{name: "is of no state behind line 3", of: NewShrink(seg, 1), others: []meddling{{2, n, 8}, {3, s, 1<<32 + 2}}, want: joined(first, look(8), accesses{casNot(s, 1<<32+2)}), got: api.ErrBusy},
			{name: "is mapped behind line 3, and drains again", of: NewShrink(seg, 1), others: []meddling{{2, n, 8}, {3, s, mapped}, {3, s, drains}}, want: all, got: api.OK},
			{name: "no look", of: NewShrink(seg, 0), want: joined(first, look(2), back), got: api.ErrGone},
			{name: "looks below 0", of: NewShrink(seg, -1), want: joined(first, look(2), back), got: api.ErrGone},
			{name: "the least looks", of: NewShrink(seg, minInt), want: joined(first, look(2), back), got: api.ErrGone},
			{name: "one look", of: NewShrink(seg, 1), want: joined(first, look(2), empty, look(2), back), got: api.ErrGone},
			{name: "two looks", of: NewShrink(seg, 2), want: joined(first, look(2), empty, look(2), empty, look(2), back), got: api.ErrGone},
			{name: "all are put aside behind the last look", of: NewShrink(seg, 1), others: []meddling{{5, n, 8}}, want: joined(first, look(2), empty, look(2), back), got: api.ErrGone},
			{name: "is mapped by others behind the last look", of: NewShrink(seg, 0), others: []meddling{{3, s, mapped}}, want: joined(first, look(2), accesses{casNot(s, mapped)}), got: api.ErrBusy},
			{name: "is not mapped behind the last look", of: NewShrink(seg, 1), others: []meddling{{5, s, unmapped}}, want: joined(first, look(2), empty, look(2), accesses{casNot(s, unmapped)}), got: api.ErrBusy},
			{name: "is of no state behind the last look", of: NewShrink(seg, 0), others: []meddling{{3, s, maxWord}}, want: joined(first, look(2), accesses{casNot(s, maxWord)}), got: api.ErrBusy},
			{name: "is not mapped behind line 8", of: NewShrink(seg, 0), others: []meddling{{4, s, unmapped}}, want: joined(first, look(2), back), got: api.ErrGone},
			{name: "is mapped by others, and seeks on", of: NewShrink(seg, 2), others: []meddling{{3, s, mapped}, {6, n, 8}}, want: joined(first, look(2), empty, look(2), empty, look(8), accesses{casNot(s, mapped)}), got: api.ErrBusy},
		} {
			c.at = gone(seg, mapped, 2)
			c.held(t)
		}
		for _, v := range odd() {
			want := joined(first, look(v), empty, look(v), back)
			got := api.ErrGone
			if v == 8 {
				want, got = all, api.OK
			}
			course{name: "a count of other bits", at: gone(seg, mapped, v), of: NewShrink(seg, 1), want: want, got: got}.held(t)
		}
	}
	for _, looks := range []int{7, 100, maxInt} { // with the greatest number there is no end to be seen
		o, m := NewShrink(3, looks), memory(gone(3, mapped, 2)...)
		for range 2 {
			o.Step(m)
		}
		for i := range min(looks, 1000) {
			step(t, "many looks", o, m, 2*i, ld(asideAt(3), 2), false)
			step(t, "many looks", o, m, 2*i+1, ld(freeAt, 0), false)
		}
		if looks < 1000 {
			step(t, "many looks", o, m, 2*looks, ld(asideAt(3), 2), false)
			step(t, "many looks", o, m, 2*looks+1, cas(stateAt(3), drains, mapped), false)
		}
	}
}

// P9.2: lines 5 to 7 of a Shrink, by each way that they take.
func TestShrinkSeeks(t *testing.T) {
	for _, seg := range some() {
		s, n := stateAt(seg), asideAt(seg)
		a, b := 8*seg, 8*seg+7                                   // its own
		x, y := (8*seg+8)%api.MaxSlots, (8*seg+255)%api.MaxSlots // of the segments at both sides of it
		first := accesses{ld(s, mapped), cas(s, mapped, drains)}
		fa, fb := hw(api.StFree, 4), hw(api.StFree, 6)
		// the list: the slots, from the first one on, by a head of tag 3
		at := func(aside uint64, list ...int) []mems.Word {
			l := append(gone(seg, mapped, aside), word(headerAt(a), fa), word(headerAt(b), fb), word(stateAt(x/8), mapped), word(stateAt(y/8), mapped))
			to, tag := freeAt, uint64(3)
			for _, slot := range list {
				l = append(l, word(to, hd(slot, tag)))
				to, tag = linkAt(slot), 0
			}
			return l
		}
		look := func(aside uint64) accesses { return accesses{ld(n, aside)} }
		empty := func(tag uint64) accesses { return accesses{ld(freeAt, tag<<16)} }
		all := accesses{cas(s, drains, unmapped)}
		for _, c := range []course{
			{name: "its own one", at: at(7, a), of: NewShrink(seg, 1), want: joined(first, look(7), popped(hd(a, 3), 0), parked(a, fa, 7), empty(4), look(8), all), got: api.OK},
			{name: "its own last one", at: at(7, b), of: NewShrink(seg, 1), want: joined(first, look(7), popped(hd(b, 3), 0), parked(b, fb, 7), empty(4), look(8), all), got: api.OK},
			{name: "two of its own", at: at(6, b, a), of: NewShrink(seg, 1), want: joined(first, look(6), popped(hd(b, 3), hd(a, 0)), parked(b, fb, 6), popped(hd(a, 4), 0), parked(a, fa, 7), empty(5), look(8), all), got: api.OK},
			{name: "one of another segment", at: at(7, x), of: NewShrink(seg, 1), others: []meddling{{10, n, 8}}, want: joined(first, look(7), popped(hd(x, 3), 0), empty(4), pushed(x, 4<<16, 0), look(8), all), got: api.OK},
			{name: "two of other segments", at: at(7, x, y), of: NewShrink(seg, 1), others: []meddling{{16, n, 8}}, want: joined(first, look(7), popped(hd(x, 3), hd(y, 0)), popped(hd(y, 4), 0), empty(5), pushed(y, 5<<16, 0), pushed(x, hd(y, 6), hd(y, 0)), look(8), all), got: api.OK},
			{name: "of its own, and of others", at: at(6, x, a, y, b), of: NewShrink(seg, 1),
				want: joined(first, look(6), popped(hd(x, 3), hd(a, 0)), popped(hd(a, 4), hd(y, 0)), parked(a, fa, 6), popped(hd(y, 5), hd(b, 0)), popped(hd(b, 6), 0), parked(b, fb, 7), empty(7), pushed(y, 7<<16, hd(b, 0)), pushed(x, hd(y, 8), hd(a, 0)), look(8), all), got: api.OK},
			{name: "in two looks", at: at(6, a, x), of: NewShrink(seg, 2), others: []meddling{{19, linkAt(b), hd(x, 0)}, {19, freeAt, hd(b, 7)}},
				want: joined(first, look(6), popped(hd(a, 3), hd(x, 0)), parked(a, fa, 6), popped(hd(x, 4), 0), empty(5), pushed(x, 5<<16, 0), look(7), popped(hd(b, 7), hd(x, 0)), parked(b, fb, 7), popped(hd(x, 8), 0), empty(9), pushed(x, 9<<16, 0), look(8), all), got: api.OK},
			{name: "pushed by others while it gives back", at: at(7, x), of: NewShrink(seg, 1), others: []meddling{{9, freeAt, hd(y, 5)}, {13, n, 8}}, want: joined(first, look(7), popped(hd(x, 3), 0), empty(4), accesses{ld(freeAt, 4<<16), st(linkAt(x), 0, 0), casNot(freeAt, hd(y, 5))}, pushed(x, hd(y, 5), 0), look(8), all), got: api.OK},
			{name: "popped by others while it pops", at: at(7, x, a), of: NewShrink(seg, 1), others: []meddling{{5, freeAt, hd(a, 4)}}, want: joined(first, look(7), accesses{ld(freeAt, hd(x, 3)), ld(linkAt(x), hd(a, 0)), casNot(freeAt, hd(a, 4))}, popped(hd(a, 4), 0), parked(a, fa, 7), empty(5), look(8), all), got: api.OK},
			{name: "popped by others to the last one", at: at(7, x), of: NewShrink(seg, 1), others: []meddling{{5, freeAt, 4 << 16}, {6, n, 8}}, want: joined(first, look(7), accesses{ld(freeAt, hd(x, 3)), ld(linkAt(x), 0), casNot(freeAt, 4<<16)}, empty(4), look(8), all), got: api.OK},
			{name: "pushed by others behind the last Pop", at: at(7, x), of: NewShrink(seg, 1), others: []meddling{{7, freeAt, hd(a, 9)}, {10, n, 8}}, want: joined(first, look(7), popped(hd(x, 3), 0), empty(4), pushed(x, hd(a, 9), 0), look(8), all), got: api.OK},
			{name: "is not mapped while it parks", at: at(7, a), of: NewShrink(seg, 1), others: []meddling{{10, s, unmapped}}, want: joined(first, look(7), popped(hd(a, 3), 0), parked(a, fa, 7)[:4], accesses{ld(s, unmapped)}, empty(4), look(8), accesses{casNot(s, unmapped)}), got: api.ErrBusy},
			{name: "is mapped by others while it parks", at: at(7, a), of: NewShrink(seg, 1), others: []meddling{{10, s, mapped}, {17, s, drains}},
				want: joined(first, look(7), popped(hd(a, 3), 0), parked(a, fa, 7)[:4], accesses{ld(s, mapped), ld(n, 8), cas(n, 8, 7), ld(s, mapped), cas(headerAt(a), hw(api.StParked, 4), fa)}, pushed(a, 4<<16, 0), popped(hd(a, 5), 0), parked(a, fa, 7), empty(6), look(8), all), got: api.OK},
			{name: "turned back by others while it parks", at: at(7, a), of: NewShrink(seg, 1), others: []meddling{{10, s, mapped}, {14, headerAt(a), hw(api.StLive, 4)}, {17, s, drains}},
				want: joined(first, look(7), popped(hd(a, 3), 0), parked(a, fa, 7)[:4], accesses{ld(s, mapped), ld(n, 8), cas(n, 8, 7), ld(s, mapped), casNot(headerAt(a), hw(api.StLive, 4)), ld(n, 7), cas(n, 7, 8)}, empty(4), look(8), all), got: api.OK},
			{name: "parks, and gives up", at: at(6, a), of: NewShrink(seg, 1),
				want: joined(first, look(6), popped(hd(a, 3), 0), parked(a, fa, 6), empty(4), look(7), accesses{cas(s, drains, mapped)}, freed(a, hw(api.StParked, 4), 7), pushed(a, 4<<16, 0), passed(a+1, b), accesses{ld(headerAt(b), fb)}), got: api.ErrGone},
			{name: "gives back, and gives up", at: at(6, x), of: NewShrink(seg, 1),
				want: joined(first, look(6), popped(hd(x, 3), 0), empty(4), pushed(x, 4<<16, 0), look(6), accesses{cas(s, drains, mapped), ld(headerAt(a), fa)}, passed(a+1, b), accesses{ld(headerAt(b), fb)}), got: api.ErrGone},
			{name: "does not seek, since all are put aside", at: at(8, a, x), of: NewShrink(seg, 3), want: joined(first, look(8), all), got: api.OK},
			{name: "does not seek, since no look is left", at: at(6, x), of: NewShrink(seg, 0), want: joined(first, look(6), accesses{cas(s, drains, mapped), ld(headerAt(a), fa)}, passed(a+1, b), accesses{ld(headerAt(b), fb)}), got: api.ErrGone},
		} {
			c.held(t)
		}
	}
}

// P9.2: as many slots are kept as there may be: of a list that goes round, of all slots of all other segments, and of one less.
func TestShrinkKeeps(t *testing.T) {
	s, n := stateAt(2), asideAt(2)
	first := accesses{ld(s, mapped), cas(s, mapped, drains), ld(n, 7)}
	// one slot, behind itself
	lines, tag := first, uint64(0)
	for range 256 {
		lines, tag = joined(lines, popped(hd(9, tag), hd(9, 5))), tag+1
	}
	head, link := hd(9, tag), hd(9, 5)
	for range 256 {
		lines = joined(lines, pushed(9, head, link))
		head, link = hd(9, head>>16+1), hd(9, 0)
	}
	round := []mems.Word{word(s, mapped), word(n, 7), word(freeAt, hd(9, 0)), word(linkAt(9), hd(9, 5))}
	course{name: "one that goes round", at: round, of: NewShrink(2, 1), others: []meddling{{len(lines), n, 8}}, want: joined(lines, accesses{ld(n, 8), cas(s, drains, unmapped)}), got: api.OK}.held(t)
	// the same, but the list has an end behind the 255th
	lines, tag = first, 0
	for range 254 {
		lines, tag = joined(lines, popped(hd(9, tag), hd(9, 5))), tag+1
	}
	cut := len(lines)
	lines = joined(lines, popped(hd(9, tag), 0), accesses{ld(freeAt, (tag+1)<<16)})
	head, link = (tag+1)<<16, 0
	for range 255 {
		lines = joined(lines, pushed(9, head, link))
		link = hd(slotTold(head), 0)
		head = hd(9, head>>16+1)
	}
	course{name: "one less", at: round, of: NewShrink(2, 1), others: []meddling{{cut, linkAt(9), 0}, {len(lines), n, 8}}, want: joined(lines, accesses{ld(n, 8), cas(s, drains, unmapped)}), got: api.OK}.held(t)
	// all slots that there are, the least one first
	at := []mems.Word{word(s, mapped), word(n, 0), word(freeAt, hd(0, maxTag))}
	for slot := range 255 {
		at = append(at, word(linkAt(slot), hd(slot+1, 0)))
	}
	lines, tag = accesses{ld(s, mapped), cas(s, mapped, drains), ld(n, 0)}, maxTag
	for slot := range 256 {
		link := hd(slot+1, 0)
		if slot == 255 {
			link = 0
		}
		lines, tag = joined(lines, popped(hd(slot, tag), link)), (tag+1)&maxTag
		if slot/8 == 2 {
			lines = joined(lines, parked(slot, 0, uint64(slot-16)))
		}
	}
	lines, head = append(lines, ld(freeAt, tag<<16)), tag<<16
	for slot := 255; slot >= 0; slot-- {
		if slot/8 == 2 {
			continue
		}
		link := hd(slot+1, 0)
		if slot == 255 {
			link = 0
		}
		lines, head = joined(lines, pushed(slot, head, link)), hd(slot, head>>16+1)
	}
	course{name: "all slots", at: at, of: NewShrink(2, 1), want: joined(lines, accesses{ld(n, 8), cas(s, drains, unmapped)}), got: api.OK}.held(t)
}

// P9.2: heads and links of whatever bits, as AsHead reads them.
func TestShrinkHeadBits(t *testing.T) {
	s, n := stateAt(1), asideAt(1)
	first := accesses{ld(s, mapped), cas(s, mapped, drains), ld(n, 7)}
	for _, w := range odd() {
		slot, tag := words.AsHead(w)
		for _, v := range odd() {
			at := []mems.Word{word(s, mapped), word(n, 7), word(freeAt, w), word(linkAt(max(slot, 0)), v)}
			if slot < 0 {
				course{name: "none", at: at, of: NewShrink(1, 1), others: []meddling{{4, n, 8}}, want: joined(first, accesses{ld(freeAt, w), ld(n, 8), cas(s, drains, unmapped)}), got: api.OK}.held(t)
				continue
			}
			to, _ := words.AsHead(v)
			head := words.Head(to, tag+1)
			want := joined(first, accesses{ld(freeAt, w), ld(linkAt(slot), v), cas(freeAt, w, head)})
			others := []meddling{{6, freeAt, head &^ 0xffff}} // the list has an end there
			if slot/8 == 1 {
				want = joined(want, accesses{ld(headerAt(slot), 0), st(headerAt(slot), 0, hw(api.StParked, 0)), ld(n, 7), cas(n, 7, 8), ld(s, drains), ld(freeAt, head&^0xffff)})
			} else {
				want = joined(want, accesses{ld(freeAt, head&^0xffff)}, pushed(slot, head&^0xffff, v))
				others = append(others, meddling{10, n, 8})
			}
			course{name: "a head and a link", at: at, of: NewShrink(1, 1), others: others, want: joined(want, accesses{ld(n, 8), cas(s, drains, unmapped)}), got: api.OK}.held(t)
		}
	}
	for _, w := range odd() { // headers of whatever bits: what counts for a Park is the generation
		h := headerAt(12)
		p := hw(api.StParked, genTold(w))
		course{name: "a header", at: []mems.Word{word(s, mapped), word(n, 7), word(freeAt, hd(12, 3)), word(h, w)}, of: NewShrink(1, 1),
			want: joined(first, popped(hd(12, 3), 0), accesses{ld(h, w), st(h, w, p), ld(n, 7), cas(n, 7, 8), ld(s, drains), ld(freeAt, 4<<16), ld(n, 8), cas(s, drains, unmapped)}), got: api.OK}.held(t)
	}
}

// P9.1, P9.2: of what is no segment they are over, ErrArg, and do nothing.
func TestNoSegment(t *testing.T) {
	for _, seg := range []int{-1, -2, -api.MaxSegs, minInt, minInt + 1, api.MaxSegs, api.MaxSegs + 1, api.MaxSlots - 1, api.MaxSlots, 1 << 16, 1 << 32, 1<<32 + 3, 1 << 61, 1<<61 + 1, maxInt - 1, maxInt} {
		for _, o := range []operation{NewGrow(seg), NewShrink(seg, 0), NewShrink(seg, 3), NewShrink(seg, minInt), NewShrink(seg, maxInt)} {
			for _, m := range []*mems.Mem{mems.New(), memory(gone(0, mapped, 8)...), memory(gone(lastSeg, mapped, 2)...), nil} {
				rests(t, "of no segment", o, m, api.ErrArg)
			}
		}
		if NewGrow(seg) == nil || NewShrink(seg, 3) == nil {
			t.Errorf("of %d: nothing", seg)
		}
	}
	for seg := range api.MaxSegs {
		for _, o := range []operation{NewGrow(seg), NewShrink(seg, 0), NewShrink(seg, minInt), NewShrink(seg, maxInt)} {
			if o.Over() || o.Got() != api.OK {
				t.Errorf("of %d: over is %v, Got %d ahead of all steps", seg, o.Over(), o.Got())
			}
			step(t, "of a segment", o, memory(word(stateAt(seg), maxWord)), 0, ld(stateAt(seg), maxWord), true)
			if o.Got() != api.ErrBusy {
				t.Errorf("of %d: Got is %d", seg, o.Got())
			}
		}
	}
}

// P9.1, P9.2, R3: operations that are not there, or that no call made, are over, and got OK.
func TestNotMade(t *testing.T) {
	var grow Grow
	var shrink Shrink
	for _, o := range []operation{(*Grow)(nil), (*Shrink)(nil), &grow, &shrink, new(Grow), new(Shrink)} {
		for _, m := range []*mems.Mem{mems.New(), memory(gone(0, unmapped, 8)...), memory(gone(0, mapped, 8)...), nil} {
			rests(t, "what no call made", o, m, api.OK)
		}
	}
}

// R3: of a memory that is not there each word is 0, and no CAS does: each call ends, and answers what the lines say of that.
func TestNoMemory(t *testing.T) {
	var zero mems.Mem
	for _, m := range []*mems.Mem{nil, &zero} {
		g := NewGrow(3)
		if g.Step(m) || g.Got() != api.OK || !g.Step(m) {
			t.Error("a Grow goes on otherwise")
		}
		rests(t, "Grow", g, m, api.ErrBusy)
		s := NewShrink(3, 2)
		if !s.Step(m) {
			t.Error("a Shrink goes on")
		}
		rests(t, "Shrink", s, m, api.ErrNone)
	}
	// a memory that goes, and comes again, between: the lines go on
	m := memory(word(asideAt(3), 8), word(headerAt(24), hw(api.StParked, 4)))
	g := NewGrow(3)
	step(t, "Grow", g, m, 0, ld(stateAt(3), unmapped), false)
	step(t, "Grow", g, m, 1, cas(stateAt(3), unmapped, mapped), false)
	step(t, "Grow", g, m, 2, ld(headerAt(24), hw(api.StParked, 4)), false)
	step(t, "Grow", g, m, 3, cas(headerAt(24), hw(api.StParked, 4), hw(api.StFree, 4)), false)
	for range 100 { // C and D: the CAS does not
		if g.Step(nil) || g.Over() || g.Got() != api.OK {
			t.Fatal("over")
		}
	}
	step(t, "Grow", g, m, 4, ld(asideAt(3), 8), false)
	step(t, "Grow", g, m, 5, cas(asideAt(3), 8, 7), false)
	for range 3 * 33 { // E: nor does that of the Push
		if g.Step(nil) || g.Over() || g.Got() != api.OK {
			t.Fatal("over")
		}
	}
	for i, a := range pushed(24, 0, 0) {
		step(t, "Grow", g, m, 6+i, a, false)
	}
	for range 6 { // slots that are 0 are not parked
		if g.Step(nil) {
			t.Fatal("over")
		}
	}
	step(t, "Grow", g, m, 9, ld(headerAt(31), 0), true)
	rests(t, "Grow", g, m, api.OK)
	s := NewShrink(3, 1)
	step(t, "Shrink", s, m, 0, ld(stateAt(3), mapped), false)
	step(t, "Shrink", s, m, 1, cas(stateAt(3), mapped, drains), false)
	for range 2 { // no slots put aside, and none in the list
		if s.Step(nil) {
			t.Fatal("over")
		}
	}
	step(t, "Shrink", s, m, 2, ld(asideAt(3), 7), false)
	if !s.Step(nil) {
		t.Error("not over")
	}
	rests(t, "Shrink", s, m, api.ErrBusy)
}

// P9.1, P9.2: each operation has its own place: steps of one do not take another one on.
func TestApart(t *testing.T) {
	at := slices.Concat(gone(1, mapped, 6), gone(2, mapped, 6), gone(3, unmapped, 8), []mems.Word{
		word(freeAt, hd(8, 0)), word(linkAt(8), hd(99, 0)), word(linkAt(99), hd(16, 0)), word(headerAt(8), 0), word(headerAt(16), 0), word(headerAt(31), hw(api.StParked, 2)),
	})
	m := memory(at...)
	p, q, g := NewShrink(1, 1), NewShrink(2, 2), NewGrow(3)
	for i, c := range []struct {
		of   operation
		want accesses
		over bool
	}{
		{p, accesses{ld(stateAt(1), mapped), cas(stateAt(1), mapped, drains), ld(asideAt(1), 6)}, false},
		{g, accesses{ld(stateAt(3), unmapped)}, false},
		{q, accesses{ld(stateAt(2), mapped), cas(stateAt(2), mapped, drains), ld(asideAt(2), 6), ld(freeAt, hd(8, 0))}, false},
		{p, popped(hd(8, 0), hd(99, 0)), false},
		{q, accesses{ld(linkAt(8), hd(99, 0)), casNot(freeAt, hd(99, 1))}, false},
		{g, joined(accesses{cas(stateAt(3), unmapped, mapped)}, passed(24, 31), accesses{ld(headerAt(31), hw(api.StParked, 2))}), false},
		{q, popped(hd(99, 1), hd(16, 0)), false},
		{p, joined(parked(8, 0, 6), popped(hd(16, 2), 0), accesses{ld(freeAt, 3<<16)}), false},
		{q, accesses{ld(freeAt, 3<<16)}, false},
		{g, accesses{cas(headerAt(31), hw(api.StParked, 2), hw(api.StFree, 2)), ld(asideAt(3), 8)}, false},
		{p, pushed(16, 3<<16, 0), false},
		{q, pushed(99, hd(16, 4), hd(16, 0)), false},
		{p, accesses{ld(asideAt(1), 7), cas(stateAt(1), drains, mapped)}, false},
		{g, accesses{cas(asideAt(3), 8, 7), ld(freeAt, hd(99, 5))}, false},
		{p, freed(8, hw(api.StParked, 0), 7), false},
		{q, joined(accesses{ld(asideAt(2), 6)}, popped(hd(99, 5), hd(16, 0)), popped(hd(16, 6), 0)), false},
		{p, pushed(8, 7<<16, hd(99, 0)), false},
		{q, parked(16, 0, 6), false},
		{g, accesses{st(linkAt(31), 0, hd(99, 0)), casNot(freeAt, hd(8, 8))}, false},
		{p, passed(9, 16), true},
		{g, pushed(31, hd(8, 8), hd(99, 0)), true},
	} {
		for j, a := range c.want {
			step(t, "apart", c.of, m, 100*i+j, a, c.over && j == len(c.want)-1)
		}
	}
	rests(t, "p", p, m, api.ErrGone)
	rests(t, "g", g, m, api.OK)
	if q.Over() || q.Got() != api.OK {
		t.Errorf("q: over is %v, Got %d", q.Over(), q.Got())
	}
}
