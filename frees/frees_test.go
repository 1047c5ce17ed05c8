package frees

import (
	"math"
	"slices"
	"testing"

	"ragpicker/api"
	"ragpicker/mems"
	"ragpicker/words"
)

const (
	minInt  = math.MinInt
	maxInt  = math.MaxInt
	maxWord = uint64(math.MaxUint64)
	maxTag  = uint64(1<<48 - 1)
	none    = -1
	last    = api.MaxSlots - 1
)

var freeAt = api.Addr{Kind: api.WdFree}

// linkAt a slot: where SlLink of it stands, told anew.
func linkAt(slot int) api.Addr { return api.Addr{Kind: api.WdSlot, At: slot, Field: 2} }

// hd: the word of a head, told anew: the slot and 1 in bits 0 to 15, the tag behind them.
func hd(slot int, tag uint64) uint64 { return tag<<16 | uint64(slot+1) }

// slotTold: the slot of a head, told anew.
func slotTold(w uint64) int {
	if n := int(w & 0xffff); n <= 256 {
		return n - 1
	}
	return none
}

// load, store, cas: accesses as a memory tells them.
func load(a api.Addr, v uint64) api.Access {
	return api.Access{Kind: api.AcLoad, Addr: a, Was: v, Is: v}
}

func store(a api.Addr, was, is uint64) api.Access {
	return api.Access{Kind: api.AcStore, Addr: a, Was: was, Is: is}
}

func cas(was, is uint64) api.Access {
	return api.Access{Kind: api.AcCAS, Addr: freeAt, Was: was, Is: is, Done: true}
}

func casNot(v uint64) api.Access {
	return api.Access{Kind: api.AcCAS, Addr: freeAt, Was: v, Is: v}
}

// stepper: what both operations are.
type stepper interface {
	Step(m *mems.Mem) bool
	Over() bool
}

// memory with these words.
func memory(l ...mems.Word) *mems.Mem {
	m := mems.New()
	for _, w := range l {
		m.Store(w.Addr, w.Value)
	}
	return m
}

// list of slots, the first one first, with a tag at its head; links have tags of their own, which do not count.
func list(tag uint64, slots ...int) []mems.Word {
	l := []mems.Word{{Addr: freeAt, Value: tag << 16}}
	at := &l[0].Value
	for i, s := range slots {
		*at |= uint64(s + 1)
		l = append(l, mems.Word{Addr: linkAt(s), Value: uint64(i) * 7 << 16})
		at = &l[len(l)-1].Value
	}
	return l
}

// listed slots of a memory, from the head on; false, if they go round.
func listed(m *mems.Mem) ([]int, bool) {
	by := map[api.Addr]uint64{}
	for _, w := range m.Words() {
		by[w.Addr] = w.Value
	}
	var l []int
	for s := slotTold(by[freeAt]); s >= 0; s = slotTold(by[linkAt(s)]) {
		if len(l) > api.MaxSlots {
			return l, false
		}
		l = append(l, s)
	}
	return l, true
}

// same: are a memory's words these, and no others?
func same(m *mems.Mem, l ...mems.Word) bool { return slices.Equal(m.Words(), memory(l...).Words()) }

// end an operation; false, if it is not over behind so many steps.
func end(o stepper, m *mems.Mem, within int) bool {
	for range within {
		if o.Step(m) {
			return true
		}
	}
	return o.Over()
}

// popped: a Pop on its own, to its end.
func popped(t *testing.T, m *mems.Mem) (int, bool) {
	t.Helper()
	p := NewPop()
	if !end(p, m, 3) {
		t.Fatal("a Pop on its own is not over behind 3 steps")
	}
	return p.Got()
}

// pushed: a Push on its own, to its end.
func pushed(t *testing.T, m *mems.Mem, slot int) {
	t.Helper()
	p := NewPush(slot)
	for i := range 3 {
		if p.Step(m) != (i == 2) {
			t.Fatalf("a Push of %d on its own is over, or not, behind step %d", slot, i+1)
		}
	}
}

// numbers that always are the same ones.
type numbers uint64

// below a limit: the next one.
func (x *numbers) below(n int) int {
	*x ^= *x << 13
	*x ^= *x >> 7
	*x ^= *x << 17
	return int(uint64(*x) >> 33 % uint64(n))
}

// held: each step of an operation that is new against these accesses. Ahead of the end it is not over, and got nothing.
func held(t *testing.T, name string, o stepper, m *mems.Mem, want []api.Access) {
	t.Helper()
	if o.Over() {
		t.Errorf("%s: over ahead of all steps", name)
	}
	for i, a := range want {
		step(t, name, o, m, i, a, i == len(want)-1)
	}
}

// step of an operation, held against the access and whether it is over.
func step(t *testing.T, name string, o stepper, m *mems.Mem, i int, want api.Access, is bool) {
	t.Helper()
	steps := m.Steps()
	if p, ok := o.(*Pop); ok {
		if slot, ok := p.Got(); slot != 0 || ok {
			t.Errorf("%s: ahead of step %d Got is %d, %v", name, i+1, slot, ok)
		}
	}
	if got := o.Step(m); got != is {
		t.Errorf("%s: step %d answers %v", name, i+1, got)
	}
	if o.Over() != is {
		t.Errorf("%s: Over is %v behind step %d", name, o.Over(), i+1)
	}
	if m.Steps() != steps+1 {
		t.Fatalf("%s: step %d makes %d accesses", name, i+1, m.Steps()-steps)
	}
	if got := m.Last(); got != want {
		t.Errorf("%s: step %d is %+v, want %+v", name, i+1, got, want)
	}
}

// rests: an operation that is over takes no step any more, of whatever memory, and says so.
func rests(t *testing.T, name string, o stepper, m *mems.Mem) {
	t.Helper()
	var zero mems.Mem
	other := memory(list(3, 5, 6)...)
	for _, m := range []*mems.Mem{m, other, mems.New(), nil, &zero} {
		was, steps, access := m.Words(), m.Steps(), m.Last()
		for range 4 {
			if !o.Step(m) || !o.Over() {
				t.Errorf("%s: not over any more", name)
			}
		}
		if m.Steps() != steps || m.Last() != access || !slices.Equal(m.Words(), was) {
			t.Errorf("%s: takes steps when it is over", name)
		}
	}
}

// P7.1, P7.2: chapter 7's examples.
func TestExamples(t *testing.T) {
	m := mems.New()
	p := NewPop()
	if !p.Step(m) || m.Steps() != 1 {
		t.Errorf("Pop of WdFree 0 is not over in one step, of %d", m.Steps())
	}
	if slot, ok := p.Got(); slot != 0 || ok {
		t.Errorf("Pop of WdFree 0 got %d, %v", slot, ok)
	}
	pushed(t, m, 7)
	if m.Steps() != 4 {
		t.Errorf("Push(7) takes %d steps", m.Steps()-1)
	}
	p = NewPop()
	for i := range 3 {
		if p.Step(m) != (i == 2) {
			t.Errorf("Pop is over, or not, behind step %d", i+1)
		}
	}
	if slot, ok := p.Got(); slot != 7 || !ok || m.Steps() != 7 {
		t.Errorf("Pop got %d, %v, in %d steps", slot, ok, m.Steps()-4)
	}
}

// P7.1: each line of a Pop on its own.
func TestPopLines(t *testing.T) {
	for _, c := range []struct {
		name string
		at   []mems.Word // at first
		want []api.Access
		slot int
		ok   bool
	}{
		{"nothing", nil, []api.Access{load(freeAt, 0)}, 0, false},
		{"none, with a tag", list(9), []api.Access{load(freeAt, 9<<16)}, 0, false},
		{"none, with the last tag", list(maxTag), []api.Access{load(freeAt, maxTag<<16)}, 0, false},
		{"none, but a link of slot 0", []mems.Word{{Addr: linkAt(0), Value: hd(3, 0)}}, []api.Access{load(freeAt, 0)}, 0, false},
		{"slot 0 alone", list(0, 0), []api.Access{load(freeAt, 1), load(linkAt(0), 0), cas(1, 1<<16)}, 0, true},
		{"slot 0 alone, with a tag", list(4, 0), []api.Access{load(freeAt, hd(0, 4)), load(linkAt(0), 0), cas(hd(0, 4), 5<<16)}, 0, true},
		{"the last slot alone", list(1, last), []api.Access{load(freeAt, hd(last, 1)), load(linkAt(last), 0), cas(hd(last, 1), 2<<16)}, last, true},
		{"two", list(2, 7, 3), []api.Access{load(freeAt, hd(7, 2)), load(linkAt(7), hd(3, 0)), cas(hd(7, 2), hd(3, 3))}, 7, true},
		{"two, down to slot 0", list(2, 7, 0), []api.Access{load(freeAt, hd(7, 2)), load(linkAt(7), hd(0, 0)), cas(hd(7, 2), hd(0, 3))}, 7, true},
		{"many", list(6, 200, 100, 50, last, 1), []api.Access{load(freeAt, hd(200, 6)), load(linkAt(200), hd(100, 0)), cas(hd(200, 6), hd(100, 7))}, 200, true},
		{"a link with a tag", []mems.Word{{Addr: freeAt, Value: hd(5, 2)}, {Addr: linkAt(5), Value: hd(6, 77)}}, []api.Access{load(freeAt, hd(5, 2)), load(linkAt(5), hd(6, 77)), cas(hd(5, 2), hd(6, 3))}, 5, true},
		{"a link of none, with a tag", []mems.Word{{Addr: freeAt, Value: hd(5, 2)}, {Addr: linkAt(5), Value: 77 << 16}}, []api.Access{load(freeAt, hd(5, 2)), load(linkAt(5), 77<<16), cas(hd(5, 2), 3<<16)}, 5, true},
		{"a link to itself", []mems.Word{{Addr: freeAt, Value: hd(5, 2)}, {Addr: linkAt(5), Value: hd(5, 2)}}, []api.Access{load(freeAt, hd(5, 2)), load(linkAt(5), hd(5, 2)), cas(hd(5, 2), hd(5, 3))}, 5, true},
		{"the last tag", list(maxTag, 7, 3), []api.Access{load(freeAt, hd(7, maxTag)), load(linkAt(7), hd(3, 0)), cas(hd(7, maxTag), hd(3, 0))}, 7, true},
		{"the last tag, down to none", list(maxTag, 7), []api.Access{load(freeAt, hd(7, maxTag)), load(linkAt(7), 0), cas(hd(7, maxTag), 0)}, 7, true},
	} {
		m := memory(c.at...)
		p := NewPop()
		held(t, c.name, p, m, c.want)
		for range 2 {
			if slot, ok := p.Got(); slot != c.slot || ok != c.ok {
				t.Errorf("%s: Got is %d, %v, want %d, %v", c.name, slot, ok, c.slot, c.ok)
			}
			rests(t, c.name, p, m)
		}
		behind := append(c.at[:len(c.at):len(c.at)], mems.Word{Addr: freeAt, Value: c.want[len(c.want)-1].Is})
		if !same(m, behind...) {
			t.Errorf("%s: the words are %+v", c.name, m.Words())
		}
	}
}

// P7.2: each line of a Push on its own.
func TestPushLines(t *testing.T) {
	for _, c := range []struct {
		name string
		at   []mems.Word // at first
		slot int
		want []api.Access
	}{
		{"onto nothing", nil, 7, []api.Access{load(freeAt, 0), store(linkAt(7), 0, 0), cas(0, hd(7, 1))}},
		{"slot 0 onto nothing", nil, 0, []api.Access{load(freeAt, 0), store(linkAt(0), 0, 0), cas(0, hd(0, 1))}},
		{"the last slot onto nothing", nil, last, []api.Access{load(freeAt, 0), store(linkAt(last), 0, 0), cas(0, hd(last, 1))}},
		{"onto none, with a tag", list(9), 7, []api.Access{load(freeAt, 9<<16), store(linkAt(7), 0, 0), cas(9<<16, hd(7, 10))}},
		{"onto one", list(2, 3), 7, []api.Access{load(freeAt, hd(3, 2)), store(linkAt(7), 0, hd(3, 0)), cas(hd(3, 2), hd(7, 3))}},
		{"onto slot 0", list(2, 0), 7, []api.Access{load(freeAt, hd(0, 2)), store(linkAt(7), 0, hd(0, 0)), cas(hd(0, 2), hd(7, 3))}},
		{"slot 0 onto the last one", list(2, last), 0, []api.Access{load(freeAt, hd(last, 2)), store(linkAt(0), 0, hd(last, 0)), cas(hd(last, 2), hd(0, 3))}},
		{"the last one onto many", list(5, 200, 100, 50), last, []api.Access{load(freeAt, hd(200, 5)), store(linkAt(last), 0, hd(200, 0)), cas(hd(200, 5), hd(last, 6))}},
		{"over an old link", append(list(5, 3), mems.Word{Addr: linkAt(7), Value: hd(9, 44)}), 7, []api.Access{load(freeAt, hd(3, 5)), store(linkAt(7), hd(9, 44), hd(3, 0)), cas(hd(3, 5), hd(7, 6))}},
		{"over an old link, onto none", append(list(5), mems.Word{Addr: linkAt(7), Value: hd(9, 44)}), 7, []api.Access{load(freeAt, 5<<16), store(linkAt(7), hd(9, 44), 0), cas(5<<16, hd(7, 6))}},
		{"what is first already", list(5, 7), 7, []api.Access{load(freeAt, hd(7, 5)), store(linkAt(7), 0, hd(7, 0)), cas(hd(7, 5), hd(7, 6))}},
		{"the last tag", list(maxTag, 3), 7, []api.Access{load(freeAt, hd(3, maxTag)), store(linkAt(7), 0, hd(3, 0)), cas(hd(3, maxTag), hd(7, 0))}},
		{"the last tag, of none", list(maxTag), 7, []api.Access{load(freeAt, maxTag<<16), store(linkAt(7), 0, 0), cas(maxTag<<16, hd(7, 0))}},
	} {
		m := memory(c.at...)
		p := NewPush(c.slot)
		held(t, c.name, p, m, c.want)
		rests(t, c.name, p, m)
		behind := append(c.at[:len(c.at):len(c.at)], mems.Word{Addr: linkAt(c.slot), Value: c.want[1].Is}, mems.Word{Addr: freeAt, Value: c.want[2].Is})
		if !same(m, behind...) {
			t.Errorf("%s: the words are %+v", c.name, m.Words())
		}
	}
}

// meddling of somebody else ahead of a step.
type meddling struct {
	ahead int // of which step, from 0 on
	word  mems.Word
}

// meddled: an operation's steps, held against these accesses, while somebody else changes words between.
func meddled(t *testing.T, name string, o stepper, m *mems.Mem, others []meddling, want []api.Access) {
	t.Helper()
	for i, a := range want {
		for _, x := range others {
			if x.ahead == i {
				m.Store(x.word.Addr, x.word.Value)
			}
		}
		step(t, name, o, m, i, a, i == len(want)-1)
	}
	rests(t, name, o, m)
}

// P7.1: a Pop whose head, or its tag, was changed between begins at line 1 again; a link counts as it was read.
func TestPopAgain(t *testing.T) {
	free := func(ahead int, w uint64) meddling {
		return meddling{ahead, mems.Word{Addr: freeAt, Value: w}}
	}
	linked := func(ahead, slot int, w uint64) meddling {
		return meddling{ahead, mems.Word{Addr: linkAt(slot), Value: w}}
	}
	a, b, c := hd(7, 2), hd(3, 0), hd(9, 0) // the list is 7, 3, 9
	for _, x := range []struct {
		name   string
		others []meddling
		want   []api.Access
		slot   int
		ok     bool
	}{
		{"another slot, ahead of line 2", []meddling{free(1, hd(3, 3))}, []api.Access{
			load(freeAt, a), load(linkAt(7), b), casNot(hd(3, 3)), load(freeAt, hd(3, 3)), load(linkAt(3), 7<<16|c), cas(hd(3, 3), hd(9, 4))}, 3, true},
		{"another slot, ahead of line 3", []meddling{free(2, hd(3, 3))}, []api.Access{
			load(freeAt, a), load(linkAt(7), b), casNot(hd(3, 3)), load(freeAt, hd(3, 3)), load(linkAt(3), 7<<16|c), cas(hd(3, 3), hd(9, 4))}, 3, true},
		{"another slot, the same tag", []meddling{free(2, hd(3, 2))}, []api.Access{
			load(freeAt, a), load(linkAt(7), b), casNot(hd(3, 2)), load(freeAt, hd(3, 2)), load(linkAt(3), 7<<16|c), cas(hd(3, 2), hd(9, 3))}, 3, true},
		{"the same slot, another tag", []meddling{free(2, hd(7, 3))}, []api.Access{
			load(freeAt, a), load(linkAt(7), b), casNot(hd(7, 3)), load(freeAt, hd(7, 3)), load(linkAt(7), b), cas(hd(7, 3), hd(3, 4))}, 7, true},
		{"the same slot, another one behind it", []meddling{free(2, hd(7, 4)), linked(2, 7, c)}, []api.Access{
			load(freeAt, a), load(linkAt(7), b), casNot(hd(7, 4)), load(freeAt, hd(7, 4)), load(linkAt(7), c), cas(hd(7, 4), hd(9, 5))}, 7, true},
		{"the same slot, none behind it", []meddling{free(2, hd(7, 4)), linked(2, 7, 0)}, []api.Access{
			load(freeAt, a), load(linkAt(7), b), casNot(hd(7, 4)), load(freeAt, hd(7, 4)), load(linkAt(7), 0), cas(hd(7, 4), 5<<16)}, 7, true},
		{"the tag's greatest bit", []meddling{free(2, hd(7, 2|1<<47))}, []api.Access{
			load(freeAt, a), load(linkAt(7), b), casNot(hd(7, 2|1<<47)), load(freeAt, hd(7, 2|1<<47)), load(linkAt(7), b), cas(hd(7, 2|1<<47), hd(3, 3|1<<47))}, 7, true},
		{"none any more", []meddling{free(2, 5<<16)}, []api.Access{
			load(freeAt, a), load(linkAt(7), b), casNot(5 << 16), load(freeAt, 5<<16)}, 0, false},
		{"none any more, the same tag", []meddling{free(1, 2<<16)}, []api.Access{
			load(freeAt, a), load(linkAt(7), b), casNot(2 << 16), load(freeAt, 2<<16)}, 0, false},
		{"none any more, 0", []meddling{free(2, 0)}, []api.Access{
			load(freeAt, a), load(linkAt(7), b), casNot(0), load(freeAt, 0)}, 0, false},
		{"thrice", []meddling{free(2, hd(3, 3)), free(4, hd(9, 4)), free(7, hd(7, 5))}, []api.Access{
			load(freeAt, a), load(linkAt(7), b), casNot(hd(3, 3)),
			load(freeAt, hd(3, 3)), load(linkAt(3), 7<<16|c), casNot(hd(9, 4)),
			load(freeAt, hd(9, 4)), load(linkAt(9), 14<<16), casNot(hd(7, 5)),
			load(freeAt, hd(7, 5)), load(linkAt(7), b), cas(hd(7, 5), hd(3, 6))}, 7, true},
		{"ahead of line 1", []meddling{free(0, hd(3, 8))}, []api.Access{
			load(freeAt, hd(3, 8)), load(linkAt(3), 7<<16|c), cas(hd(3, 8), hd(9, 9))}, 3, true},
		{"the link, ahead of line 2", []meddling{linked(1, 7, hd(9, 1))}, []api.Access{
			load(freeAt, a), load(linkAt(7), hd(9, 1)), cas(a, hd(9, 3))}, 7, true},
		{"the link, ahead of line 3", []meddling{linked(2, 7, hd(9, 1))}, []api.Access{
			load(freeAt, a), load(linkAt(7), b), cas(a, hd(3, 3))}, 7, true},
		{"to another one, and back", []meddling{free(1, hd(3, 3)), free(2, a)}, []api.Access{
			load(freeAt, a), load(linkAt(7), b), cas(a, hd(3, 3))}, 7, true},
	} {
		p := NewPop()
		meddled(t, x.name, p, memory(list(2, 7, 3, 9)...), x.others, x.want)
		if slot, ok := p.Got(); slot != x.slot || ok != x.ok {
			t.Errorf("%s: Got is %d, %v, want %d, %v", x.name, slot, ok, x.slot, x.ok)
		}
	}
}

// P7.2: a Push whose head, or its tag, was changed between begins at line 1 again.
func TestPushAgain(t *testing.T) {
	free := func(ahead int, w uint64) meddling {
		return meddling{ahead, mems.Word{Addr: freeAt, Value: w}}
	}
	a, five := hd(7, 2), linkAt(5) // the list is 7, 3; 5 is pushed
	for _, x := range []struct {
		name   string
		others []meddling
		want   []api.Access
	}{
		{"another slot, ahead of line 2", []meddling{free(1, hd(3, 3))}, []api.Access{
			load(freeAt, a), store(five, 0, hd(7, 0)), casNot(hd(3, 3)), load(freeAt, hd(3, 3)), store(five, hd(7, 0), hd(3, 0)), cas(hd(3, 3), hd(5, 4))}},
		{"another slot, ahead of line 3", []meddling{free(2, hd(3, 3))}, []api.Access{
			load(freeAt, a), store(five, 0, hd(7, 0)), casNot(hd(3, 3)), load(freeAt, hd(3, 3)), store(five, hd(7, 0), hd(3, 0)), cas(hd(3, 3), hd(5, 4))}},
		{"another slot, the same tag", []meddling{free(2, hd(3, 2))}, []api.Access{
			load(freeAt, a), store(five, 0, hd(7, 0)), casNot(hd(3, 2)), load(freeAt, hd(3, 2)), store(five, hd(7, 0), hd(3, 0)), cas(hd(3, 2), hd(5, 3))}},
		{"the same slot, another tag", []meddling{free(2, hd(7, 3))}, []api.Access{
			load(freeAt, a), store(five, 0, hd(7, 0)), casNot(hd(7, 3)), load(freeAt, hd(7, 3)), store(five, hd(7, 0), hd(7, 0)), cas(hd(7, 3), hd(5, 4))}},
		{"the tag's greatest bit", []meddling{free(2, hd(7, 2|1<<47))}, []api.Access{
			load(freeAt, a), store(five, 0, hd(7, 0)), casNot(hd(7, 2|1<<47)), load(freeAt, hd(7, 2|1<<47)), store(five, hd(7, 0), hd(7, 0)), cas(hd(7, 2|1<<47), hd(5, 3|1<<47))}},
		{"none any more", []meddling{free(2, 3<<16)}, []api.Access{
			load(freeAt, a), store(five, 0, hd(7, 0)), casNot(3 << 16), load(freeAt, 3<<16), store(five, hd(7, 0), 0), cas(3<<16, hd(5, 4))}},
		{"0", []meddling{free(1, 0)}, []api.Access{
			load(freeAt, a), store(five, 0, hd(7, 0)), casNot(0), load(freeAt, 0), store(five, hd(7, 0), 0), cas(0, hd(5, 1))}},
		{"thrice", []meddling{free(2, hd(3, 3)), free(4, 4<<16), free(8, a)}, []api.Access{
			load(freeAt, a), store(five, 0, hd(7, 0)), casNot(hd(3, 3)),
			load(freeAt, hd(3, 3)), store(five, hd(7, 0), hd(3, 0)), casNot(4 << 16),
			load(freeAt, 4<<16), store(five, hd(3, 0), 0), casNot(a),
			load(freeAt, a), store(five, 0, hd(7, 0)), cas(a, hd(5, 3))}},
		{"ahead of line 1", []meddling{free(0, hd(3, 8))}, []api.Access{
			load(freeAt, hd(3, 8)), store(five, 0, hd(3, 0)), cas(hd(3, 8), hd(5, 9))}},
		{"the link, ahead of line 2", []meddling{{1, mems.Word{Addr: five, Value: hd(9, 9)}}}, []api.Access{
			load(freeAt, a), store(five, hd(9, 9), hd(7, 0)), cas(a, hd(5, 3))}},
		{"the link, ahead of line 3", []meddling{{2, mems.Word{Addr: five, Value: hd(9, 9)}}}, []api.Access{
			load(freeAt, a), store(five, 0, hd(7, 0)), cas(a, hd(5, 3))}},
		{"to another one, and back", []meddling{free(1, hd(3, 3)), free(2, a)}, []api.Access{
			load(freeAt, a), store(five, 0, hd(7, 0)), cas(a, hd(5, 3))}},
	} {
		meddled(t, x.name, NewPush(5), memory(list(2, 7, 3)...), x.others, x.want)
	}
}

// P7.1: Got of a list of one and of many, till none is left, in the order of the list; with none it is 0, false.
func TestPopAll(t *testing.T) {
	for _, l := range [][]int{nil, {0}, {last}, {5}, {0, 1}, {1, 0}, {9, 4, last, 0, 77}} {
		m := memory(list(1, l...)...)
		for i, want := range l {
			if slot, ok := popped(t, m); slot != want || !ok {
				t.Errorf("of %v the Pop %d got %d, %v", l, i, slot, ok)
			}
		}
		for range 2 {
			if slot, ok := popped(t, m); slot != 0 || ok {
				t.Errorf("of %v, all of it popped, a Pop got %d, %v", l, slot, ok)
			}
		}
	}
}

// P7.1, P7.2: all slots are pushed, and popped, the last one first.
func TestAllSlots(t *testing.T) {
	m := mems.New()
	for slot := range api.MaxSlots {
		pushed(t, m, slot)
		if l, ok := listed(m); !ok || len(l) != slot+1 || l[0] != slot {
			t.Fatalf("behind the Push of %d the list is %v", slot, l)
		}
	}
	for slot := last; slot >= 0; slot-- {
		if got, ok := popped(t, m); got != slot || !ok {
			t.Fatalf("popped %d, %v, want %d", got, ok, slot)
		}
	}
	if l, _ := listed(m); len(l) != 0 {
		t.Errorf("the list is %v when all are popped", l)
	}
}

// P7.2: of what is no slot a Push is over, and does nothing.
func TestPushNoSlot(t *testing.T) {
	for _, slot := range []int{-1, -2, -api.MaxSlots, minInt, minInt + 1, api.MaxSlots, api.MaxSlots + 1, 1 << 16, 1<<16 + 3, 1 << 32, 1<<32 + 3, 65535, maxInt - 1, maxInt} {
		p := NewPush(slot)
		if p == nil {
			t.Fatalf("NewPush(%d) is nothing", slot)
		}
		if !p.Over() {
			t.Errorf("Push of %d is not over", slot)
		}
		for _, m := range []*mems.Mem{mems.New(), memory(list(3, 0, last)...)} {
			rests(t, "Push of no slot", p, m)
		}
	}
	for _, slot := range []int{0, 1, 128, last - 1, last} {
		if NewPush(slot).Over() {
			t.Errorf("Push of %d is over ahead of all steps", slot)
		}
		m := mems.New()
		pushed(t, m, slot)
		if got, ok := popped(t, m); got != slot || !ok {
			t.Errorf("behind the Push of %d a Pop got %d, %v", slot, got, ok)
		}
	}
}

// odd words: heads of whatever bits; 256 is the last number of a slot, 257 none's.
func odd() []uint64 {
	l := []uint64{0, 1, 2, 255, 256, 257, 258, 511, 512, 513, 1 << 15, 1<<15 + 1, 65534, 65535}
	for _, tag := range []uint64{1, 2, 1 << 31, 1 << 47, maxTag - 1, maxTag} {
		for _, w := range l[:14] {
			l = append(l, w|tag<<16)
		}
	}
	return append(l, maxWord, maxWord-1, 1<<63, 1<<63+1)
}

// P7.1: a Pop of whatever bits, as AsHead reads them.
func TestPopBits(t *testing.T) {
	for _, w := range odd() {
		slot, tag := words.AsHead(w)
		for _, behind := range odd() {
			if slot < 0 {
				m := memory(mems.Word{Addr: freeAt, Value: w}, mems.Word{Addr: linkAt(0), Value: behind})
				p := NewPop()
				held(t, "of no slot", p, m, []api.Access{load(freeAt, w)})
				if got, ok := p.Got(); got != 0 || ok {
					t.Errorf("of the word %#x Got is %d, %v", w, got, ok)
				}
				continue
			}
			m := memory(mems.Word{Addr: freeAt, Value: w}, mems.Word{Addr: linkAt(slot), Value: behind})
			to, _ := words.AsHead(behind)
			p := NewPop()
			held(t, "of a slot", p, m, []api.Access{load(freeAt, w), load(linkAt(slot), behind), cas(w, words.Head(to, tag+1))})
			if got, ok := p.Got(); got != slot || !ok || slotTold(w) != slot {
				t.Errorf("of the word %#x Got is %d, %v, want %d", w, got, ok, slot)
			}
		}
	}
}

// P7.2: a Push onto whatever bits, as AsHead reads them: the CAS is from the word itself.
func TestPushBits(t *testing.T) {
	for _, w := range odd() {
		under, tag := words.AsHead(w)
		for _, old := range odd() {
			for _, slot := range []int{0, 100, last} {
				m := memory(mems.Word{Addr: freeAt, Value: w}, mems.Word{Addr: linkAt(slot), Value: old})
				held(t, "of bits", NewPush(slot), m, []api.Access{load(freeAt, w), store(linkAt(slot), old, words.Head(under, 0)), cas(w, words.Head(slot, tag+1))})
				if l, _ := listed(m); len(l) == 0 || l[0] != slot {
					t.Errorf("behind a Push of %d onto the word %#x the list is %v", slot, w, l)
				}
			}
		}
	}
}

// P7.1, P7.2: each change makes the tag one more, and the last one is followed by 0; what changes nothing leaves it.
func TestTags(t *testing.T) {
	for _, from := range []uint64{0, 1, 254, 65534, 1<<31 - 1, 1<<32 - 1, 1<<47 - 1, maxTag - 9, maxTag - 1, maxTag} {
		m := memory(list(from)...)
		tag := from
		hold := func(what string, by uint64) {
			tag = (tag + by) & maxTag
			if w := m.Load(freeAt); w>>16 != tag {
				t.Errorf("from %d on, behind a %s, the tag is %d, want %d", from, what, w>>16, tag)
			}
		}
		for i := range 12 {
			pushed(t, m, i)
			hold("Push", 1)
			pushed(t, m, i+100)
			hold("Push", 1)
			popped(t, m)
			hold("Pop", 1)
		}
		for range 12 {
			popped(t, m)
			hold("Pop", 1)
		}
		popped(t, m)
		hold("Pop of none", 0)
		NewPush(api.MaxSlots).Step(m)
		hold("Push of no slot", 0)
	}
}

// P7.3: a Pop that read an old head, while its slot was taken and put back, does not take what is in use behind it.
func TestPopOldHead(t *testing.T) {
	for _, tag := range []uint64{0, 1, 8, maxTag - 3, maxTag - 2, maxTag - 1, maxTag} {
		for read := 1; read <= 2; read++ {
			m := memory(list(tag, 7, 3, 9)...)
			old := NewPop()
			for range read {
				old.Step(m)
			}
			if slot, ok := popped(t, m); slot != 7 || !ok {
				t.Fatalf("popped %d, %v", slot, ok)
			}
			if slot, ok := popped(t, m); slot != 3 || !ok { // 3 is in use from here on
				t.Fatalf("popped %d, %v", slot, ok)
			}
			pushed(t, m, 7)
			before, within := m.Steps(), 3-read+3 // line 3 at last, for nothing, and all lines again
			is := end(old, m, within)
			if slot, ok := old.Got(); !is || slot != 7 || !ok || m.Steps()-before != within {
				t.Errorf("tag %d, behind line %d: Got is %d, %v, behind %d steps more", tag, read, slot, ok, m.Steps()-before)
			}
			if l, ok := listed(m); !ok || !slices.Equal(l, []int{9}) {
				t.Errorf("tag %d, behind line %d: the list is %v", tag, read, l)
			}
		}
	}
}

// P7.3: a Push that read an old head, while it was taken and put back, keeps what is behind it.
func TestPushOldHead(t *testing.T) {
	for _, tag := range []uint64{0, 1, 8, maxTag - 3, maxTag - 2, maxTag - 1, maxTag} {
		for read := 1; read <= 2; read++ {
			m := memory(list(tag, 7, 3)...)
			old := NewPush(5)
			for range read {
				old.Step(m)
			}
			popped(t, m)
			popped(t, m)
			pushed(t, m, 7)
			if !end(old, m, 5) {
				t.Errorf("tag %d, behind line %d: not over", tag, read)
			}
			if l, ok := listed(m); !ok || !slices.Equal(l, []int{5, 7}) {
				t.Errorf("tag %d, behind line %d: the list is %v", tag, read, l)
			}
		}
	}
}

// R3: operations that are not there, or that no call made, are over, and got nothing.
func TestNotMade(t *testing.T) {
	var pop Pop
	var push Push
	for _, p := range []*Pop{nil, &pop, new(Pop), {}} {
		for _, m := range []*mems.Mem{mems.New(), memory(list(3, 0, 7)...), nil} {
			if !p.Over() {
				t.Error("a Pop that no call made is not over")
			}
			rests(t, "a Pop that no call made", p, m)
			if slot, ok := p.Got(); slot != 0 || ok {
				t.Errorf("a Pop that no call made got %d, %v", slot, ok)
			}
		}
	}
	for _, p := range []*Push{nil, &push, new(Push), {}} {
		for _, m := range []*mems.Mem{mems.New(), memory(list(3, 0, 7)...), nil} {
			if !p.Over() {
				t.Error("a Push that no call made is not over")
			}
			rests(t, "a Push that no call made", p, m)
		}
	}
}

// R3: of a memory that is not there each word is 0, and no CAS does; each call ends.
func TestNoMemory(t *testing.T) {
	var zero mems.Mem
	for _, m := range []*mems.Mem{nil, &zero} {
		p := NewPop()
		if !p.Step(m) || !p.Over() {
			t.Error("a Pop is not over")
		}
		if slot, ok := p.Got(); slot != 0 || ok {
			t.Errorf("a Pop got %d, %v", slot, ok)
		}
		u := NewPush(7)
		for i := range 30 {
			if u.Step(m) || u.Over() {
				t.Fatalf("a Push is over behind step %d", i+1)
			}
		}
		if m.Steps() != 0 || m.Words() != nil {
			t.Errorf("%d steps, words %+v", m.Steps(), m.Words())
		}
		is := memory(list(2, 3)...) // behind 30 steps it is at line 1 again
		held(t, "a Push that had no memory", u, is, []api.Access{load(freeAt, hd(3, 2)), store(linkAt(7), 0, hd(3, 0)), cas(hd(3, 2), hd(7, 3))})
	}
}

// R3: a memory that is not there between: a Pop at line 2 reads none, at line 3 it begins anew.
func TestNoMemoryBetween(t *testing.T) {
	m := memory(list(2, 7, 3)...)
	p := NewPop()
	p.Step(m)
	if p.Step(nil) || p.Step(nil) {
		t.Error("a Pop is over without a memory")
	}
	held(t, "a Pop that has its memory again", p, m, []api.Access{load(freeAt, hd(7, 2)), load(linkAt(7), hd(3, 0)), cas(hd(7, 2), hd(3, 3))})

	m = memory(list(2, 7, 3)...)
	p = NewPop()
	p.Step(m)
	p.Step(nil)
	step(t, "a Pop that read none behind", p, m, 2, cas(hd(7, 2), 3<<16), true)
}

// Each operation has its own place: steps of one do not take another one on.
func TestApart(t *testing.T) {
	m := memory(list(2, 7, 3)...)
	a, b := NewPop(), NewPop()
	c, d := NewPush(5), NewPush(6)
	for _, o := range []stepper{a, a, b, c, c, d} {
		if o.Step(m) {
			t.Error("over ahead of its end")
		}
	}
	step(t, "a", a, m, 2, cas(hd(7, 2), hd(3, 3)), true)
	step(t, "b", b, m, 1, load(linkAt(7), hd(3, 0)), false)
	step(t, "c", c, m, 2, casNot(hd(3, 3)), false)
	step(t, "d", d, m, 1, store(linkAt(6), 0, hd(7, 0)), false)
	step(t, "b", b, m, 2, casNot(hd(3, 3)), false)
	step(t, "c", c, m, 3, load(freeAt, hd(3, 3)), false)
	step(t, "d", d, m, 2, casNot(hd(3, 3)), false)
	if slot, ok := a.Got(); slot != 7 || !ok {
		t.Errorf("a got %d, %v", slot, ok)
	}
	if slot, ok := b.Got(); slot != 0 || ok {
		t.Errorf("b got %d, %v", slot, ok)
	}
}

// told: an operation, told anew, line by line, on words of its own.
type told struct {
	push bool
	slot int // Push: of it; Pop: what it got, -1: none
	at   int // the line; 0: over
	h, n uint64
}

// step of it: the access.
func (o *told) step(by map[api.Addr]uint64) api.Access {
	h := slotTold(o.h)
	switch {
	case o.at == 1:
		o.h = by[freeAt]
		o.at = 2
		if !o.push && slotTold(o.h) < 0 {
			o.at, o.slot = 0, none
		}
		return load(freeAt, o.h)
	case o.at == 2 && o.push:
		was := by[linkAt(o.slot)]
		by[linkAt(o.slot)] = uint64(h + 1)
		o.at = 3
		return store(linkAt(o.slot), was, uint64(h+1))
	case o.at == 2:
		o.n = by[linkAt(h)]
		o.at = 3
		return load(linkAt(h), o.n)
	}
	to := o.slot
	if !o.push {
		to = slotTold(o.n)
	}
	was := by[freeAt]
	if was != o.h {
		o.at = 1
		return casNot(was)
	}
	if !o.push {
		o.slot = h
	}
	o.at = 0
	by[freeAt] = hd(to, o.h>>16+1)
	return cas(was, by[freeAt])
}

// P7.1, P7.2: in many orders of steps, of whatever words, which others change between: each step is that of the lines.
func TestLinesAnyOrder(t *testing.T) {
	x := numbers(88172645463325252)
	again := 0
	for round := range 300 {
		by := map[api.Addr]uint64{}
		m := mems.New()
		put := func(a api.Addr, v uint64) {
			by[a] = v
			m.Store(a, v)
		}
		word := func() uint64 {
			return uint64([]int{0, 1, 2, 3, 4, 256, 257, 65535}[x.below(8)]) | []uint64{0, 1, 2, maxTag}[x.below(4)]<<16
		}
		put(freeAt, word())
		for _, slot := range []int{0, 1, 2, 3, last} {
			put(linkAt(slot), word())
		}
		ops, tolds := make([]stepper, 5), make([]told, 5)
		for i := range 400 {
			n := x.below(len(ops))
			switch {
			case ops[n] == nil || tolds[n].at == 0:
				slot := []int{0, 1, 2, 3, last}[x.below(5)]
				if tolds[n] = (told{push: x.below(2) == 0, slot: slot, at: 1}); tolds[n].push {
					ops[n] = NewPush(slot)
				} else {
					ops[n] = NewPop()
				}
			case x.below(9) == 0:
				put(freeAt, word())
			case x.below(9) == 0:
				put(linkAt(x.below(4)), word())
			}
			was := tolds[n].at
			want := tolds[n].step(by)
			step(t, "any order", ops[n], m, i, want, tolds[n].at == 0)
			if was == 3 && tolds[n].at == 1 {
				again++
			}
			if p, ok := ops[n].(*Pop); ok && p.Over() {
				slot, got := p.Got()
				if got != (tolds[n].slot >= 0) || slot != max(tolds[n].slot, 0) {
					t.Fatalf("round %d: Got is %d, %v, want %d", round, slot, got, tolds[n].slot)
				}
			}
		}
		for a, v := range by {
			if got := m.Load(a); got != v {
				t.Fatalf("round %d: the word %+v is %#x, want %#x", round, a, got, v)
			}
		}
		delete(by, freeAt)
		for _, w := range m.Words() {
			if _, ok := by[w.Addr]; !ok && w.Addr != freeAt {
				t.Fatalf("round %d: the word %+v is %#x", round, w.Addr, w.Value)
			}
		}
		if t.Failed() {
			t.Fatalf("in round %d", round)
		}
	}
	if again < 1000 {
		t.Errorf("begun anew %d times alone", again)
	}
}

// thread: somebody who pops, and pushes what they popped, one operation behind the other.
type thread struct {
	pop  *Pop
	push *Push
	has  []int // what it got, and did not push yet
}

// idle: has it nothing under way?
func (d *thread) idle() bool { return d.pop == nil && d.push == nil }

// under: what it has under way.
func (d *thread) under() stepper {
	if d.pop != nil {
		return d.pop
	}
	return d.push
}

// begin a Pop, or a Push of one of those that it has.
func (d *thread) begin(pop bool, which int) {
	if pop || len(d.has) == 0 {
		d.pop = NewPop()
		return
	}
	d.push = NewPush(d.has[which%len(d.has)])
	d.has = slices.Delete(d.has, which%len(d.has), which%len(d.has)+1)
}

// step of what it has under way; a slot that is popped is its own from then on.
func (d *thread) step(m *mems.Mem) {
	if !d.under().Step(m) {
		return
	}
	if d.pop != nil {
		if slot, ok := d.pop.Got(); ok {
			d.has = append(d.has, slot)
		}
	}
	d.pop, d.push = nil, nil
}

// copied: what it has, and has under way, apart from it.
func (d *thread) copied() *thread {
	c := &thread{has: slices.Clone(d.has)}
	if d.pop != nil {
		p := *d.pop
		c.pop = &p
	}
	if d.push != nil {
		p := *d.push
		c.push = &p
	}
	return c
}

// once: is each of these slots got by one, just once; and, if none is under way, in the list or got, just once?
func once(t *testing.T, m *mems.Mem, l []*thread, slots []int) {
	t.Helper()
	idle := true
	var all []int
	for _, d := range l {
		all = append(all, d.has...)
		idle = idle && d.idle()
	}
	slices.Sort(all)
	if len(slices.Compact(slices.Clone(all))) != len(all) {
		t.Fatalf("the slots %v are got", all)
	}
	if !idle {
		return
	}
	in, ok := listed(m)
	all = append(all, in...)
	slices.Sort(all)
	if !ok || !slices.Equal(all, slots) {
		t.Fatalf("in the list, or got, are %v, want %v", all, slots)
	}
}

// alone: how many steps a thread takes till what it has under way is over, with nobody else.
func alone(t *testing.T, m *mems.Mem, d *thread) int {
	t.Helper()
	on, c := memory(m.Words()...), d.copied()
	for steps := 1; steps <= 5; steps++ {
		if c.under().Step(on) {
			return steps
		}
	}
	t.Fatal("not over behind 5 steps alone")
	return 0
}

// P7.3: many threads, in many orders of steps, each begun at many places.
func TestManyThreads(t *testing.T) {
	x := numbers(1234567890123456789)
	longest := 0
	for _, c := range []struct{ threads, slots, rounds, steps int }{
		{1, 1, 20, 100}, {2, 1, 200, 200}, {2, 2, 200, 200}, {3, 2, 200, 300}, {3, 3, 200, 300}, {4, 5, 100, 400}, {8, 4, 50, 800}, {16, 16, 20, 2000}, {5, 256, 4, 4000}, {16, 256, 4, 8000},
	} {
		for range c.rounds {
			m := mems.New()
			m.Store(freeAt, []uint64{0, 5, maxTag - 20, maxTag}[x.below(4)]<<16)
			var slots []int
			for i := range c.slots {
				slot := i
				if c.slots < 200 {
					slot = last - i*13
				}
				pushed(t, m, slot)
				slots = append(slots, slot)
			}
			slices.Sort(slots)
			l := make([]*thread, c.threads)
			for i := range l {
				l[i] = &thread{}
			}
			for i := range c.steps {
				d := l[x.below(len(l))]
				for range 1 + x.below(1+x.below(6)) { // some orders let one go on for a while
					if d.idle() {
						d.begin(x.below(5) < 3, x.below(9))
					}
					if i%3 == 0 && c.slots < 200 {
						longest = max(longest, alone(t, m, d))
					}
					d.step(m)
					once(t, m, l, slots)
				}
			}
			for _, d := range l { // one behind the other, each alone, till none is under way
				for range 5 {
					if !d.idle() {
						d.step(m)
					}
				}
				if !d.idle() {
					t.Fatal("not over behind 5 steps alone")
				}
			}
			once(t, m, l, slots)
		}
	}
	if longest != 5 {
		t.Errorf("alone they took %d steps at most, want 5", longest)
	}
}

// P7.3: each order that there is of the steps of a few threads, each of which has a few operations to do.
func TestEachOrder(t *testing.T) {
	for _, c := range []struct {
		name  string
		slots []int    // in the list at first, the first one first
		does  []string // by a thread: p pops, u pushes what was popped last, if something was
	}{
		{"one slot, two threads", []int{7}, []string{"pupu", "pupu"}},
		{"two slots, two threads", []int{7, 3}, []string{"ppuu", "pupu"}},
		{"three slots, two threads", []int{7, 3, 9}, []string{"ppuup", "ppu"}},
		{"no slot, two threads", nil, []string{"pp", "pu"}},
		{"one slot, three threads", []int{0}, []string{"pu", "pu", "pu"}},
		{"two slots, three threads", []int{last, 0}, []string{"pu", "ppu", "p"}},
		{"three slots, three threads", []int{7, 3, 9}, []string{"p", "ppu", "pu"}},
	} {
		o := orders{t: t, slots: slices.Sorted(slices.Values(c.slots)), does: c.does, seen: map[moment]bool{}}
		m := memory(list(0, c.slots...)...)
		var l []*thread
		for range c.does {
			l = append(l, &thread{})
		}
		o.from(m, l, make([]int, len(l)))
		if o.longest > 5 || o.ends == 0 {
			t.Errorf("%s: %d steps alone, %d ends", c.name, o.longest, o.ends)
		}
		t.Logf("%s: %d moments, %d ends, %d steps alone", c.name, len(o.seen), o.ends, o.longest)
	}
}

// orders of steps, gone through from moment to moment.
type orders struct {
	t             *testing.T
	slots         []int
	does          []string
	seen          map[moment]bool
	longest, ends int
}

// moment: all words, and what each thread is at; from two that are alike the same things follow.
type moment struct {
	words   string
	threads [3]struct {
		pop  Pop
		push Push
		has  string
		done int
	}
}

// at: the moment.
func (o *orders) at(m *mems.Mem, l []*thread, done []int) moment {
	var k moment
	var b []byte
	for _, w := range m.Words() {
		b = append(b, byte(w.Addr.Kind), byte(w.Addr.At), byte(w.Value), byte(w.Value>>8), byte(w.Value>>16), byte(w.Value>>24))
	}
	k.words = string(b)
	for i, d := range l {
		of := &k.threads[i]
		if of.done = done[i]; d.pop != nil {
			of.pop = *d.pop
		}
		if d.push != nil {
			of.push = *d.push
		}
		for _, slot := range d.has {
			of.has += string(rune(slot))
		}
	}
	return k
}

// from a moment on: each thread that has something to do goes next once.
func (o *orders) from(m *mems.Mem, l []*thread, done []int) {
	k := o.at(m, l, done)
	if o.seen[k] {
		return
	}
	o.seen[k] = true
	once(o.t, m, l, o.slots)
	end := true
	for i, d := range l {
		if d.idle() && done[i] == len(o.does[i]) {
			continue
		}
		end = false
		on, next, after := memory(m.Words()...), slices.Clone(l), slices.Clone(done)
		next[i] = d.copied()
		if d.idle() {
			push := o.does[i][done[i]] == 'u'
			after[i]++
			if push && len(d.has) == 0 { // nothing was popped
				o.from(on, next, after)
				continue
			}
			next[i].begin(!push, len(d.has)-1)
		}
		o.longest = max(o.longest, alone(o.t, on, next[i]))
		next[i].step(on)
		o.from(on, next, after)
	}
	if end {
		o.ends++
	}
}
