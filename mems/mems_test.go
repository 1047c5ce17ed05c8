package mems

import (
	"math"
	"slices"
	"testing"

	"ragpicker/api"
)

const (
	minInt = math.MinInt
	maxInt = math.MaxInt
	most   = uint64(math.MaxUint64)
)

// kinds: chapter 2's table of addresses, written out anew, so that the program's own is held against something.
var kinds = []struct {
	kind           api.Kind
	places, fields int
}{
	{api.WdFree, 1, 1},
	{api.WdEpoch, 1, 1},
	{api.WdEra, 1, 1},
	{api.WdPhase, 1, 1},
	{api.WdOrphan, 1, 1},
	{api.WdBlocks, 1, 1},
	{api.WdSeg, 32, 2},
	{api.WdBlock, 4, 1},
	{api.WdThread, 16, 10},
	{api.WdSlot, 256, 8},
	{api.WdList, 9, 1},
	{api.WdQueue, 1, 2},
}

// every address that may be, in the order of Kind, At, Field.
func every() []api.Addr {
	var l []api.Addr
	for _, k := range kinds {
		for at := range k.places {
			for field := range k.fields {
				l = append(l, api.Addr{Kind: k.kind, At: at, Field: field})
			}
		}
	}
	return l
}

// wrong addresses: beyond each edge of the table, one more and one less, and such as would go round to right ones.
func wrong() []api.Addr {
	var l []api.Addr
	for _, k := range kinds {
		for _, at := range []int{minInt, -1, k.places, k.places + 1, 1 << 8, 1 << 16, 1 << 32, maxInt} {
			for _, field := range []int{0, k.fields - 1} {
				l = append(l, api.Addr{Kind: k.kind, At: at, Field: field})
			}
		}
		for _, field := range []int{minInt, -1, k.fields, k.fields + 1, 1 << 8, 1 << 16, 1 << 32, maxInt} {
			for _, at := range []int{0, k.places - 1} {
				l = append(l, api.Addr{Kind: k.kind, At: at, Field: field})
			}
		}
		l = append(l, api.Addr{Kind: k.kind, At: -1, Field: -1}, api.Addr{Kind: k.kind, At: k.places, Field: k.fields})
	}
	for _, kind := range []api.Kind{12, 13, 16, 128, 255} {
		for _, at := range []int{-1, 0, 1} {
			l = append(l, api.Addr{Kind: kind, At: at}, api.Addr{Kind: kind, At: at, Field: 1})
		}
	}
	return l
}

// full memory: each word that may be has a value of its own.
func full() (*Mem, []Word) {
	m := New()
	var l []Word
	for i, a := range every() {
		w := Word{Addr: a, Value: uint64(i) + 1}
		m.Store(a, w.Value)
		l = append(l, w)
	}
	return m, l
}

// absent memories: none, and such as no call made.
func absent() map[string]*Mem {
	var zero Mem
	return map[string]*Mem{"none": nil, "var": &zero, "new": new(Mem), "literal": {}}
}

var era, seg, slot = api.Addr{Kind: api.WdEra}, api.Addr{Kind: api.WdSeg, At: 31, Field: 1}, api.Addr{Kind: api.WdSlot, At: 255, Field: 7}

// P2.1: the edges of each kind.
func TestMayEdges(t *testing.T) {
	for _, k := range kinds {
		for _, at := range []int{0, k.places - 1} {
			for _, field := range []int{0, k.fields - 1} {
				if a := (api.Addr{Kind: k.kind, At: at, Field: field}); !May(a) {
					t.Errorf("May(%+v) is false", a)
				}
			}
		}
	}
	for _, a := range wrong() {
		if May(a) {
			t.Errorf("May(%+v) is true", a)
		}
	}
}

// P2.1: all addresses of whatever kind round about those that may be, and no others, may be.
func TestMayAll(t *testing.T) {
	var got []api.Addr
	for kind := range 256 {
		for at := -3; at < 300; at++ {
			for field := -3; field < 20; field++ {
				if a := (api.Addr{Kind: api.Kind(kind), At: at, Field: field}); May(a) {
					got = append(got, a)
				}
			}
		}
	}
	if want := every(); !slices.Equal(got, want) {
		t.Errorf("%d addresses may be, want %d", len(got), len(want))
	}
}

// P2.1: what chapter 2 and DOC.md say by names.
func TestMayNamed(t *testing.T) {
	for _, c := range []struct {
		a    api.Addr
		want bool
	}{
		{api.Addr{Kind: api.WdSeg, At: api.MaxSegs - 1, Field: api.SgParked}, true},
		{api.Addr{Kind: api.WdSeg, At: api.MaxSegs, Field: api.SgParked}, false},
		{api.Addr{Kind: api.WdBlock, At: api.MaxBlocks - 1}, true},
		{api.Addr{Kind: api.WdBlock, At: api.MaxBlocks}, false},
		{api.Addr{Kind: api.WdThread, At: api.MaxThreads - 1, Field: api.ThHaz + api.Hazards - 1}, true},
		{api.Addr{Kind: api.WdThread, At: api.MaxThreads - 1, Field: api.ThHaz + api.Hazards}, false},
		{api.Addr{Kind: api.WdThread, At: api.MaxThreads, Field: api.ThHaz}, false},
		{api.Addr{Kind: api.WdSlot, At: api.MaxSlots - 1, Field: api.SlNext}, true},
		{api.Addr{Kind: api.WdSlot, At: api.MaxSlots, Field: api.SlNext}, false},
		{api.Addr{Kind: api.WdList, At: api.MaxBuckets}, true},
		{api.Addr{Kind: api.WdList, At: api.MaxBuckets + 1}, false},
		{api.Addr{Kind: api.WdQueue, Field: api.QuTail}, true},
		{api.Addr{Kind: api.WdQueue, Field: api.QuTail + 1}, false},
		{api.Addr{Kind: api.WdQueue + 1}, false},
	} {
		if got := May(c.a); got != c.want {
			t.Errorf("May(%+v) = %v", c.a, got)
		}
	}
}

// P2.2, P2.3: chapter 2's example.
func TestExample(t *testing.T) {
	m := New()
	m.Store(era, 5)
	if !m.CAS(era, 5, 6) {
		t.Error("CAS from 5 to 6 is false")
	}
	if m.CAS(era, 5, 7) {
		t.Error("CAS from 5 to 7 is true")
	}
	if v := m.Load(era); v != 6 {
		t.Errorf("Load is %d, want 6", v)
	}
	if n := m.Steps(); n != 4 {
		t.Errorf("Steps is %d, want 4", n)
	}
	if l := m.Words(); !slices.Equal(l, []Word{{era, 6}}) {
		t.Errorf("Words are %+v", l)
	}
}

// P2.2: each word is 0 at first.
func TestNought(t *testing.T) {
	m := New()
	if m == nil {
		t.Fatal("no memory")
	}
	for _, a := range every() {
		if v := m.Load(a); v != 0 {
			t.Errorf("word %+v is %d", a, v)
		}
	}
	if l := m.Words(); l != nil { // as of no memory
		t.Errorf("Words are %+v", l)
	}
}

// P2.2: each word is stored, loaded and changed for itself.
func TestEachWord(t *testing.T) {
	m, l := full()
	for _, w := range l {
		if v := m.Load(w.Addr); v != w.Value {
			t.Errorf("word %+v is %d, want %d", w.Addr, v, w.Value)
		}
		if m.CAS(w.Addr, w.Value+1, 9) || m.CAS(w.Addr, 0, 9) {
			t.Errorf("CAS of %+v from what it is not is true", w.Addr)
		}
		if v := m.Load(w.Addr); v != w.Value {
			t.Errorf("word %+v is %d behind such a CAS, want %d", w.Addr, v, w.Value)
		}
		if !m.CAS(w.Addr, w.Value, w.Value<<40) {
			t.Errorf("CAS of %+v is false", w.Addr)
		}
	}
	for i := range l {
		l[i].Value <<= 40
	}
	if got := m.Words(); !slices.Equal(got, l) {
		t.Error("the words are not what the CASes made them")
	}
}

// P2.2: values at the edges of 64 bits, and a CAS that makes a word what it is.
func TestValues(t *testing.T) {
	values := []uint64{0, 1, 2, 1 << 31, 1 << 32, 1 << 53, 1<<53 + 1, 1 << 63, most - 1, most}
	for _, was := range values {
		for _, is := range values {
			m := New()
			m.Store(slot, was)
			if v := m.Load(slot); v != was {
				t.Errorf("stored %d, loaded %d", was, v)
			}
			if !m.CAS(slot, was, is) {
				t.Errorf("CAS from %d to %d is false", was, is)
			}
			if v := m.Load(slot); v != is {
				t.Errorf("CAS from %d to %d: loaded %d", was, is, v)
			}
			if m.CAS(slot, is^1, was) || m.CAS(slot, is^1<<63, was) {
				t.Errorf("CAS of %d from another one is true", is)
			}
			m.Store(slot, was)
			if v := m.Load(slot); v != was {
				t.Errorf("stored %d once more, loaded %d", was, v)
			}
		}
	}
}

// P2.2: of an address that may not be each access is a step, and the memory stays.
func TestWrongAddress(t *testing.T) {
	filled, l := full()
	for name, m := range map[string]*Mem{"empty": New(), "full": filled} {
		was := m.Words()
		steps := m.Steps()
		step := func(a api.Addr, k api.AcKind, ok bool) {
			steps++
			if !ok {
				t.Errorf("%s: access %d of %+v answers what may not be", name, k, a)
			}
			if m.Steps() != steps {
				t.Fatalf("%s: Steps is %d behind access %d of %+v, want %d", name, m.Steps(), k, a, steps)
			}
			if got, want := m.Last(), (api.Access{Kind: k, Addr: a}); got != want {
				t.Errorf("%s: Last is %+v, want %+v", name, got, want)
			}
		}
		for _, a := range wrong() {
			step(a, api.AcLoad, m.Load(a) == 0)
			m.Store(a, 5)
			step(a, api.AcStore, true)
			step(a, api.AcLoad, m.Load(a) == 0)
			for _, c := range [][2]uint64{{0, 0}, {0, 7}, {5, 7}, {5, 0}, {7, 7}, {most, 1}} {
				step(a, api.AcCAS, !m.CAS(a, c[0], c[1]))
				step(a, api.AcLoad, m.Load(a) == 0)
			}
			m.Store(a, 0)
			step(a, api.AcStore, true)
		}
		if got := m.Words(); !slices.Equal(got, was) {
			t.Errorf("%s: the words are not what they were", name)
		}
	}
	for _, w := range l {
		if v := filled.Load(w.Addr); v != w.Value {
			t.Errorf("word %+v is %d, want %d", w.Addr, v, w.Value)
		}
	}
}

// P2.2, P2.3, R3: a memory that is not there, or that no call made, has nothing, takes nothing, and counts no step.
func TestAbsent(t *testing.T) {
	for name, m := range absent() {
		for _, a := range append(every()[:40], wrong()[:40]...) {
			m.Store(a, 5)
			if v := m.Load(a); v != 0 {
				t.Errorf("%s: Load of %+v is %d", name, a, v)
			}
			if m.CAS(a, 0, 0) || m.CAS(a, 0, 7) || m.CAS(a, 5, 7) {
				t.Errorf("%s: CAS of %+v is true", name, a)
			}
			if m.Steps() != 0 || m.Last() != (api.Access{}) || m.Words() != nil {
				t.Fatalf("%s: Steps %d, Last %+v, Words %+v", name, m.Steps(), m.Last(), m.Words())
			}
		}
	}
}

// P2.2: memories have nothing in common.
func TestApart(t *testing.T) {
	a, b := New(), New()
	a.Store(era, 5)
	a.Store(seg, 6)
	if v := b.Load(era); v != 0 || b.Steps() != 1 || len(b.Words()) != 0 {
		t.Errorf("another memory's era is %d, Steps %d, Words %+v", v, b.Steps(), b.Words())
	}
	b.Store(era, 9)
	if v := a.Load(era); v != 5 || a.Steps() != 3 {
		t.Errorf("the era is %d, Steps %d, want 5, 3", v, a.Steps())
	}
}

// P2.3: behind none, and behind each kind of step, the last one and how many there were.
func TestLast(t *testing.T) {
	m := New()
	if m.Last() != (api.Access{}) || m.Steps() != 0 {
		t.Errorf("ahead of all steps: Last %+v, Steps %d", m.Last(), m.Steps())
	}
	for i, c := range []struct {
		name string
		do   func()
		want api.Access
	}{
		{"load of 0", func() { m.Load(seg) }, api.Access{Kind: api.AcLoad, Addr: seg}},
		{"store", func() { m.Store(seg, 5) }, api.Access{Kind: api.AcStore, Addr: seg, Is: 5}},
		{"store over another one", func() { m.Store(seg, 6) }, api.Access{Kind: api.AcStore, Addr: seg, Was: 5, Is: 6}},
		{"store of the same", func() { m.Store(seg, 6) }, api.Access{Kind: api.AcStore, Addr: seg, Was: 6, Is: 6}},
		{"load", func() { m.Load(seg) }, api.Access{Kind: api.AcLoad, Addr: seg, Was: 6, Is: 6}},
		{"cas", func() { m.CAS(seg, 6, 7) }, api.Access{Kind: api.AcCAS, Addr: seg, Was: 6, Is: 7, Done: true}},
		{"cas that does not", func() { m.CAS(seg, 6, 8) }, api.Access{Kind: api.AcCAS, Addr: seg, Was: 7, Is: 7}},
		{"cas to the same", func() { m.CAS(seg, 7, 7) }, api.Access{Kind: api.AcCAS, Addr: seg, Was: 7, Is: 7, Done: true}},
		{"cas to what it is, from what it is not", func() { m.CAS(seg, 6, 7) }, api.Access{Kind: api.AcCAS, Addr: seg, Was: 7, Is: 7}},
		{"load behind a cas", func() { m.Load(seg) }, api.Access{Kind: api.AcLoad, Addr: seg, Was: 7, Is: 7}},
		{"cas to 0", func() { m.CAS(seg, 7, 0) }, api.Access{Kind: api.AcCAS, Addr: seg, Was: 7, Done: true}},
		{"cas of 0 that does not", func() { m.CAS(seg, 7, 9) }, api.Access{Kind: api.AcCAS, Addr: seg}},
		{"cas from 0 to 0", func() { m.CAS(seg, 0, 0) }, api.Access{Kind: api.AcCAS, Addr: seg, Done: true}},
		{"cas from 0", func() { m.CAS(slot, 0, most) }, api.Access{Kind: api.AcCAS, Addr: slot, Is: most, Done: true}},
		{"store of 0", func() { m.Store(slot, 0) }, api.Access{Kind: api.AcStore, Addr: slot, Was: most}},
		{"store of 0 over 0", func() { m.Store(era, 0) }, api.Access{Kind: api.AcStore, Addr: era}},
	} {
		c.do()
		for range 2 { // to ask is no step
			if got := m.Last(); got != c.want {
				t.Errorf("%s: Last is %+v, want %+v", c.name, got, c.want)
			}
			if m.Steps() != i+1 {
				t.Errorf("%s: Steps is %d, want %d", c.name, m.Steps(), i+1)
			}
			m.Words()
		}
	}
}

// P2.3: words are told by Kind, At, Field, in whatever order they were stored.
func TestWordsOrder(t *testing.T) {
	want := []Word{
		{api.Addr{Kind: api.WdFree}, 9},
		{api.Addr{Kind: api.WdBlocks}, 1},
		{api.Addr{Kind: api.WdSeg, At: 0, Field: 1}, 8},
		{api.Addr{Kind: api.WdSeg, At: 2, Field: 0}, 2},
		{api.Addr{Kind: api.WdSeg, At: 2, Field: 1}, 1},
		{api.Addr{Kind: api.WdSeg, At: 10, Field: 0}, 3},
		{api.Addr{Kind: api.WdThread, At: 3, Field: 9}, 7},
		{api.Addr{Kind: api.WdThread, At: 15, Field: 0}, most},
		{api.Addr{Kind: api.WdSlot, At: 9, Field: 7}, 6},
		{api.Addr{Kind: api.WdSlot, At: 200, Field: 2}, 5},
		{api.Addr{Kind: api.WdList, At: 8}, 4},
		{api.Addr{Kind: api.WdQueue, Field: 0}, 3},
		{api.Addr{Kind: api.WdQueue, Field: 1}, 2},
	}
	for from := range want {
		for _, by := range []int{1, 2, 5, 12} { // none of them parts 13 but 1 itself, so that each word has its turn
			m := New()
			for i := range want {
				w := want[(from+i*by)%len(want)]
				m.Store(w.Addr, w.Value)
			}
			if got := m.Words(); !slices.Equal(got, want) {
				t.Errorf("from %d by %d: Words are %+v", from, by, got)
			}
		}
	}
	m, l := full()
	if got := m.Words(); !slices.Equal(got, l) {
		t.Error("the words of a full memory are not in order, or not all")
	}
}

// P2.3: a word that is 0 again is not told.
func TestWordsNought(t *testing.T) {
	m := New()
	m.Store(era, 5)
	m.Store(seg, 6)
	m.Store(slot, 7)
	m.Store(seg, 0)
	if got := m.Words(); !slices.Equal(got, []Word{{era, 5}, {slot, 7}}) {
		t.Errorf("behind a store of 0: Words are %+v", got)
	}
	m.CAS(era, 5, 0)
	if got := m.Words(); !slices.Equal(got, []Word{{slot, 7}}) {
		t.Errorf("behind a CAS to 0: Words are %+v", got)
	}
	m.Store(slot, 0)
	if got := m.Words(); len(got) != 0 {
		t.Errorf("when all are 0: Words are %+v", got)
	}
	m.CAS(seg, 0, 3)
	if got := m.Words(); !slices.Equal(got, []Word{{seg, 3}}) {
		t.Errorf("behind a CAS from 0: Words are %+v", got)
	}
}

// P2.3, R4: what is answered is memory of its own, with no room behind.
func TestWordsOwn(t *testing.T) {
	m, l := full()
	for _, n := range []int{0, 1, 5, 100, len(l)} {
		m := New()
		for _, w := range l[:n] {
			m.Store(w.Addr, w.Value)
		}
		if got := m.Words(); len(got) != n || cap(got) != n {
			t.Errorf("%d words: %d are told, with room for %d", n, len(got), cap(got))
		}
	}
	one, two := m.Words(), m.Words()
	clear(one)
	if !slices.Equal(two, l) || !slices.Equal(m.Words(), l) {
		t.Error("a change of one answer is to be seen in another one")
	}
	m.Store(era, 77)
	if !slices.Equal(two, l) {
		t.Error("a store is to be seen in an answer of before")
	}
}

// Whoever goes through the words may leave.
func TestWordsLeft(t *testing.T) {
	m, l := full()
	for w := range m.inOrder {
		if w != l[0] {
			t.Errorf("first word is %+v, want %+v", w, l[0])
		}
		break
	}
}

// past of a memory: what was stored, one behind the other, so that nothing of it can be lost or changed by what comes later.
type past []Word

// word at an address: what the last one made it.
func (p past) word(a api.Addr) uint64 {
	for i := len(p) - 1; i >= 0; i-- {
		if p[i].Addr == a {
			return p[i].Value
		}
	}
	return 0
}

// words of some addresses that are not 0.
func (p past) words(of []api.Addr) []Word {
	var l []Word
	for _, a := range of {
		if v := p.word(a); v != 0 {
			l = append(l, Word{a, v})
		}
	}
	return l
}

// P2.4: a word is what the last Store of it, or CAS that did, made it; no step changes another word.
func TestWhatFollows(t *testing.T) {
	all := every()
	var of []api.Addr // neighbours, so that a step of one that touches another one is seen
	for i, a := range all {
		if i < 12 || a.Kind == api.WdThread && a.At < 2 && a.Field < 3 || a.Kind == api.WdSlot && a.At > 253 && a.Field > 5 || a.Kind >= api.WdList {
			of = append(of, a)
		}
	}
	pool := append(slices.Clone(of), wrong()[:9]...)
	pool = append(pool, api.Addr{Kind: 12}, api.Addr{Kind: api.WdSlot, At: 256, Field: 7}, api.Addr{Kind: api.WdSlot, At: 255, Field: 8})
	x := uint64(88172645463325252)
	next := func(n int) int { // xorshift: always the same ones
		x ^= x << 13
		x ^= x >> 7
		x ^= x << 17
		return int(x >> 33 % uint64(n))
	}
	m, p := New(), past{}
	for step := range 6000 {
		i := next(len(pool))
		a, right := pool[i], i < len(of)
		v, w := uint64(next(3)), uint64(next(3))
		was := p.word(a)
		want := api.Access{Addr: a, Was: was, Is: was}
		switch next(3) {
		case 0:
			want.Kind = api.AcLoad
			if got := m.Load(a); got != was {
				t.Fatalf("step %d: Load of %+v is %d, want %d", step, a, got, was)
			}
		case 1:
			want.Kind = api.AcStore
			if right {
				want.Is = v
				p = append(p, Word{a, v})
			}
			m.Store(a, v)
		case 2:
			want.Kind = api.AcCAS
			if right && was == v {
				want.Is, want.Done = w, true
				p = append(p, Word{a, w})
			}
			if got := m.CAS(a, v, w); got != want.Done {
				t.Fatalf("step %d: CAS of %+v (%d) from %d to %d is %v", step, a, was, v, w, got)
			}
		}
		if got := m.Last(); got != want {
			t.Fatalf("step %d: Last is %+v, want %+v", step, got, want)
		}
		if m.Steps() != step+1 {
			t.Fatalf("step %d: Steps is %d", step, m.Steps())
		}
		if got, want := m.Words(), p.words(of); !slices.Equal(got, want) {
			t.Fatalf("step %d: Words are %+v, want %+v", step, got, want)
		}
	}
}
