package orphans_test

import (
	"math"
	"slices"
	"testing"

	"ragpicker/api"
	"ragpicker/mems"
	"ragpicker/orphans"
)

const (
	maxWord = uint64(math.MaxUint64)
	maxTag  = uint64(1<<48 - 1)
	none    = -1
	last    = api.MaxSlots - 1
)

// Fields of a slot, told anew.
const (
	header = 0
	birth  = 1
	link   = 2
	epoch  = 3
	era    = 4
)

// Where words stand, told anew.
var headAt = api.Addr{Kind: api.WdOrphan}

func wordAt(slot, field int) api.Addr { return api.Addr{Kind: api.WdSlot, At: slot, Field: field} }
func linkAt(slot int) api.Addr        { return wordAt(slot, link) }

// hd: the word of a head, told anew: the slot and 1 in bits 0 to 15, the tag behind them.
func hd(slot int, tag uint64) uint64 { return tag<<16 | uint64(slot+1) }

// slotTold: the slot of a head, told anew.
func slotTold(w uint64) int {
	if n := int(w & 0xffff); n <= 256 {
		return n - 1
	}
	return none
}

// behind: the word of WdOrphan behind one that turned it from that to a slot.
func behind(was uint64, slot int) uint64 { return hd(slot, was>>16+1) }

// Accesses, as a memory tells them.
func ld(a api.Addr, v uint64) api.Access {
	return api.Access{Kind: api.AcLoad, Addr: a, Was: v, Is: v}
}

func st(a api.Addr, was, is uint64) api.Access {
	return api.Access{Kind: api.AcStore, Addr: a, Was: was, Is: is}
}

func cas(was, is uint64) api.Access {
	return api.Access{Kind: api.AcCAS, Addr: headAt, Was: was, Is: is, Done: true}
}

func casNot(v uint64) api.Access {
	return api.Access{Kind: api.AcCAS, Addr: headAt, Was: v, Is: v}
}

// accesses, one behind the other.
type accesses = []api.Access

// word of a memory.
func word(a api.Addr, v uint64) mems.Word { return mems.Word{Addr: a, Value: v} }

// memory with these words.
func memory(l ...mems.Word) *mems.Mem {
	m := mems.New()
	for _, w := range l {
		m.Store(w.Addr, w.Value)
	}
	return m
}

// entry of a slot, unlike that of each other one.
func entry(slot int) api.Entry {
	n := uint64(slot) + 1
	return api.Entry{Ref: api.Ref{Slot: slot, Gen: uint32(n) * 16777215}, Birth: n << 20, Epoch: maxWord - n, Era: n<<40 + 5}
}

// entries of slots.
func entries(slots ...int) []api.Entry {
	var l []api.Entry
	for _, s := range slots {
		l = append(l, entry(s))
	}
	return l
}

// said: the words that say entries.
func said(l ...api.Entry) []mems.Word {
	var w []mems.Word
	for _, e := range l {
		s := e.Ref.Slot
		w = append(w, word(wordAt(s, header), uint64(e.Ref.Gen)<<3|2), word(wordAt(s, birth), e.Birth), word(wordAt(s, epoch), e.Epoch), word(wordAt(s, era), e.Era))
	}
	return w
}

// stack of slots, the first one first, with a tag at its head; links have tags of their own, which do not count.
func stack(tag uint64, slots ...int) []mems.Word {
	l := []mems.Word{word(headAt, tag<<16)}
	at := &l[0].Value
	for i, s := range slots {
		*at |= uint64(s + 1)
		l = append(l, word(linkAt(s), uint64(i)*7<<16))
		at = &l[len(l)-1].Value
	}
	return l
}

// full: a stack of slots, with the words that say their entries.
func full(tag uint64, slots ...int) []mems.Word {
	return append(stack(tag, slots...), said(entries(slots...)...)...)
}

// beside: words of all kinds that neither operation is to look at, or to change.
func beside() []mems.Word {
	l := []mems.Word{
		word(api.Addr{Kind: api.WdFree}, 3), word(api.Addr{Kind: api.WdEpoch}, 5), word(api.Addr{Kind: api.WdEra}, 6), word(api.Addr{Kind: api.WdPhase}, 7), word(api.Addr{Kind: api.WdBlocks}, 2),
		word(api.Addr{Kind: api.WdSeg}, api.SegMapped), word(api.Addr{Kind: api.WdBlock}, 1), word(api.Addr{Kind: api.WdThread}, 8), word(api.Addr{Kind: api.WdList}, 9), word(api.Addr{Kind: api.WdQueue}, 10),
	}
	for s := range api.MaxSlots {
		for f := api.SlKey; f <= api.SlNext; f++ {
			l = append(l, word(wordAt(s, f), uint64(1000*f+s)))
		}
	}
	return l
}

// tags of heads, the last ones among them.
func tags() []uint64 {
	return []uint64{0, 1, 2, 65535, 1<<31 - 1, 1 << 32, 1<<47 - 1, 1 << 47, maxTag - 1, maxTag}
}

// odd words of a head: of each kind of slot, those that may not be, too, and of tags.
func odd() []uint64 {
	var l []uint64
	for _, slot := range []uint64{0, 1, 2, 8, 255, 256, 257, 258, 264, 512, 513, 32768, 65535} {
		for _, tag := range tags() {
			l = append(l, tag<<16|slot)
		}
	}
	return l
}

// operation: what both of them are.
type operation interface {
	Step(m *mems.Mem) bool
	Over() bool
}

// got: what an operation tells; a Give tells nothing.
func got(o operation) []api.Entry {
	if t, ok := o.(*orphans.Take); ok {
		return t.Got()
	}
	return nil
}

// numbers that always are the same ones.
type numbers uint64

// below a limit: the next one.
func (x *numbers) below(n int) int {
	*x ^= *x << 13
	*x ^= *x >> 7
	*x ^= *x << 17
	return int(uint64(*x) >> 33 % uint64(n))
}

// mixed: all slots below a limit, in an order that is none.
func (x *numbers) mixed(n int) []int {
	var l []int
	for s := range n {
		l = slices.Insert(l, x.below(s+1), s)
	}
	return l
}

// meddling of somebody else ahead of a step.
type meddling struct {
	ahead int // of which step, from 0 on
	at    api.Addr
	is    uint64
}

// course of an operation, step by step.
type course struct {
	name   string
	at     []mems.Word // at first
	of     operation
	others []meddling
	want   accesses
	got    []api.Entry
}

// held: each step of it against its accesses, and all words behind it.
func (c course) held(t *testing.T) {
	t.Helper()
	m, other := memory(c.at...), memory(c.at...)
	for i, a := range c.want {
		for _, x := range c.others {
			if x.ahead == i {
				m.Store(x.at, x.is)
				other.Store(x.at, x.is)
			}
		}
		step(t, c.name, c.of, m, i, a, i == len(c.want)-1)
		other.Store(a.Addr, a.Is)
	}
	if !slices.Equal(m.Words(), other.Words()) {
		t.Errorf("%s: the words are %+v, want %+v", c.name, m.Words(), other.Words())
	}
	rests(t, c.name, c.of, m, c.got)
}

// step of an operation, held against the access and whether it is over.
func step(t *testing.T, name string, o operation, m *mems.Mem, i int, want api.Access, is bool) {
	t.Helper()
	steps := m.Steps()
	goesOn(t, name, o)
	if got := o.Step(m); got != is || o.Over() != is {
		t.Errorf("%s: step %d answers %v, Over %v, want %v", name, i+1, got, o.Over(), is)
	}
	if m.Steps() != steps+1 {
		t.Fatalf("%s: step %d makes %d accesses", name, i+1, m.Steps()-steps)
	}
	if got := m.Last(); got != want {
		t.Fatalf("%s: step %d is %+v, want %+v", name, i+1, got, want)
	}
}

// goesOn: an operation is not over, and tells nothing.
func goesOn(t *testing.T, name string, o operation) {
	t.Helper()
	if o.Over() || len(got(o)) > 0 {
		t.Fatalf("%s: ahead of its end over is %v, got %+v", name, o.Over(), got(o))
	}
}

// rests: an operation that is over, and got that, takes no step any more, of whatever memory, and says so.
func rests(t *testing.T, name string, o operation, m *mems.Mem, want []api.Entry) {
	t.Helper()
	var zero mems.Mem
	for _, m := range []*mems.Mem{m, memory(full(3, 5, 6)...), memory(stack(2)...), mems.New(), nil, &zero} {
		was, steps, access := m.Words(), m.Steps(), m.Last()
		for range 3 {
			tells(t, name, o, want)
			if !o.Over() || !o.Step(m) || !o.Over() {
				t.Errorf("%s: not over any more", name)
			}
		}
		if m.Steps() != steps || m.Last() != access || !slices.Equal(m.Words(), was) {
			t.Errorf("%s: takes steps when it is over", name)
		}
	}
	tells(t, name, o, want)
}

// tells: an operation tells that, each time in memory of its own, with no room behind.
func tells(t *testing.T, name string, o operation, want []api.Entry) {
	t.Helper()
	l, other := got(o), got(o)
	if !slices.Equal(l, want) || !slices.Equal(other, want) || cap(l) != len(l) {
		t.Fatalf("%s: got %+v, with room for %d, and %+v, want %+v", name, l, cap(l), other, want)
	}
	for i := range l {
		l[i] = api.Entry{Ref: api.Ref{Slot: 99, Gen: 99, Mark: true}, Birth: 99, Epoch: 99, Era: 99}
	}
	if again := got(o); !slices.Equal(other, want) || !slices.Equal(again, want) {
		t.Fatalf("%s: what it told was changed, and it tells %+v, and had told %+v, want %+v", name, again, other, want)
	}
}

// reads: lines 3 to 6 of a Take, of a slot's entry that said tells.
func reads(e api.Entry) accesses {
	s := e.Ref.Slot
	return accesses{ld(wordAt(s, header), uint64(e.Ref.Gen)<<3|2), ld(wordAt(s, birth), e.Birth), ld(wordAt(s, epoch), e.Epoch), ld(wordAt(s, era), e.Era)}
}

// taking: all accesses of a Take of a full stack of slots, that nobody disturbs.
func taking(tag uint64, slots ...int) accesses {
	w := stack(tag, slots...)
	l := accesses{ld(headAt, w[0].Value)}
	if len(slots) == 0 {
		return l
	}
	l = append(l, cas(w[0].Value, behind(w[0].Value, none)))
	for i, s := range slots {
		l = append(append(l, reads(entry(s))...), ld(linkAt(s), w[i+1].Value))
	}
	return l
}

// onto: lines 2 to 4 of a Give that nobody disturbs: what WdOrphan is, what the last slot's link was, and which slots are last and first.
func onto(head, was uint64, end, first int) accesses {
	return accesses{ld(headAt, head), st(linkAt(end), was, uint64(slotTold(head)+1)), cas(head, behind(head, first))}
}

// P12.1, P12.2: chapter 12's examples.
func TestExamples(t *testing.T) {
	m := mems.New()
	run := func(o operation, steps int, head uint64, want ...api.Entry) {
		t.Helper()
		n := 1
		for !o.Step(m) && n < 100 {
			n++
		}
		if n != steps || !slices.Equal(got(o), want) {
			t.Errorf("%d steps, want %d; got %+v, want %+v", n, steps, got(o), want)
		}
		if h := m.Load(headAt); h != head {
			t.Errorf("WdOrphan is %#x, want %#x", h, head)
		}
	}
	run(orphans.NewTake(), 1, 0)
	for _, w := range said(entry(7), entry(3), entry(5)) {
		m.Store(w.Addr, w.Value)
	}
	run(orphans.NewGive(entries(7, 3)), 4, 0x10008)
	run(orphans.NewGive(entries(5)), 3, 0x20006)
	if a, b, c := m.Load(linkAt(5)), m.Load(linkAt(7)), m.Load(linkAt(3)); a != 8 || b != 4 || c != 0 {
		t.Errorf("the links of 5, 7, 3 are %d, %d, %d", a, b, c)
	}
	run(orphans.NewTake(), 17, 0x30000, entry(5), entry(7), entry(3))
	run(orphans.NewTake(), 1, 0x30000)
}

// P12.1: each line of a Give of one, of two, and of some more.
func TestGiveLines(t *testing.T) {
	old := func(slot int, v uint64) mems.Word { return word(linkAt(slot), v) }
	for _, c := range []struct {
		name  string
		at    []mems.Word
		slots []int
		want  accesses
	}{
		{"one onto nothing", nil, []int{7}, accesses{ld(headAt, 0), st(linkAt(7), 0, 0), cas(0, hd(7, 1))}},
		{"slot 0 onto nothing", nil, []int{0}, accesses{ld(headAt, 0), st(linkAt(0), 0, 0), cas(0, hd(0, 1))}},
		{"the last slot onto nothing", nil, []int{last}, accesses{ld(headAt, 0), st(linkAt(last), 0, 0), cas(0, hd(last, 1))}},
		{"one onto none, with a tag", stack(9), []int{7}, accesses{ld(headAt, 9<<16), st(linkAt(7), 0, 0), cas(9<<16, hd(7, 10))}},
		{"one onto one", stack(2, 3), []int{7}, accesses{ld(headAt, hd(3, 2)), st(linkAt(7), 0, 4), cas(hd(3, 2), hd(7, 3))}},
		{"one onto slot 0", stack(2, 0), []int{7}, accesses{ld(headAt, hd(0, 2)), st(linkAt(7), 0, 1), cas(hd(0, 2), hd(7, 3))}},
		{"slot 0 onto the last one", stack(2, last), []int{0}, accesses{ld(headAt, hd(last, 2)), st(linkAt(0), 0, 256), cas(hd(last, 2), hd(0, 3))}},
		{"one onto many", full(5, 200, 100, 50), []int{last}, accesses{ld(headAt, hd(200, 5)), st(linkAt(last), 0, 201), cas(hd(200, 5), hd(last, 6))}},
		{"one over an old link", append(stack(5, 3), old(7, hd(9, 44))), []int{7}, accesses{ld(headAt, hd(3, 5)), st(linkAt(7), hd(9, 44), 4), cas(hd(3, 5), hd(7, 6))}},
		{"one over an old link, onto none", append(stack(5), old(7, maxWord)), []int{7}, accesses{ld(headAt, 5<<16), st(linkAt(7), maxWord, 0), cas(5<<16, hd(7, 6))}},
		{"what is first already", stack(5, 7), []int{7}, accesses{ld(headAt, hd(7, 5)), st(linkAt(7), 0, 8), cas(hd(7, 5), hd(7, 6))}},
		{"one behind the last tag", stack(maxTag, 3), []int{7}, accesses{ld(headAt, hd(3, maxTag)), st(linkAt(7), 0, 4), cas(hd(3, maxTag), 8)}},
		{"one onto a slot that may not be", []mems.Word{word(headAt, 3<<16|257), old(7, 5)}, []int{7}, accesses{ld(headAt, 3<<16|257), st(linkAt(7), 5, 0), cas(3<<16|257, hd(7, 4))}},
		{"two onto nothing", nil, []int{7, 3}, accesses{st(linkAt(7), 0, 4), ld(headAt, 0), st(linkAt(3), 0, 0), cas(0, hd(7, 1))}},
		{"two, slot 0 behind, onto the last one", stack(1, last), []int{7, 0}, accesses{st(linkAt(7), 0, 1), ld(headAt, hd(last, 1)), st(linkAt(0), 0, 256), cas(hd(last, 1), hd(7, 2))}},
		{"two, the last slot behind slot 0, onto two", stack(4, 9, 8), []int{0, last}, accesses{st(linkAt(0), 0, 256), ld(headAt, hd(9, 4)), st(linkAt(last), 0, 10), cas(hd(9, 4), hd(0, 5))}},
		{"two over old links", append(stack(4, 9), old(6, maxWord), old(2, hd(1, 77))), []int{6, 2}, accesses{st(linkAt(6), maxWord, 3), ld(headAt, hd(9, 4)), st(linkAt(2), hd(1, 77), 10), cas(hd(9, 4), hd(6, 5))}},
		{"two that are in the stack already", stack(4, 9, 8), []int{8, 9}, accesses{st(linkAt(8), 7<<16, 10), ld(headAt, hd(9, 4)), st(linkAt(9), 9, 10), cas(hd(9, 4), hd(8, 5))}},
		{"two behind the last tag, onto none", stack(maxTag), []int{2, 1}, accesses{st(linkAt(2), 0, 2), ld(headAt, maxTag<<16), st(linkAt(1), 0, 0), cas(maxTag<<16, 3)}},
		{"five onto one", stack(6, 10), []int{5, 4, 200, 3, 0}, accesses{st(linkAt(5), 0, 5), st(linkAt(4), 0, 201), st(linkAt(200), 0, 4), st(linkAt(3), 0, 1), ld(headAt, hd(10, 6)), st(linkAt(0), 0, 11), cas(hd(10, 6), hd(5, 7))}},
	} {
		course{name: c.name, at: c.at, of: orphans.NewGive(entries(c.slots...)), want: c.want}.held(t)
		course{name: c.name + ", beside all others", at: append(beside(), c.at...), of: orphans.NewGive(entries(c.slots...)), want: c.want}.held(t)
	}
}

// P12.1: what else entries say changes nothing; their words are not touched.
func TestGiveOfWhateverEntries(t *testing.T) {
	for _, e := range []api.Entry{{}, {Ref: api.Ref{Gen: 1}}, {Ref: api.Ref{Gen: math.MaxUint32}, Birth: maxWord, Epoch: maxWord, Era: maxWord}, {Birth: 1}, {Epoch: 2}, {Era: 3}} {
		l := []api.Entry{e, e, e}
		l[0].Ref.Slot, l[1].Ref.Slot, l[2].Ref.Slot = 4, 0, last
		at := append(full(2, 9), said(entries(4, 0, last)...)...)
		course{name: "entries", at: at, of: orphans.NewGive(l), want: append(accesses{st(linkAt(4), 0, 1), st(linkAt(0), 0, 256)}, onto(hd(9, 2), 0, last, 4)...)}.held(t)
		course{name: "an entry", at: at, of: orphans.NewGive(l[2:]), want: onto(hd(9, 2), 0, last, last)}.held(t)
	}
}

// P12.1: lines 2 to 4, of a WdOrphan of whatever bits, over links of whatever bits.
func TestGiveOntoWhatever(t *testing.T) {
	for i, w := range odd() {
		was := odd()[(i+17)%len(odd())]
		at := append(beside(), word(headAt, w), word(linkAt(7), was), word(linkAt(3), was))
		course{name: "one", at: at, of: orphans.NewGive(entries(7)), want: onto(w, was, 7, 7)}.held(t)
		course{name: "two", at: at, of: orphans.NewGive(entries(3, 7)), want: append(accesses{st(linkAt(3), was, 8)}, onto(w, was, 7, 3)...)}.held(t)
		course{name: "others store it", at: stack(5, 2), of: orphans.NewGive(entries(7)), others: []meddling{{0, headAt, w}}, want: onto(w, 0, 7, 7)}.held(t)
		course{name: "others store it behind line 1", at: stack(5, 2), of: orphans.NewGive(entries(3, 7)), others: []meddling{{1, headAt, w}}, want: append(accesses{st(linkAt(3), 0, 8)}, onto(w, 0, 7, 3)...)}.held(t)
	}
}

// P12.1: each number of entries, up to all slots there are, in whatever order.
func TestGiveMany(t *testing.T) {
	x := numbers(88172645463325252)
	for n := 1; n <= api.MaxSlots; n++ {
		slots := x.mixed(api.MaxSlots)
		given, rest := slots[:n], slots[n:]
		at := stack(uint64(n), rest...)
		var want accesses
		for i, s := range given[:n-1] {
			want = append(want, st(linkAt(s), 0, uint64(given[i+1]+1)))
		}
		want = append(want, onto(at[0].Value, 0, given[n-1], given[0])...)
		if len(want) != n+2 {
			t.Fatalf("%d steps of %d", len(want), n)
		}
		course{name: "many", at: at, of: orphans.NewGive(entries(given...)), want: want}.held(t)
	}
}

// P12.1: a WdOrphan that others changed between its load and the CAS of it: line 2 again, and what stands there then is behind the last slot.
func TestGiveLooksAgain(t *testing.T) {
	for _, slots := range [][]int{{7}, {7, 3}, {0, last, 7, 3}} {
		n := len(slots)
		first, end := slots[0], slots[n-1]
		var chain accesses
		for i, s := range slots[:n-1] {
			chain = append(chain, st(linkAt(s), 0, uint64(slots[i+1]+1)))
		}
		start := slices.Concat(chain, onto(hd(9, 4), 0, end, first)[:2]) // to line 3
		give := func(name string, want accesses, others ...meddling) {
			t.Helper()
			course{name: name, at: stack(4, 9), of: orphans.NewGive(entries(slots...)), others: others, want: want}.held(t)
		}
		all := slices.Concat(start, accesses{cas(hd(9, 4), hd(first, 5))})
		for _, w := range odd() {
			again := slices.Concat(start, accesses{casNot(w)}, onto(w, 10, end, first))
			if w == hd(9, 4) {
				again = all
			}
			give("changed ahead of line 3", again, meddling{n, headAt, w})
			give("changed ahead of line 4", again, meddling{n + 1, headAt, w})
			give("changed, and back", all, meddling{n, headAt, w}, meddling{n + 1, headAt, hd(9, 4)})
			give("changed twice", slices.Concat(start, accesses{casNot(w)}, onto(hd(5, 8), 10, end, first)), meddling{n + 1, headAt, w}, meddling{n + 2, headAt, hd(5, 8)})
		}
		thrice := slices.Concat(start, accesses{casNot(hd(9, 5)), ld(headAt, hd(9, 5)), st(linkAt(end), 10, 10), casNot(hd(8, 5)), ld(headAt, hd(8, 5)), st(linkAt(end), 10, 9), casNot(6 << 16)}, onto(6<<16, 9, end, first))
		give("thrice", thrice, meddling{n + 1, headAt, hd(9, 5)}, meddling{n + 4, headAt, hd(8, 5)}, meddling{n + 7, headAt, 6 << 16})
		back := slices.Concat(start, accesses{casNot(hd(2, 4))}, onto(hd(9, 4), 10, end, first))
		give("changed, and back behind line 4", back, meddling{n + 1, headAt, hd(2, 4)}, meddling{n + 2, headAt, hd(9, 4)})
	}
}

// P12.1: what others make of links behind their lines is not mended, and not looked at.
func TestGiveStoresOnce(t *testing.T) {
	chain := accesses{st(linkAt(7), 0, 4), st(linkAt(3), 0, 6)}
	for _, v := range []uint64{0, 1, 9, maxWord} {
		course{name: "links", at: stack(4, 9), of: orphans.NewGive(entries(7, 3, 5)), others: []meddling{{1, linkAt(7), v}, {2, linkAt(3), v}, {2, linkAt(9), v}, {4, linkAt(5), v}}, want: slices.Concat(chain, onto(hd(9, 4), 0, 5, 7))}.held(t)
		again := slices.Concat(chain, onto(hd(9, 4), 0, 5, 7)[:2], accesses{casNot(hd(8, 4))}, onto(hd(8, 4), v, 5, 7))
		course{name: "links, and again", at: stack(4, 9), of: orphans.NewGive(entries(7, 3, 5)), others: []meddling{{4, headAt, hd(8, 4)}, {4, linkAt(7), v}, {4, linkAt(3), v}, {4, linkAt(5), v}}, want: again}.held(t)
	}
}

// P12.1: of entries that may not be given a Give is over, and does nothing.
func TestMayNotBeGiven(t *testing.T) {
	mark := func(slot int) api.Entry {
		e := entry(slot)
		e.Ref.Mark = true
		return e
	}
	at := func(slot int) api.Entry {
		e := entry(3)
		e.Ref.Slot = slot
		return e
	}
	gen := func(slot int, gen uint32) api.Entry {
		e := entry(slot)
		e.Ref.Gen = gen
		return e
	}
	wrong := [][]api.Entry{nil, {}, make([]api.Entry, 0, 5), make([]api.Entry, 2), make([]api.Entry, 300), entries(4, 4), entries(4, 5, 4), entries(0, 1, 2, 0), entries(last, 0, last), {gen(4, 1), gen(4, 2)}, {gen(4, 1), gen(5, 1), gen(4, 3)}, {mark(4), entry(4)}}
	for _, slot := range []int{-1, -2, -3, -256, -257, api.MaxSlots, api.MaxSlots + 1, api.MaxSlots + 3, 65535, 65536, 65539, 1<<32 + 3, 1<<48 + 3, math.MaxInt, math.MinInt, math.MinInt + 3} {
		wrong = append(wrong, []api.Entry{at(slot)}, []api.Entry{at(slot), entry(4)}, []api.Entry{entry(4), at(slot)}, []api.Entry{entry(4), at(slot), entry(5)}, []api.Entry{at(slot), at(slot)})
	}
	for _, slot := range []int{0, 3, last} {
		wrong = append(wrong, []api.Entry{mark(slot)}, []api.Entry{mark(slot), entry(4)}, []api.Entry{entry(4), mark(slot)}, []api.Entry{entry(4), mark(slot), entry(5)})
	}
	x := numbers(362436069)
	all := entries(x.mixed(api.MaxSlots)...) // these alone may be given
	for _, i := range []int{0, 1, 100, last} {
		twice, marked, beyond, short := slices.Clone(all), slices.Clone(all), slices.Clone(all), slices.Clone(all[:last])
		twice[(i+1)%len(twice)] = all[i]
		marked[i].Ref.Mark = true
		beyond[i].Ref.Slot = api.MaxSlots
		short[i%last] = short[(i+7)%last]
		wrong = append(wrong, append(slices.Clone(all), all[i]), twice, marked, beyond, short)
	}
	for i, l := range wrong {
		was := slices.Clone(l)
		g := orphans.NewGive(l)
		if !slices.Equal(l, was) {
			t.Errorf("the entries %d are changed", i)
		}
		for _, m := range []*mems.Mem{memory(full(2, 3, 4)...), mems.New()} {
			rests(t, "entries that may not be given", g, m, nil)
		}
	}
}

// P12.1, R1: a list that was handed in is not changed, and not kept: what becomes of it behind that changes nothing.
func TestHandedIn(t *testing.T) {
	others := []api.Entry{{}, entry(200), entry(-1), {Ref: api.Ref{Slot: 5, Mark: true}}, entry(7), entry(api.MaxSlots)}
	slots := []int{7, 3, 0, last}
	want := append(accesses{st(linkAt(7), 0, 4), st(linkAt(3), 0, 1), st(linkAt(0), 0, 256)}, onto(hd(9, 2), 0, last, 7)...)
	for _, e := range others {
		for ahead := range want {
			list := entries(7, 3, 0, last, 100, 101)
			l := list[:4] // with room behind
			was := slices.Clone(list)
			m := memory(stack(2, 9)...)
			g := orphans.NewGive(l)
			for i, a := range want {
				if i == ahead {
					for k := range list {
						list[k], was[k] = e, e
					}
				}
				step(t, "a list that is changed", g, m, i, a, i == len(want)-1)
				if !slices.Equal(list, was) {
					t.Fatalf("the list is changed to %+v", list)
				}
			}
		}
	}
	l := entries(slots...)
	a, b := orphans.NewGive(l), orphans.NewGive(l)
	clear(l)
	course{name: "one of two of a list", at: stack(2, 9), of: a, want: want}.held(t)
	course{name: "the other one", at: stack(2, 9), of: b, want: want}.held(t)
}

// P12.2: each line of a Take of none, of one, and of some more.
func TestTakeLines(t *testing.T) {
	is := func(slot int, gen uint32, birth, epoch, era uint64) api.Entry {
		return api.Entry{Ref: api.Ref{Slot: slot, Gen: gen}, Birth: birth, Epoch: epoch, Era: era}
	}
	for _, c := range []struct {
		name string
		at   []mems.Word
		want accesses
		got  []api.Entry
	}{
		{"nothing", nil, accesses{ld(headAt, 0)}, nil},
		{"none, with a tag", stack(9), accesses{ld(headAt, 9<<16)}, nil},
		{"none, with the last tag", stack(maxTag), accesses{ld(headAt, maxTag<<16)}, nil},
		{"none, but words of slots", said(entries(0, 1, last)...), accesses{ld(headAt, 0)}, nil},
		{"a slot that may not be", []mems.Word{word(headAt, 257)}, accesses{ld(headAt, 257)}, nil},
		{"a slot that may not be, with a tag", []mems.Word{word(headAt, 4<<16|65535)}, accesses{ld(headAt, 4<<16|65535)}, nil},
		{"one without words", stack(0, 7), accesses{ld(headAt, 8), cas(8, 1<<16), ld(wordAt(7, 0), 0), ld(wordAt(7, 1), 0), ld(wordAt(7, 3), 0), ld(wordAt(7, 4), 0), ld(wordAt(7, 2), 0)}, []api.Entry{is(7, 0, 0, 0, 0)}},
		{"one", []mems.Word{word(headAt, hd(7, 2)), word(wordAt(7, 0), 26), word(wordAt(7, 1), 11), word(wordAt(7, 2), 0), word(wordAt(7, 3), 13), word(wordAt(7, 4), 14), word(wordAt(7, 5), 15), word(wordAt(7, 6), 16), word(wordAt(7, 7), 17)},
			accesses{ld(headAt, hd(7, 2)), cas(hd(7, 2), 3<<16), ld(wordAt(7, 0), 26), ld(wordAt(7, 1), 11), ld(wordAt(7, 3), 13), ld(wordAt(7, 4), 14), ld(wordAt(7, 2), 0)}, []api.Entry{is(7, 3, 11, 13, 14)}},
		{"slot 0", full(1, 0), taking(1, 0), entries(0)},
		{"the last slot", full(1, last), taking(1, last), entries(last)},
		{"one behind the last tag", full(maxTag, 7), append(accesses{ld(headAt, hd(7, maxTag)), cas(hd(7, maxTag), 0)}, taking(maxTag, 7)[2:]...), entries(7)},
		{"two", full(2, 7, 3), taking(2, 7, 3), entries(7, 3)},
		{"two, down to slot 0", full(2, 7, 0), taking(2, 7, 0), entries(7, 0)},
		{"five", full(6, 200, 100, 50, last, 1), taking(6, 200, 100, 50, last, 1), entries(200, 100, 50, last, 1)},
	} {
		course{name: c.name, at: c.at, of: orphans.NewTake(), want: c.want, got: c.got}.held(t)
		course{name: c.name + ", beside all others", at: append(beside(), c.at...), of: orphans.NewTake(), want: c.want, got: c.got}.held(t)
	}
}

// P12.2: lines 1 and 2, of a WdOrphan of whatever bits.
func TestTakeOfWhatever(t *testing.T) {
	for _, w := range odd() {
		want, is := accesses{ld(headAt, w)}, []api.Entry(nil)
		if s := slotTold(w); s >= 0 {
			want, is = slices.Concat(want, accesses{cas(w, behind(w, none))}, reads(entry(s)), accesses{ld(linkAt(s), 0)}), entries(s)
		}
		all := said(entries(0, 1, 7, 254, last)...)
		course{name: "whatever", at: slices.Concat(beside(), all, []mems.Word{word(headAt, w)}), of: orphans.NewTake(), want: want, got: is}.held(t)
		course{name: "others store it", at: append(all, stack(5, 2)...), of: orphans.NewTake(), others: []meddling{{0, headAt, w}}, want: want, got: is}.held(t)
	}
}

// P12.2: lines 3 to 6: of a header its generation, of each state and of whatever bits; the other words as they are.
func TestTakeReads(t *testing.T) {
	words := []uint64{0, 1, 2, 3, 4, 5, 6, 7, 8, 9, 26, 1<<3 | 2, 1 << 31, 1 << 32, 1 << 34, 1<<34 + 4, 1<<35 - 1, 1 << 35, 1<<35 + 26, 1 << 36, 1 << 48, 1 << 63, 1<<63 + 34, maxWord - 7, maxWord - 1, maxWord}
	for i, h := range words {
		b, ep, er := words[(i+3)%len(words)], words[(i+7)%len(words)], words[(i+11)%len(words)]
		at := []mems.Word{word(headAt, hd(7, 4)), word(wordAt(7, header), h), word(wordAt(7, birth), b), word(wordAt(7, epoch), ep), word(wordAt(7, era), er), word(linkAt(7), hd(9, 3)), word(wordAt(9, header), er), word(wordAt(9, birth), h), word(wordAt(9, epoch), b), word(wordAt(9, era), ep)}
		want := accesses{ld(headAt, hd(7, 4)), cas(hd(7, 4), 5<<16), ld(wordAt(7, header), h), ld(wordAt(7, birth), b), ld(wordAt(7, epoch), ep), ld(wordAt(7, era), er), ld(linkAt(7), hd(9, 3)),
			ld(wordAt(9, header), er), ld(wordAt(9, birth), h), ld(wordAt(9, epoch), b), ld(wordAt(9, era), ep), ld(linkAt(9), 0)}
		is := []api.Entry{{Ref: api.Ref{Slot: 7, Gen: uint32(h >> 3)}, Birth: b, Epoch: ep, Era: er}, {Ref: api.Ref{Slot: 9, Gen: uint32(er >> 3)}, Birth: h, Epoch: b, Era: ep}}
		course{name: "words", at: at, of: orphans.NewTake(), want: want, got: is}.held(t)
	}
}

// P12.2: line 7, of links of whatever bits: a slot that may not be is none, and the tag does not count.
func TestTakeFollows(t *testing.T) {
	for _, w := range odd() {
		s := slotTold(w)
		if s == 7 {
			continue // that goes round
		}
		want, is := slices.Concat(accesses{ld(headAt, hd(7, 4)), cas(hd(7, 4), 5<<16)}, reads(entry(7)), accesses{ld(linkAt(7), w)}), entries(7)
		if s >= 0 {
			want, is = slices.Concat(want, reads(entry(s)), accesses{ld(linkAt(s), 77<<16)}), entries(7, s)
		}
		at := append(said(entries(0, 1, 7, 254, last)...), word(headAt, hd(7, 4)), word(linkAt(7), w))
		if s >= 0 {
			at = append(at, word(linkAt(s), 77<<16))
		}
		course{name: "a link", at: at, of: orphans.NewTake(), want: want, got: is}.held(t)
	}
}

// P12.2: each number of entries, up to all slots there are, in whatever order.
func TestTakeMany(t *testing.T) {
	x := numbers(1234567890123456789)
	for n := 1; n <= api.MaxSlots; n++ {
		slots := x.mixed(api.MaxSlots)[:n]
		want := taking(uint64(n), slots...)
		if len(want) != 5*n+2 {
			t.Fatalf("%d steps of %d", len(want), n)
		}
		course{name: "many", at: full(uint64(n), slots...), of: orphans.NewTake(), want: want, got: entries(slots...)}.held(t)
	}
}

// P12.2: a WdOrphan that others changed between its load and the CAS of it: line 1 again, and what stands there then is taken.
func TestTakeLooksAgain(t *testing.T) {
	at := append(said(entries(0, 1, 3, 7, 9, 254, last)...), word(headAt, hd(9, 4)), word(linkAt(9), hd(3, 6)))
	one := func(w uint64) (accesses, []api.Entry) { // lines 1 to 7 of whatever stands there; behind 9 is 3, behind all others none
		switch s := slotTold(w); s {
		case none:
			return accesses{ld(headAt, w)}, nil
		case 9:
			return slices.Concat(accesses{ld(headAt, w), cas(w, behind(w, none))}, reads(entry(9)), accesses{ld(linkAt(9), hd(3, 6))}, reads(entry(3)), accesses{ld(linkAt(3), 0)}), entries(9, 3)
		default:
			return slices.Concat(accesses{ld(headAt, w), cas(w, behind(w, none))}, reads(entry(s)), accesses{ld(linkAt(s), 0)}), entries(s)
		}
	}
	all, both := one(hd(9, 4))
	for _, w := range append(odd(), hd(9, 4), hd(9, 5), hd(9, 3), hd(9, maxTag), hd(3, 4), hd(3, 5)) {
		again, is := one(w)
		if again = slices.Concat(accesses{all[0], casNot(w)}, again); w == hd(9, 4) {
			again, is = all, both
		}
		course{name: "changed ahead of line 2", at: at, of: orphans.NewTake(), others: []meddling{{1, headAt, w}}, want: again, got: is}.held(t)
		course{name: "changed, and back", at: at, of: orphans.NewTake(), others: []meddling{{1, headAt, w}, {1, headAt, hd(9, 4)}}, want: all, got: both}.held(t)
		course{name: "changed behind line 2", at: at, of: orphans.NewTake(), others: []meddling{{2, headAt, w}, {5, headAt, w}}, want: all, got: both}.held(t)
		if w == hd(9, 4) {
			continue
		}
		start := accesses{all[0], casNot(w)}
		again, is = one(hd(7, 2))
		course{name: "changed twice", at: at, of: orphans.NewTake(), others: []meddling{{1, headAt, w}, {2, headAt, hd(7, 2)}}, want: slices.Concat(start, again), got: is}.held(t)
		course{name: "changed, and back behind line 2", at: at, of: orphans.NewTake(), others: []meddling{{1, headAt, w}, {2, headAt, hd(9, 4)}}, want: slices.Concat(start, all), got: both}.held(t)
		if w != hd(1, 8) && slotTold(w) >= 0 {
			again, is = one(5 << 16)
			thrice := slices.Concat(start, accesses{ld(headAt, w), casNot(hd(1, 8)), ld(headAt, hd(1, 8)), casNot(5 << 16)}, again)
			course{name: "changed thrice, down to none", at: at, of: orphans.NewTake(), others: []meddling{{1, headAt, w}, {3, headAt, hd(1, 8)}, {5, headAt, 5 << 16}}, want: thrice, got: is}.held(t)
		}
	}
}

// P12.2: of links that go round a Take ends with MaxSlots entries.
func TestGoesRound(t *testing.T) {
	for _, c := range []struct{ ahead, round int }{{0, 1}, {0, 2}, {0, 3}, {1, 1}, {2, 1}, {1, 2}, {5, 7}, {0, 128}, {100, 100}, {0, 255}, {0, 256}, {1, 255}, {255, 1}, {254, 2}, {128, 128}, {200, 1}} {
		x := numbers(2463534242)
		slots := x.mixed(api.MaxSlots)[:c.ahead+c.round]
		at := full(8, slots...)
		back, end := slots[c.ahead], slots[len(slots)-1]
		at = append(at, word(linkAt(end), hd(back, 5)))
		m := memory(at...)
		want := accesses{ld(headAt, at[0].Value), cas(at[0].Value, behind(at[0].Value, none))}
		var is []api.Entry
		for i := range api.MaxSlots {
			if i >= len(slots) {
				i = c.ahead + (i-c.ahead)%c.round
			}
			is = append(is, entry(slots[i]))
			want = append(append(want, reads(entry(slots[i]))...), ld(linkAt(slots[i]), m.Load(linkAt(slots[i]))))
		}
		course{name: "links that go round", at: at, of: orphans.NewTake(), want: want, got: is}.held(t)
	}
}

// P12.1, P12.2, R3: operations that are not there, or that no call made, are over, and got nothing.
func TestNotMade(t *testing.T) {
	var g orphans.Give
	var k orphans.Take
	for _, o := range []operation{(*orphans.Give)(nil), (*orphans.Take)(nil), &g, &k, new(orphans.Give), new(orphans.Take), &orphans.Give{}, &orphans.Take{}} {
		for _, m := range []*mems.Mem{mems.New(), memory(full(2, 7, 3)...), nil} {
			rests(t, "what no call made", o, m, nil)
		}
	}
}

// R3: of a memory that is not there each word is 0, and no CAS does: each step ends, and does what the lines say of that.
func TestNoMemory(t *testing.T) {
	var zero mems.Mem
	for _, m := range []*mems.Mem{nil, &zero} {
		missing := func(o operation, steps int) {
			t.Helper()
			for range steps {
				if goesOn(t, "no memory", o); o.Step(m) {
					t.Fatal("no memory: over")
				}
				goesOn(t, "no memory", o)
			}
		}
		k := orphans.NewTake()
		if goesOn(t, "no memory", k); !k.Step(m) {
			t.Error("a Take goes on")
		}
		rests(t, "no memory", k, m, nil)
		for n, slots := range [][]int{{7}, {7, 3}, {7, 3, 0}} {
			g := orphans.NewGive(entries(slots...))
			missing(g, n+3*300) // the chain, and lines 2 to 4 again each time
			is, end := memory(stack(2, 9)...), slots[n]
			step(t, "a Give that has a memory", g, is, 0, ld(headAt, hd(9, 2)), false)
			step(t, "a Give that has a memory", g, is, 1, st(linkAt(end), 0, 10), false)
			missing(g, 1+3*10) // line 4: no CAS does
			for i, a := range onto(hd(9, 2), 10, end, 7) {
				step(t, "a Give that has a memory again", g, is, i, a, i == 2)
			}
			rests(t, "a Give", g, is, nil)
		}
		g := orphans.NewGive(entries(7, 3))
		missing(g, 2)
		is := memory(stack(2, 9)...)
		step(t, "a Give that read none", g, is, 0, st(linkAt(3), 0, 0), false)
		step(t, "a Give that read none", g, is, 1, casNot(hd(9, 2)), false)
		if m.Steps() != 0 || m.Words() != nil {
			t.Errorf("%d steps, words %+v", m.Steps(), m.Words())
		}
		missingBetween(t, m)
	}
}

// missingBetween: a memory that goes, and comes again, while a Take is under way.
func missingBetween(t *testing.T, m *mems.Mem) {
	t.Helper()
	all := taking(2, 7, 3)
	for gone := 1; gone < len(all); gone++ {
		is := memory(full(2, 7, 3)...)
		k := orphans.NewTake()
		for i, a := range all[:gone] {
			step(t, "a Take", k, is, i, a, false)
		}
		ended, want := k.Step(m), entries(7, 3)
		field := all[gone].Addr.Field
		e := &want[(gone-2)/5]
		switch {
		case gone == 1: // no CAS does, and line 1 is next
			rest := taking(2, 7, 3)
			for i, a := range rest {
				step(t, "a Take that begins again", k, is, i, a, i == len(rest)-1)
			}
			rests(t, "a Take that begins again", k, is, entries(7, 3))
			continue
		case field == link:
			want = want[:(gone-2)/5+1]
		case field == header:
			e.Ref.Gen = 0
		case field == birth:
			e.Birth = 0
		case field == epoch:
			e.Epoch = 0
		default:
			e.Era = 0
		}
		if ended != (field == link) {
			t.Errorf("behind %d steps, and one of no memory, over is %v", gone, ended)
		}
		if !ended {
			for i, a := range all[gone+1:] {
				step(t, "a Take that has its memory again", k, is, gone+1+i, a, gone+1+i == len(all)-1)
			}
		}
		rests(t, "a Take that had no memory once", k, is, want)
	}
}

// P12.1, P12.2: each operation has its own place: steps of one do not take another one on.
func TestApart(t *testing.T) {
	m := memory(full(2, 9)...)
	g, h, k, l := orphans.NewGive(entries(7, 3)), orphans.NewGive(entries(5)), orphans.NewTake(), orphans.NewTake()
	for i, c := range []struct {
		of   operation
		want accesses
		over bool
	}{
		{g, accesses{st(linkAt(7), 0, 4), ld(headAt, hd(9, 2))}, false},
		{h, accesses{ld(headAt, hd(9, 2)), st(linkAt(5), 0, 10)}, false},
		{k, accesses{ld(headAt, hd(9, 2))}, false},
		{g, accesses{st(linkAt(3), 0, 10)}, false},
		{h, accesses{cas(hd(9, 2), hd(5, 3))}, true},
		{k, accesses{casNot(hd(5, 3)), ld(headAt, hd(5, 3))}, false},
		{l, accesses{ld(headAt, hd(5, 3)), cas(hd(5, 3), 4<<16)}, false},
		{g, accesses{casNot(4 << 16), ld(headAt, 4<<16)}, false},
		{k, accesses{casNot(4 << 16)}, false},
		{g, accesses{st(linkAt(3), 10, 0), cas(4<<16, hd(7, 5))}, true},
		{l, accesses{ld(wordAt(5, header), 0), ld(wordAt(5, birth), 0)}, false},
		{k, accesses{ld(headAt, hd(7, 5)), cas(hd(7, 5), 6<<16), ld(wordAt(7, header), 0)}, false},
		{l, append(accesses{ld(wordAt(5, epoch), 0), ld(wordAt(5, era), 0), ld(linkAt(5), 10)}, append(reads(entry(9)), ld(linkAt(9), 0))...), true},
		{k, accesses{ld(wordAt(7, birth), 0), ld(wordAt(7, epoch), 0), ld(wordAt(7, era), 0), ld(linkAt(7), 4), ld(wordAt(3, header), 0), ld(wordAt(3, birth), 0), ld(wordAt(3, epoch), 0), ld(wordAt(3, era), 0), ld(linkAt(3), 0)}, true},
	} {
		for n, a := range c.want {
			step(t, "apart", c.of, m, 100*i+n, a, c.over && n == len(c.want)-1)
		}
	}
	bare := func(slot int) api.Entry { return api.Entry{Ref: api.Ref{Slot: slot}} }
	rests(t, "g", g, m, nil)
	rests(t, "h", h, m, nil)
	rests(t, "k", k, m, []api.Entry{bare(7), bare(3)})
	rests(t, "l", l, m, []api.Entry{bare(5), entry(9)})
}
