package tables

import (
	"math"
	"slices"
	"testing"

	"ragpicker/api"
	"ragpicker/mems"
)

const (
	minInt  = math.MinInt
	maxInt  = math.MaxInt
	maxWord = uint64(math.MaxUint64)
	none    = -1
	isShut  = uint64(1) << 32 // of a block's word
)

// Words of a thread, told anew.
const (
	thOwner = 0
	thIn    = 1
	thStall = 6
	thLast  = 9 // the last hazard
)

// Where words stand, told anew.
var blocksAt = api.Addr{Kind: api.WdBlocks}

func wordAt(block int) api.Addr { return api.Addr{Kind: api.WdBlock, At: block} }
func threadAt(thread, field int) api.Addr {
	return api.Addr{Kind: api.WdThread, At: thread, Field: field}
}
func ownerAt(thread int) api.Addr { return threadAt(thread, thOwner) }

// bw: the word of a block, told anew: how many joined in bits 0 to 31, whether it is closed in bit 32.
func bw(joined uint64, closed bool) uint64 {
	if closed {
		return joined | isShut
	}
	return joined
}

// told: what such a word says.
func told(w uint64) (joined uint64, closed bool) { return w & 0xffffffff, w&isShut != 0 }

// open: is there room by such a word?
func open(w uint64) bool {
	joined, closed := told(w)
	return !closed && joined < 4
}

// fewer: such a word of one less.
func fewer(w uint64) uint64 {
	joined, closed := told(w)
	if joined > 0 {
		joined--
	}
	return bw(joined, closed)
}

// Accesses, as a memory tells them.
func ld(a api.Addr, v uint64) api.Access {
	return api.Access{Kind: api.AcLoad, Addr: a, Was: v, Is: v}
}

func st(a api.Addr, was, is uint64) api.Access {
	return api.Access{Kind: api.AcStore, Addr: a, Was: was, Is: is}
}

func cas(a api.Addr, was, is uint64) api.Access {
	return api.Access{Kind: api.AcCAS, Addr: a, Was: was, Is: is, Done: true}
}

func casNot(a api.Addr, v uint64) api.Access {
	return api.Access{Kind: api.AcCAS, Addr: a, Was: v, Is: v}
}

// accesses, one behind the other.
type accesses = []api.Access

// joined accesses.
func joined(l ...accesses) accesses { return slices.Concat(l...) }

// counted: those of lines 2 and 3 of a Join that nobody disturbs.
func counted(block int, w uint64) accesses {
	n, _ := told(w)
	return accesses{ld(wordAt(block), w), cas(wordAt(block), w, bw(n+1, false))}
}

// tried: those of line 4 of threads that these have, from the first thread of a block on.
func tried(block int, owners ...uint64) accesses {
	var l accesses
	for k, o := range owners {
		l = append(l, casNot(ownerAt(4*block+k), o))
	}
	return l
}

// taken: those of lines 4 and 5 of the thread that is got; its words are 0.
func taken(thread int, owner uint64) accesses {
	l := accesses{cas(ownerAt(thread), 0, owner+1)}
	for f := thIn; f <= thLast; f++ {
		l = append(l, st(threadAt(thread, f), 0, 0))
	}
	return l
}

// gaveUp: those of lines 6 and 7.
func gaveUp(block int, w uint64) accesses {
	return accesses{ld(wordAt(block), w), cas(wordAt(block), w, fewer(w))}
}

// left: those of a Leave of a thread that has this owner, this flag, and this word of its block.
func left(thread int, owner, flag, w uint64) accesses {
	return joined(accesses{ld(ownerAt(thread), owner), ld(threadAt(thread, thIn), 0), st(threadAt(thread, thStall), flag, 0), st(ownerAt(thread), owner, 0)}, gaveUp(thread/4, w))
}

// memory with these words.
func memory(l ...mems.Word) *mems.Mem {
	m := mems.New()
	for _, w := range l {
		m.Store(w.Addr, w.Value)
	}
	return m
}

func word(a api.Addr, v uint64) mems.Word { return mems.Word{Addr: a, Value: v} }

// table of so many blocks, each with this word, as far as there are such.
func table(blocks uint64, l ...uint64) []mems.Word {
	t := []mems.Word{word(blocksAt, blocks)}
	for i, w := range l {
		t = append(t, word(wordAt(i), w))
	}
	return t
}

// operation: what both of them are.
type operation interface {
	Step(m *mems.Mem) bool
	Over() bool
}

// end of an operation, as Got tells it; of a Leave the thread is none.
type end struct {
	thread int
	e      api.Errno
}

// ended: what an operation got.
func ended(o operation) end {
	switch o := o.(type) {
	case *Join:
		thread, e := o.Got()
		return end{thread, e}
	case *Leave:
		return end{none, o.Got()}
	}
	return end{}
}

// yet: what is told as long as it is not over.
var yet = end{none, api.OK}

// fails: an end with an error.
func fails(e api.Errno) end { return end{none, e} }

// numbers that always are the same ones.
type numbers uint64

// below a limit: the next one.
func (x *numbers) below(n int) int {
	*x ^= *x << 13
	*x ^= *x >> 7
	*x ^= *x << 17
	return int(uint64(*x) >> 33 % uint64(n))
}

// meddling of somebody else ahead of a step.
type meddling struct {
	ahead int // of which step, from 0 on
	at    api.Addr
	is    uint64
}

// course of an operation, step by step.
type course struct {
	name   string
	at     []mems.Word // at first
	of     operation
	others []meddling
	want   accesses
	got    end
}

// held: each step of it against its accesses, and all words behind it.
func (c course) held(t *testing.T) {
	t.Helper()
	m, other := memory(c.at...), memory(c.at...)
	if c.of.Over() || ended(c.of) != yet {
		t.Errorf("%s: ahead of all steps over is %v, got %v", c.name, c.of.Over(), ended(c.of))
	}
	for i, a := range c.want {
		for _, x := range c.others {
			if x.ahead == i {
				m.Store(x.at, x.is)
				other.Store(x.at, x.is)
			}
		}
		step(t, c.name, c.of, m, i, a, i == len(c.want)-1)
		other.Store(a.Addr, a.Is)
	}
	if !slices.Equal(m.Words(), other.Words()) {
		t.Errorf("%s: the words are %+v, want %+v", c.name, m.Words(), other.Words())
	}
	rests(t, c.name, c.of, m, c.got)
}

// step of an operation, held against the access and whether it is over.
func step(t *testing.T, name string, o operation, m *mems.Mem, i int, want api.Access, is bool) {
	t.Helper()
	steps := m.Steps()
	if o.Over() || ended(o) != yet {
		t.Errorf("%s: ahead of step %d over is %v, got %v", name, i+1, o.Over(), ended(o))
	}
	if got := o.Step(m); got != is || o.Over() != is {
		t.Errorf("%s: step %d answers %v, Over %v, want %v", name, i+1, got, o.Over(), is)
	}
	if m.Steps() != steps+1 {
		t.Fatalf("%s: step %d makes %d accesses", name, i+1, m.Steps()-steps)
	}
	if got := m.Last(); got != want {
		t.Fatalf("%s: step %d is %+v, want %+v", name, i+1, got, want)
	}
}

// rests: an operation that is over, and got that, takes no step any more, of whatever memory, and says so.
func rests(t *testing.T, name string, o operation, m *mems.Mem, got end) {
	t.Helper()
	var zero mems.Mem
	other := memory(table(4, 1, 2, 3, 4)...)
	other.Store(ownerAt(0), 5)
	for _, m := range []*mems.Mem{m, other, mems.New(), nil, &zero} {
		was, steps, access := m.Words(), m.Steps(), m.Last()
		for range 3 {
			if !o.Over() || ended(o) != got || !o.Step(m) || !o.Over() || ended(o) != got {
				t.Errorf("%s: over is %v, got %v, want %v", name, o.Over(), ended(o), got)
			}
		}
		if m.Steps() != steps || m.Last() != access || !slices.Equal(m.Words(), was) {
			t.Errorf("%s: takes steps when it is over", name)
		}
	}
}

// odd words, of whatever bits.
func odd() []uint64 {
	return []uint64{0, 1, 2, 3, 4, 5, 6, 7, 8, 9, 16, 255, 256, 65535, 65536, 1<<31 - 1, 1 << 31, 1<<32 - 4, 1<<32 - 1, 1 << 32, 1<<32 + 1, 1<<32 + 3, 1<<32 + 4, 1<<32 + 5, 1<<33 - 1, 1 << 33, 1<<33 + 1, 1<<33 + 3, 1<<33 + 4, 1<<34 + 2, 1<<34 + isShut, 1<<48 + 3, 1 << 63, 1<<63 + 1, 1<<63 + 3, 1<<63 + 4, 1<<63 + isShut + 2, maxWord - isShut, maxWord - isShut - 0xffffffff, maxWord - isShut - 0xfffffffc, maxWord - 0xffffffff, maxWord - 0xfffffffe, maxWord - 1, maxWord}
}

// P10.1, P10.2: chapter 10's examples.
func TestExamples(t *testing.T) {
	m := memory(table(1)...)
	run := func(o operation, steps int, want end) {
		t.Helper()
		n := 1
		for !o.Step(m) && n < 100 {
			n++
		}
		if n != steps || ended(o) != want {
			t.Errorf("%d steps, want %d; got %v, want %v", n, steps, ended(o), want)
		}
	}
	run(NewJoin(7), 13, end{0, api.OK})
	if w := m.Load(ownerAt(0)); w != 8 {
		t.Errorf("the owner is %d", w)
	}
	run(NewJoin(7), 14, end{1, api.OK})
	if m.Load(ownerAt(0)) != 8 || m.Load(ownerAt(1)) != 8 || m.Load(wordAt(0)) != 2 {
		t.Errorf("the words are %+v", m.Words())
	}
	run(NewLeave(0), 6, fails(api.OK))
	run(NewLeave(0), 1, fails(api.ErrNone))
	if m.Load(ownerAt(0)) != 0 || m.Load(ownerAt(1)) != 8 || m.Load(wordAt(0)) != 1 {
		t.Errorf("the words are %+v", m.Words())
	}
	m.Store(blocksAt, 0)
	run(NewJoin(7), 1, fails(api.ErrFull))
}

// P10.1: line 1, and how far line 2 goes: of no block, of each number of blocks, of more than may be, of whatever bits.
func TestJoinCountsBlocks(t *testing.T) {
	for _, b := range append(odd(), 10, 11, 12, 13, 14, 15, 17, 32) {
		have := int(min(b, 4))
		want := accesses{ld(blocksAt, b)}
		for i := range have {
			want = append(want, ld(wordAt(i), uint64(4+i)))
		}
		course{name: "all full", at: table(b, 4, 5, 6, 7), of: NewJoin(3), want: want, got: fails(api.ErrFull)}.held(t)
		want = accesses{ld(blocksAt, b)}
		for i := range have {
			want = append(want, ld(wordAt(i), bw(uint64(i), true)))
		}
		course{name: "all closed", at: table(b, bw(0, true), bw(1, true), bw(2, true), bw(3, true)), of: NewJoin(3), want: want, got: fails(api.ErrFull)}.held(t)
		for room := range 4 {
			l := []uint64{4, bw(0, true), 4, bw(2, true)}
			l[room] = 0
			want := accesses{ld(blocksAt, b)}
			for i := range min(room, have) {
				want = append(want, ld(wordAt(i), l[i]))
			}
			c := course{name: "one has room", at: table(b, l...), of: NewJoin(3), want: want, got: fails(api.ErrFull)}
			if room < have {
				c.want, c.got = joined(want, counted(room, 0), taken(4*room, 3)), end{4 * room, api.OK}
			}
			c.held(t)
		}
		// what comes behind line 1 does not count
		if have > 0 {
			c := course{name: "changed behind line 1", at: table(b, 4, 4, 4, 4), of: NewJoin(3), want: accesses{ld(blocksAt, b)}, got: fails(api.ErrFull)}
			for i := range have {
				c.others = append(c.others, meddling{i + 1, blocksAt, uint64(3 - i)})
				c.want = append(c.want, ld(wordAt(i), 4))
			}
			c.held(t)
		}
	}
	full := []uint64{4, 4, 4, 4}
	course{name: "more behind line 1", at: table(1, full...), of: NewJoin(3), others: []meddling{{1, blocksAt, 4}}, want: accesses{ld(blocksAt, 1), ld(wordAt(0), 4)}, got: fails(api.ErrFull)}.held(t)
	course{name: "some ahead of line 1", at: table(0, full...), of: NewJoin(3), others: []meddling{{0, blocksAt, 1}}, want: accesses{ld(blocksAt, 1), ld(wordAt(0), 4)}, got: fails(api.ErrFull)}.held(t)
	course{name: "none ahead of line 1", at: table(1, full...), of: NewJoin(3), others: []meddling{{0, blocksAt, 0}}, want: accesses{ld(blocksAt, 0)}, got: fails(api.ErrFull)}.held(t)
	course{name: "none behind line 1", at: table(1, 0), of: NewJoin(3), others: []meddling{{1, blocksAt, 0}}, want: joined(accesses{ld(blocksAt, 1)}, counted(0, 0), taken(0, 3)), got: end{0, api.OK}}.held(t)
}

// P10.1: lines 2 and 3 of each block, by its word of whatever bits: closed, full, or with room.
func TestJoinLooks(t *testing.T) {
	for block := range 4 {
		first := accesses{ld(blocksAt, 4)}
		for i := range block {
			first = append(first, ld(wordAt(i), 4))
		}
		for _, w := range odd() {
			l := []uint64{4, 4, 4, 4}
			l[block] = w
			c := course{name: "a block", at: table(4, l...), of: NewJoin(9)}
			if open(w) {
				c.want, c.got = joined(first, counted(block, w), taken(4*block, 9)), end{4 * block, api.OK}
			} else {
				c.want, c.got = joined(first, accesses{ld(wordAt(block), w)}), fails(api.ErrFull)
				for i := block + 1; i < 4; i++ {
					c.want = append(c.want, ld(wordAt(i), 4))
				}
			}
			c.held(t)
		}
	}
}

// P10.1: a block's word that others change ahead of line 2, or between it and line 3.
func TestJoinCountsAgain(t *testing.T) {
	b := wordAt(1)
	first := accesses{ld(blocksAt, 3), ld(wordAt(0), 4)}
	won := func(w uint64) accesses { return joined(counted(1, w), taken(4, 9)) }
	next := joined(counted(2, 1), taken(8, 9))
	for _, c := range []course{
		{name: "one more", others: []meddling{{3, b, 3}}, want: joined(accesses{ld(b, 2), casNot(b, 3)}, won(3)), got: end{4, api.OK}},
		{name: "one less", others: []meddling{{3, b, 1}}, want: joined(accesses{ld(b, 2), casNot(b, 1)}, won(1)), got: end{4, api.OK}},
		{name: "none any more", others: []meddling{{3, b, 0}}, want: joined(accesses{ld(b, 2), casNot(b, 0)}, won(0)), got: end{4, api.OK}},
		{name: "full", others: []meddling{{3, b, 4}}, want: joined(accesses{ld(b, 2), casNot(b, 4), ld(b, 4)}, next), got: end{8, api.OK}},
		{name: "more than full", others: []meddling{{3, b, maxWord - isShut}}, want: joined(accesses{ld(b, 2), casNot(b, maxWord-isShut), ld(b, maxWord-isShut)}, next), got: end{8, api.OK}},
		{name: "closed", others: []meddling{{3, b, bw(2, true)}}, want: joined(accesses{ld(b, 2), casNot(b, bw(2, true)), ld(b, bw(2, true))}, next), got: end{8, api.OK}},
		{name: "closed, and opened ahead of line 2", others: []meddling{{3, b, bw(2, true)}, {4, b, 2}}, want: joined(accesses{ld(b, 2), casNot(b, bw(2, true))}, won(2)), got: end{4, api.OK}},
		{name: "closed, and opened ahead of line 3", others: []meddling{{3, b, bw(2, true)}, {3, b, 2}}, want: won(2), got: end{4, api.OK}},
		{name: "one more, and one less ahead of line 3", others: []meddling{{3, b, 3}, {3, b, 2}}, want: won(2), got: end{4, api.OK}},
		{name: "another bit", others: []meddling{{3, b, 2 | 1<<63}}, want: joined(accesses{ld(b, 2), casNot(b, 2|1<<63)}, won(2|1<<63)), got: end{4, api.OK}},
		{name: "another bit ahead of line 2", others: []meddling{{2, b, 2 | 1<<33}}, want: won(2 | 1<<33), got: end{4, api.OK}},
		{name: "closed ahead of line 2", others: []meddling{{2, b, bw(2, true)}}, want: joined(accesses{ld(b, bw(2, true))}, next), got: end{8, api.OK}},
		{name: "full ahead of line 2", others: []meddling{{2, b, 4}}, want: joined(accesses{ld(b, 4)}, next), got: end{8, api.OK}},
		{name: "thrice", others: []meddling{{3, b, 1}, {5, b, 3}, {7, b, 0}}, want: joined(accesses{ld(b, 2), casNot(b, 1), ld(b, 1), casNot(b, 3), ld(b, 3), casNot(b, 0)}, won(0)), got: end{4, api.OK}},
		{name: "those ahead of it have room meanwhile", others: []meddling{{3, b, 3}, {3, wordAt(0), 0}}, want: joined(accesses{ld(b, 2), casNot(b, 3)}, won(3)), got: end{4, api.OK}},
		{name: "full, those ahead of it and behind it have room", others: []meddling{{3, b, 4}, {3, wordAt(0), 0}}, want: joined(accesses{ld(b, 2), casNot(b, 4), ld(b, 4)}, next), got: end{8, api.OK}},
		{name: "full, those behind it too", others: []meddling{{3, b, 4}, {4, wordAt(0), 0}, {5, wordAt(2), 4}}, want: accesses{ld(b, 2), casNot(b, 4), ld(b, 4), ld(wordAt(2), 4)}, got: fails(api.ErrFull)},
		{name: "full, but others leave behind line 2", others: []meddling{{2, b, 4}, {3, b, 3}}, want: joined(accesses{ld(b, 4)}, next), got: end{8, api.OK}},
		{name: "counted by others behind line 3", others: []meddling{{4, b, 4}, {5, b, bw(0, true)}}, want: won(2), got: end{4, api.OK}},
		{name: "the next one, too", others: []meddling{{3, b, 4}, {6, wordAt(2), 2}}, want: joined(accesses{ld(b, 2), casNot(b, 4), ld(b, 4), ld(wordAt(2), 1), casNot(wordAt(2), 2)}, counted(2, 2), taken(8, 9)), got: end{8, api.OK}},
	} {
		c.at, c.of, c.want = table(3, 4, 2, 1), NewJoin(9), joined(first, c.want)
		c.held(t)
	}
	for _, v := range odd() {
		for _, w := range odd() {
			if !open(v) {
				continue
			}
			c := course{name: "of whatever bits", at: table(1, v), of: NewJoin(9), others: []meddling{{2, wordAt(0), w}}, got: end{0, api.OK}}
			switch n, _ := told(v); {
			case v == w:
				c.want = joined(accesses{ld(blocksAt, 1), ld(wordAt(0), v), cas(wordAt(0), v, bw(n+1, false))}, taken(0, 9))
			case open(w):
				c.want = joined(accesses{ld(blocksAt, 1), ld(wordAt(0), v), casNot(wordAt(0), w)}, counted(0, w), taken(0, 9))
			default:
				c.want, c.got = accesses{ld(blocksAt, 1), ld(wordAt(0), v), casNot(wordAt(0), w), ld(wordAt(0), w)}, fails(api.ErrFull)
			}
			c.held(t)
		}
	}
}

// P10.1: line 4 tries the threads of its block, one behind the other, whichever of them have an owner; lines 6 and 7, if all have one.
func TestJoinTries(t *testing.T) {
	for block := range 4 {
		for has := range 16 {
			for _, n := range []uint64{0, 3} { // whatever the count says
				full := []uint64{4, 4, 4, 4}
				full[block] = n
				at := table(4, full...)
				for thread := range api.MaxThreads { // those of other blocks have none
					if k := thread - 4*block; k >= 0 && k < 4 && has>>k&1 == 1 {
						at = append(at, word(ownerAt(thread), uint64(100+k)))
					}
				}
				want := accesses{ld(blocksAt, 4)}
				for i := range block {
					want = append(want, ld(wordAt(i), 4))
				}
				want = joined(want, counted(block, n))
				k := 0
				for ; has>>k&1 == 1; k++ {
					want = append(want, casNot(ownerAt(4*block+k), uint64(100+k)))
				}
				c := course{name: "a block's threads", at: at, of: NewJoin(50), want: joined(want, gaveUp(block, n+1)), got: fails(api.ErrBusy)}
				if k < 4 {
					c.want, c.got = joined(want, taken(4*block+k, 50)), end{4*block + k, api.OK}
				}
				c.held(t)
			}
		}
	}
	o := func(k int) api.Addr { return ownerAt(k) }
	first := joined(accesses{ld(blocksAt, 1)}, counted(0, 0))
	for _, c := range []course{
		{name: "left behind the try", others: []meddling{{4, o(0), 0}}, want: joined(tried(0, 8, 9), taken(2, 1)), got: end{2, api.OK}},
		{name: "left ahead of the try", others: []meddling{{4, o(1), 0}}, want: joined(tried(0, 8), taken(1, 1)), got: end{1, api.OK}},
		{name: "joined ahead of the try", others: []meddling{{5, o(2), 6}}, want: joined(tried(0, 8, 9, 6), taken(3, 1)), got: end{3, api.OK}},
		{name: "joined ahead of the last try", others: []meddling{{5, o(2), 6}, {6, o(3), 7}}, want: joined(tried(0, 8, 9, 6, 7), gaveUp(0, 1)), got: fails(api.ErrBusy)},
		{name: "all but those that were tried left", others: []meddling{{4, o(2), 6}, {4, o(3), 7}, {6, o(0), 0}, {6, o(1), 0}}, want: joined(tried(0, 8, 9, 6, 7), gaveUp(0, 1)), got: fails(api.ErrBusy)},
		{name: "all left behind the last try", others: []meddling{{4, o(2), 6}, {4, o(3), 7}, {7, o(0), 0}, {7, o(1), 0}, {7, o(2), 0}, {7, o(3), 0}}, want: joined(tried(0, 8, 9, 6, 7), gaveUp(0, 1)), got: fails(api.ErrBusy)},
		{name: "taken from it behind line 4", others: []meddling{{6, o(2), 77}, {9, o(2), 0}}, want: joined(tried(0, 8, 9), taken(2, 1)), got: end{2, api.OK}},
	} {
		c.at, c.of, c.want = append(table(1), word(o(0), 8), word(o(1), 9)), NewJoin(1), joined(first, c.want)
		c.held(t)
	}
	for _, w := range odd() { // owners of whatever bits, its own one too
		c := course{name: "an owner", at: append(table(1), word(o(0), w)), of: NewJoin(6), want: joined(first, tried(0, w), taken(1, 6)), got: end{1, api.OK}}
		if w == 0 {
			c.want, c.got = joined(first, taken(0, 6)), end{0, api.OK}
		}
		c.held(t)
	}
}

// P10.1: line 5 clears these words of the thread, whatever stood there, and no other word of any thread, or any other word at all.
func TestJoinWipes(t *testing.T) {
	for thread := range api.MaxThreads {
		block := thread / 4
		for _, v := range []uint64{1, 5, 1 << 63, maxWord} {
			full := []uint64{4, 4, 4, 4}
			full[block] = 1
			at := append(table(4, full...), word(api.Addr{Kind: api.WdEpoch}, v), word(api.Addr{Kind: api.WdEra}, v), word(api.Addr{Kind: api.WdPhase}, v), word(api.Addr{Kind: api.WdSeg}, v), word(api.Addr{Kind: api.WdSlot}, v))
			for other := range api.MaxThreads {
				for f := thIn; f <= thLast; f++ {
					at = append(at, word(threadAt(other, f), v-uint64(f)))
				}
				if other != thread {
					at = append(at, word(ownerAt(other), v))
				}
			}
			want := accesses{ld(blocksAt, 4)}
			for i := range block {
				want = append(want, ld(wordAt(i), 4))
			}
			want = joined(want, counted(block, 1))
			for k := range thread % 4 {
				want = append(want, casNot(ownerAt(4*block+k), v))
			}
			want = append(want, cas(ownerAt(thread), 0, 31))
			c := course{name: "wiped", at: at, of: NewJoin(30), got: end{thread, api.OK}}
			for f := thIn; f <= thLast; f++ {
				want = append(want, st(threadAt(thread, f), v-uint64(f), 0))
			}
			c.want = want
			c.held(t)
		}
	}
	// each of them on its own, stored by others ahead of its line, or behind it
	for f := thIn; f <= thLast; f++ {
		line := 3 + f
		want := joined(accesses{ld(blocksAt, 1)}, counted(0, 0), taken(0, 2))
		want[line] = st(threadAt(0, f), 6, 0)
		course{name: "ahead of its line", at: table(1), of: NewJoin(2), others: []meddling{{line, threadAt(0, f), 6}}, want: want, got: end{0, api.OK}}.held(t)
		if f < thLast {
			want := joined(accesses{ld(blocksAt, 1)}, counted(0, 0), taken(0, 2))
			course{name: "behind its line", at: table(1), of: NewJoin(2), others: []meddling{{line + 1, threadAt(0, f), 6}}, want: want, got: end{0, api.OK}}.held(t)
		}
	}
}

// downs: how lines 6 and 7 of a Join, or 5 and 6 of a Leave, go of a block's word that others change: ahead of the first one it is 2.
func downs(block int) []course {
	b := wordAt(block)
	l := []course{
		{name: "nobody else", want: accesses{ld(b, 2), cas(b, 2, 1)}},
		{name: "one more by others", others: []meddling{{1, b, 3}}, want: joined(accesses{ld(b, 2), casNot(b, 3)}, gaveUp(block, 3))},
		{name: "one less by others", others: []meddling{{1, b, 1}}, want: joined(accesses{ld(b, 2), casNot(b, 1)}, gaveUp(block, 1))},
		{name: "none by others", others: []meddling{{1, b, 0}}, want: accesses{ld(b, 2), casNot(b, 0), ld(b, 0), cas(b, 0, 0)}},
		{name: "none by others, closed", others: []meddling{{1, b, isShut}}, want: accesses{ld(b, 2), casNot(b, isShut), ld(b, isShut), cas(b, isShut, isShut)}},
		{name: "closed by others", others: []meddling{{1, b, bw(2, true)}}, want: accesses{ld(b, 2), casNot(b, bw(2, true)), ld(b, bw(2, true)), cas(b, bw(2, true), bw(1, true))}},
		{name: "changed, and back", others: []meddling{{1, b, 3}, {1, b, 2}}, want: accesses{ld(b, 2), cas(b, 2, 1)}},
		{name: "changed behind the CAS that did not", others: []meddling{{1, b, 3}, {2, b, 4}}, want: joined(accesses{ld(b, 2), casNot(b, 3)}, gaveUp(block, 4))},
		{name: "thrice", others: []meddling{{1, b, 3}, {3, b, 1}, {5, b, 2}}, want: joined(accesses{ld(b, 2), casNot(b, 3), ld(b, 3), casNot(b, 1), ld(b, 1), casNot(b, 2)}, gaveUp(block, 2))},
		{name: "another bit by others", others: []meddling{{1, b, 2 | 1<<63}}, want: accesses{ld(b, 2), casNot(b, 2|1<<63), ld(b, 2|1<<63), cas(b, 2|1<<63, 1)}},
	}
	for _, w := range odd() {
		l = append(l, course{name: "of whatever bits", others: []meddling{{0, b, w}}, want: gaveUp(block, w)})
		for _, v := range odd() {
			c := course{name: "of whatever bits, changed", others: []meddling{{0, b, w}, {1, b, v}}, want: joined(accesses{ld(b, w), casNot(b, v)}, gaveUp(block, v))}
			if v == w {
				c.want = gaveUp(block, w)
			}
			l = append(l, c)
		}
	}
	return l
}

// behind so many steps: a course that goes on behind others' accesses.
func (c course) behind(first accesses) course {
	c.want = joined(first, c.want)
	c.others = slices.Clone(c.others)
	for i := range c.others {
		c.others[i].ahead += len(first)
	}
	return c
}

// P10.1: lines 6 and 7, of a block all of whose threads have an owner, though its count says that there is room.
func TestJoinGivesUp(t *testing.T) {
	for block := range 4 {
		first := accesses{ld(blocksAt, 4)}
		full := []uint64{4, 4, 4, 4}
		full[block] = 1
		at := table(4, full...)
		for i := range block {
			first = append(first, ld(wordAt(i), 4))
		}
		for k := range 4 {
			at = append(at, word(ownerAt(4*block+k), 5))
		}
		first = joined(first, counted(block, 1), tried(block, 5, 5, 5, 5))
		for _, c := range downs(block) {
			c = c.behind(first)
			c.at, c.of, c.got = at, NewJoin(8), fails(api.ErrBusy)
			c.held(t)
		}
	}
}

// P10.2: lines 1 to 4 of a Leave, by each way that they take.
func TestLeaveLines(t *testing.T) {
	for thread := range api.MaxThreads {
		block := thread / 4
		o, in, flag := ownerAt(thread), threadAt(thread, thIn), threadAt(thread, thStall)
		at := []mems.Word{word(wordAt(block), 2)}
		for other := range api.MaxThreads {
			for f := range thLast + 1 {
				if other != thread || f != thOwner && f != thIn && f != thStall {
					at = append(at, word(threadAt(other, f), uint64(40+f)))
				}
			}
		}
		whole := left(thread, 8, 0, 2)
		for _, c := range []course{
			{name: "joined", at: []mems.Word{word(o, 8)}, want: whole},
			{name: "flagged", at: []mems.Word{word(o, 8), word(flag, 3)}, want: left(thread, 8, 3, 2)},
			{name: "flagged by the greatest number", at: []mems.Word{word(o, 8), word(flag, maxWord)}, want: left(thread, 8, maxWord, 2)},
			{name: "nobody's", want: accesses{ld(o, 0)}, got: fails(api.ErrNone)},
			{name: "nobody's, in a guard", at: []mems.Word{word(in, 1)}, want: accesses{ld(o, 0)}, got: fails(api.ErrNone)},
			{name: "nobody's, flagged", at: []mems.Word{word(flag, 3)}, want: accesses{ld(o, 0)}, got: fails(api.ErrNone)},
			{name: "in a guard", at: []mems.Word{word(o, 8), word(in, 1)}, want: accesses{ld(o, 8), ld(in, 1)}, got: fails(api.ErrState)},
			{name: "in a guard, flagged", at: []mems.Word{word(o, 8), word(in, 1), word(flag, 3)}, want: accesses{ld(o, 8), ld(in, 1)}, got: fails(api.ErrState)},
			{name: "left ahead of line 1", at: []mems.Word{word(o, 8)}, others: []meddling{{0, o, 0}}, want: accesses{ld(o, 0)}, got: fails(api.ErrNone)},
			{name: "joined ahead of line 1", others: []meddling{{0, o, 8}}, want: whole},
			{name: "left behind line 1", at: []mems.Word{word(o, 8)}, others: []meddling{{1, o, 0}}, want: joined(whole[:3], accesses{st(o, 0, 0)}, whole[4:])},
			{name: "another one's behind line 1", at: []mems.Word{word(o, 8)}, others: []meddling{{1, o, 9}}, want: joined(whole[:3], accesses{st(o, 9, 0)}, whole[4:])},
			{name: "in a guard behind line 1", at: []mems.Word{word(o, 8)}, others: []meddling{{1, in, 1}}, want: accesses{ld(o, 8), ld(in, 1)}, got: fails(api.ErrState)},
			{name: "in no guard behind line 1", at: []mems.Word{word(o, 8), word(in, 1)}, others: []meddling{{1, in, 0}}, want: whole},
			{name: "in a guard behind line 2", at: []mems.Word{word(o, 8)}, others: []meddling{{2, in, 1}}, want: whole},
			{name: "flagged behind line 1", at: []mems.Word{word(o, 8)}, others: []meddling{{1, flag, 7}}, want: left(thread, 8, 7, 2)},
			{name: "flagged behind line 3", at: []mems.Word{word(o, 8)}, others: []meddling{{3, flag, 7}}, want: whole},
			{name: "joined again behind line 4", at: []mems.Word{word(o, 8)}, others: []meddling{{4, o, 11}, {4, wordAt(block), 3}}, want: joined(whole[:4], gaveUp(block, 3))},
			{name: "its block closes", at: []mems.Word{word(o, 8)}, others: []meddling{{4, wordAt(block), bw(2, true)}}, want: joined(whole[:4], gaveUp(block, bw(2, true)))},
			{name: "no blocks at all", at: []mems.Word{word(o, 8), word(blocksAt, 0)}, want: whole},
			{name: "all blocks", at: []mems.Word{word(o, 8), word(blocksAt, 4)}, want: whole},
		} {
			if c.got.thread == 0 {
				c.got = fails(api.OK)
			}
			c.at, c.of = append(slices.Clone(at), c.at...), NewLeave(thread)
			c.held(t)
		}
		for _, w := range odd() {
			c := course{name: "an owner of whatever bits", at: append(slices.Clone(at), word(o, w)), of: NewLeave(thread), want: left(thread, w, 0, 2), got: fails(api.OK)}
			if w == 0 {
				c.want, c.got = accesses{ld(o, 0)}, fails(api.ErrNone)
			}
			c.held(t)
			c = course{name: "in, of whatever bits", at: append(slices.Clone(at), word(o, 8), word(in, w)), of: NewLeave(thread), want: accesses{ld(o, 8), ld(in, w)}, got: fails(api.ErrState)}
			if w == 0 {
				c.want, c.got = whole, fails(api.OK)
			}
			c.held(t)
			course{name: "a flag of whatever bits", at: append(slices.Clone(at), word(o, 8), word(flag, w)), of: NewLeave(thread), want: left(thread, 8, w, 2), got: fails(api.OK)}.held(t)
		}
	}
}

// P10.2: lines 5 and 6.
func TestLeaveCountsDown(t *testing.T) {
	for _, thread := range []int{0, 3, 4, 6, 11, 12, 15} {
		at := []mems.Word{word(ownerAt(thread), 8), word(wordAt(thread/4), 2)}
		for _, c := range downs(thread / 4) {
			c = c.behind(left(thread, 8, 0, 2)[:4])
			c.at, c.of, c.got = at, NewLeave(thread), fails(api.OK)
			c.held(t)
		}
	}
}

// P10.1: owners that may be, each with its word, and those below 0, of which it is over, ErrArg.
func TestOwners(t *testing.T) {
	for _, owner := range []int{0, 1, 7, 15, 16, 255, 256, 1<<31 - 1, 1 << 31, 1<<32 - 1, 1 << 32, 1 << 62, maxInt - 1, maxInt} {
		course{name: "an owner", at: table(1), of: NewJoin(owner), want: joined(accesses{ld(blocksAt, 1)}, counted(0, 0), taken(0, uint64(owner))), got: end{0, api.OK}}.held(t)
	}
	for _, owner := range []int{-1, -2, -8, -1 << 31, -1 << 32, minInt + 1, minInt} {
		for _, m := range []*mems.Mem{mems.New(), memory(table(1)...), memory(table(4, 4, 4, 4, 4)...), nil} {
			j := NewJoin(owner)
			if j == nil {
				t.Fatalf("of %d: nothing", owner)
			}
			rests(t, "of no owner", j, m, fails(api.ErrArg))
		}
	}
}

// P10.2: of what is no thread it is over, ErrArg.
func TestNoThread(t *testing.T) {
	at := table(4, 1, 1, 1, 1)
	for thread := range api.MaxThreads {
		at = append(at, word(ownerAt(thread), 8))
	}
	for _, thread := range []int{-1, -2, -4, -16, minInt, minInt + 1, 16, 17, 19, 20, 31, 32, 64, 1 << 31, 1 << 32, 1<<32 + 3, 1 << 62, maxInt - 1, maxInt} {
		for _, m := range []*mems.Mem{mems.New(), memory(at...), nil} {
			l := NewLeave(thread)
			if l == nil {
				t.Fatalf("of %d: nothing", thread)
			}
			rests(t, "of no thread", l, m, fails(api.ErrArg))
		}
	}
	for _, thread := range []int{0, api.MaxThreads - 1} {
		course{name: "a thread", at: at, of: NewLeave(thread), want: left(thread, 8, 0, 1), got: fails(api.OK)}.held(t)
	}
}

// P10.1, P10.2, R3: operations that are not there, or that no call made, are over, and got nothing.
func TestNotMade(t *testing.T) {
	var j Join
	var l Leave
	for _, o := range []operation{(*Join)(nil), (*Leave)(nil), &j, &l, new(Join), new(Leave)} {
		for _, m := range []*mems.Mem{mems.New(), memory(table(1)...), memory(word(ownerAt(0), 8), word(wordAt(0), 1)), nil} {
			rests(t, "what no call made", o, m, yet)
		}
	}
}

// R3: of a memory that is not there each word is 0, and no CAS does: each call ends, and answers what the lines say of that.
func TestNoMemory(t *testing.T) {
	var zero mems.Mem
	for _, m := range []*mems.Mem{nil, &zero} {
		j := NewJoin(3)
		if j.Over() || ended(j) != yet || !j.Step(m) {
			t.Error("a Join goes on")
		}
		rests(t, "Join", j, m, fails(api.ErrFull))
		l := NewLeave(3)
		if l.Over() || ended(l) != yet || !l.Step(m) {
			t.Error("a Leave goes on")
		}
		rests(t, "Leave", l, m, fails(api.ErrNone))
		// one that goes, and comes again, between: the lines go on
		missing := func(o operation, steps int) {
			t.Helper()
			for range steps {
				if o.Step(m) || o.Over() || ended(o) != yet {
					t.Fatal("over")
				}
			}
		}
		is := memory(append(table(2, 3), word(ownerAt(1), 6), word(ownerAt(2), 7), word(threadAt(3, thIn), 1), word(threadAt(3, thLast), 5))...)
		j = NewJoin(9)
		step(t, "Join", j, is, 0, ld(blocksAt, 2), false)
		missing(j, 2*50) // lines 2 and 3
		step(t, "Join", j, is, 1, ld(wordAt(0), 3), false)
		step(t, "Join", j, is, 2, cas(wordAt(0), 3, 4), false)
		missing(j, 3) // line 4: no CAS does
		step(t, "Join", j, is, 3, cas(ownerAt(3), 0, 10), false)
		missing(j, 8) // line 5: nothing is stored
		step(t, "Join", j, is, 4, st(threadAt(3, thLast), 5, 0), true)
		rests(t, "Join", j, is, end{3, api.OK})
		j = NewJoin(9)
		step(t, "Join", j, is, 0, ld(blocksAt, 2), false)
		step(t, "Join", j, is, 1, ld(wordAt(0), 4), false)
		missing(j, 1)                                          // block 1, of nobody
		step(t, "Join", j, is, 2, cas(wordAt(1), 0, 1), false) // as it was read
		missing(j, 4)                                          // line 4, of all threads
		missing(j, 2*50)                                       // lines 6 and 7
		step(t, "Join", j, is, 3, ld(wordAt(1), 1), false)
		step(t, "Join", j, is, 4, cas(wordAt(1), 1, 0), true)
		rests(t, "Join", j, is, fails(api.ErrBusy))
		l = NewLeave(1)
		step(t, "Leave", l, is, 0, ld(ownerAt(1), 6), false)
		missing(l, 3+2*50)
		step(t, "Leave", l, is, 1, ld(wordAt(0), 4), false)
		step(t, "Leave", l, is, 2, cas(wordAt(0), 4, 3), true)
		rests(t, "Leave", l, is, fails(api.OK))
		if w := is.Load(ownerAt(1)); w != 6 {
			t.Errorf("the owner is %d", w)
		}
	}
}

// P10.1, P10.2: each operation has its own place: steps of one do not take another one on.
func TestApart(t *testing.T) {
	m := memory(append(table(2, 2), word(ownerAt(0), 21), word(ownerAt(1), 22))...)
	p, q, r, s := NewJoin(3), NewJoin(4), NewLeave(0), NewJoin(5)
	for i, c := range []struct {
		of   operation
		want accesses
		over bool
	}{
		{p, accesses{ld(blocksAt, 2), ld(wordAt(0), 2)}, false},
		{q, accesses{ld(blocksAt, 2), ld(wordAt(0), 2), cas(wordAt(0), 2, 3), casNot(ownerAt(0), 21)}, false},
		{p, accesses{casNot(wordAt(0), 3), ld(wordAt(0), 3)}, false},
		{r, accesses{ld(ownerAt(0), 21), ld(threadAt(0, thIn), 0), st(threadAt(0, thStall), 0, 0), st(ownerAt(0), 21, 0), ld(wordAt(0), 3)}, false},
		{p, accesses{cas(wordAt(0), 3, 4)}, false},
		{s, accesses{ld(blocksAt, 2), ld(wordAt(0), 4), ld(wordAt(1), 0)}, false},
		{r, accesses{casNot(wordAt(0), 4)}, false},
		{q, joined(tried(0, 0, 22)[1:], taken(2, 4)[:4]), false},
		{p, taken(0, 3)[:2], false},
		{r, gaveUp(0, 4), true},
		{s, joined(accesses{cas(wordAt(1), 0, 1)}, taken(4, 5)), true},
		{q, taken(2, 4)[4:], true},
		{p, taken(0, 3)[2:], true},
	} {
		for k, a := range c.want {
			step(t, "apart", c.of, m, 100*i+k, a, c.over && k == len(c.want)-1)
		}
	}
	rests(t, "p", p, m, end{0, api.OK})
	rests(t, "q", q, m, end{2, api.OK})
	rests(t, "r", r, m, fails(api.OK))
	rests(t, "s", s, m, end{4, api.OK})
}
