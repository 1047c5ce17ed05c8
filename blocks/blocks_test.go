package blocks

import (
	"math"
	"slices"
	"testing"

	"ragpicker/api"
	"ragpicker/mems"
)

const (
	maxWord = uint64(math.MaxUint64)
	isShut  = uint64(1) << 32 // of a block's word
)

// Where words stand, told anew.
var blocksAt = api.Addr{Kind: api.WdBlocks}

func wordAt(block int) api.Addr { return api.Addr{Kind: api.WdBlock, At: block} }

// bw: the word of a block, told anew: how many joined in bits 0 to 31, whether it is closed in bit 32.
func bw(joined uint64, closed bool) uint64 {
	if closed {
		return joined | isShut
	}
	return joined
}

// Accesses, as a memory tells them.
func ld(a api.Addr, v uint64) api.Access {
	return api.Access{Kind: api.AcLoad, Addr: a, Was: v, Is: v}
}

func cas(a api.Addr, was, is uint64) api.Access {
	return api.Access{Kind: api.AcCAS, Addr: a, Was: was, Is: is, Done: true}
}

func casNot(a api.Addr, v uint64) api.Access {
	return api.Access{Kind: api.AcCAS, Addr: a, Was: v, Is: v}
}

// tried: a CAS of a word that is v.
func tried(a api.Addr, v, was, is uint64) api.Access {
	if v != was {
		return casNot(a, v)
	}
	return cas(a, was, is)
}

// shutting of a block that has this word, and opening.
func shutting(block int, w uint64) api.Access { return tried(wordAt(block), w, 0, isShut) }
func opening(block int, w uint64) api.Access  { return tried(wordAt(block), w, isShut, 0) }

// accesses, one behind the other.
type accesses = []api.Access

// came: those of a More that nobody disturbs, from so many blocks on; the word of the one that comes is w.
func came(b, w uint64) accesses {
	return accesses{ld(blocksAt, b), cas(blocksAt, b, b+1), opening(int(b), w)}
}

// went: those of a Less that nobody disturbs, from so many blocks on.
func went(b uint64) accesses {
	return accesses{ld(blocksAt, b), cas(wordAt(int(b)-1), 0, isShut), cas(blocksAt, b, b-1)}
}

// more: those of a More, and its end, from whatever number of blocks on; w are the words of those blocks that may be.
func more(b uint64, w [api.MaxBlocks]uint64) (accesses, api.Errno) {
	if b >= api.MaxBlocks {
		return accesses{ld(blocksAt, b)}, api.ErrFull
	}
	return came(b, w[b]), api.OK
}

// memory with these words.
func memory(l ...mems.Word) *mems.Mem {
	m := mems.New()
	for _, w := range l {
		m.Store(w.Addr, w.Value)
	}
	return m
}

func word(a api.Addr, v uint64) mems.Word { return mems.Word{Addr: a, Value: v} }

// table of so many blocks, that have these words.
func table(b uint64, w [api.MaxBlocks]uint64) []mems.Word {
	l := []mems.Word{word(blocksAt, b)}
	for i, v := range w {
		l = append(l, word(wordAt(i), v))
	}
	return l
}

// crowd: words of blocks that some joined, all unlike, but of one of them.
func crowd(block int, w uint64) [api.MaxBlocks]uint64 {
	l := [api.MaxBlocks]uint64{3, bw(1, true), 2, bw(4, true)}
	l[block] = w
	return l
}

// beside: words of all kinds that neither operation is to look at, or to change.
func beside() []mems.Word {
	l := []mems.Word{
		word(api.Addr{Kind: api.WdFree}, 3), word(api.Addr{Kind: api.WdEpoch}, 5), word(api.Addr{Kind: api.WdEra}, 6), word(api.Addr{Kind: api.WdPhase}, 7), word(api.Addr{Kind: api.WdOrphan}, 8),
		word(api.Addr{Kind: api.WdSeg}, api.SegMapped), word(api.Addr{Kind: api.WdSlot}, 9), word(api.Addr{Kind: api.WdList}, 10), word(api.Addr{Kind: api.WdQueue}, 11),
	}
	for thread := range api.MaxThreads {
		for f := range api.ThHaz + api.Hazards {
			l = append(l, word(api.Addr{Kind: api.WdThread, At: thread, Field: f}, uint64(100+f)))
		}
	}
	return l
}

// operation: what both of them are.
type operation interface {
	Step(m *mems.Mem) bool
	Over() bool
	Got() api.Errno
}

// numbers that always are the same ones.
type numbers uint64

// below a limit: the next one.
func (x *numbers) below(n int) int {
	*x ^= *x << 13
	*x ^= *x >> 7
	*x ^= *x << 17
	return int(uint64(*x) >> 33 % uint64(n))
}

// meddling of somebody else ahead of a step.
type meddling struct {
	ahead int // of which step, from 0 on
	at    api.Addr
	is    uint64
}

// course of an operation, step by step.
type course struct {
	name   string
	at     []mems.Word // at first
	of     operation
	others []meddling
	want   accesses
	got    api.Errno
}

// held: each step of it against its accesses, and all words behind it.
func (c course) held(t *testing.T) {
	t.Helper()
	m, other := memory(c.at...), memory(c.at...)
	for i, a := range c.want {
		for _, x := range c.others {
			if x.ahead == i {
				m.Store(x.at, x.is)
				other.Store(x.at, x.is)
			}
		}
		step(t, c.name, c.of, m, i, a, i == len(c.want)-1)
		other.Store(a.Addr, a.Is)
	}
	if !slices.Equal(m.Words(), other.Words()) {
		t.Errorf("%s: the words are %+v, want %+v", c.name, m.Words(), other.Words())
	}
	rests(t, c.name, c.of, m, c.got)
}

// step of an operation, held against the access and whether it is over.
func step(t *testing.T, name string, o operation, m *mems.Mem, i int, want api.Access, is bool) {
	t.Helper()
	steps := m.Steps()
	goesOn(t, name, o)
	if got := o.Step(m); got != is || o.Over() != is {
		t.Errorf("%s: step %d answers %v, Over %v, want %v", name, i+1, got, o.Over(), is)
	}
	if m.Steps() != steps+1 {
		t.Fatalf("%s: step %d makes %d accesses", name, i+1, m.Steps()-steps)
	}
	if got := m.Last(); got != want {
		t.Fatalf("%s: step %d is %+v, want %+v", name, i+1, got, want)
	}
}

// goesOn: an operation is not over, and tells no error.
func goesOn(t *testing.T, name string, o operation) {
	t.Helper()
	if o.Over() || o.Got() != api.OK {
		t.Fatalf("%s: ahead of its end over is %v, got %d", name, o.Over(), o.Got())
	}
}

// rests: an operation that is over, and got that, takes no step any more, of whatever memory, and says so.
func rests(t *testing.T, name string, o operation, m *mems.Mem, got api.Errno) {
	t.Helper()
	var zero mems.Mem
	for _, m := range []*mems.Mem{m, memory(table(2, [4]uint64{})...), memory(table(3, [4]uint64{isShut, isShut, isShut, isShut})...), mems.New(), nil, &zero} {
		was, steps, access := m.Words(), m.Steps(), m.Last()
		for range 3 {
			if !o.Over() || o.Got() != got || !o.Step(m) || !o.Over() || o.Got() != got {
				t.Errorf("%s: over is %v, got %d, want %d", name, o.Over(), o.Got(), got)
			}
		}
		if m.Steps() != steps || m.Last() != access || !slices.Equal(m.Words(), was) {
			t.Errorf("%s: takes steps when it is over", name)
		}
	}
}

// odd words, of whatever bits.
func odd() []uint64 {
	return []uint64{0, 1, 2, 3, 4, 5, 6, 7, 8, 9, 15, 16, 17, 32, 255, 256, 65535, 65536, 1<<31 - 1, 1 << 31, 1<<32 - 4, 1<<32 - 1, 1 << 32, 1<<32 + 1, 1<<32 + 2, 1<<32 + 3, 1<<32 + 4, 1<<33 - 1, 1 << 33, 1<<33 + 2, 1<<33 + isShut, 1<<34 + 2, 1<<48 + 3, 1 << 63, 1<<63 + 1, 1<<63 + 2, 1<<63 + 3, 1<<63 + 4, 1<<63 + isShut, maxWord - isShut, maxWord - 0xffffffff, maxWord - 0xfffffffe, maxWord - 3, maxWord - 2, maxWord - 1, maxWord}
}

// P11.1, P11.2: chapter 11's examples.
func TestExamples(t *testing.T) {
	m := memory(word(blocksAt, 1))
	run := func(o operation, steps int, want api.Errno, blocks, block1 uint64) {
		t.Helper()
		n := 1
		for !o.Step(m) && n < 100 {
			n++
		}
		if n != steps || o.Got() != want {
			t.Errorf("%d steps, want %d; got %d, want %d", n, steps, o.Got(), want)
		}
		if b, w := m.Load(blocksAt), m.Load(wordAt(1)); b != blocks || w != block1 {
			t.Errorf("%d blocks, want %d; block 1 is %#x, want %#x", b, blocks, w, block1)
		}
	}
	run(NewMore(), 3, api.OK, 2, 0)
	run(NewLess(), 3, api.OK, 1, isShut)
	run(NewLess(), 1, api.ErrState, 1, isShut)
	run(NewMore(), 3, api.OK, 2, 0)
}

// P11.1: line 1, of each number of blocks, of more than may be, of whatever bits.
func TestMoreCounts(t *testing.T) {
	for _, b := range odd() {
		for _, w := range [][api.MaxBlocks]uint64{{}, {isShut, isShut, isShut, isShut}, {0, 0, isShut, isShut}, {1, 2, 3, 4}} {
			c := course{name: "so many blocks", at: append(table(b, w), beside()...), of: NewMore()}
			c.want, c.got = more(b, w)
			c.held(t)
		}
	}
}

// P11.1: line 2: of a number that others changed the blocks are counted again, and line 3 is that of those that were counted last.
func TestMoreCountsAgain(t *testing.T) {
	w := [api.MaxBlocks]uint64{isShut, isShut, isShut, isShut}
	for b := range uint64(api.MaxBlocks) {
		for _, v := range odd() {
			c := course{name: "changed ahead of line 1", at: table(b, w), of: NewMore(), others: []meddling{{0, blocksAt, v}}}
			c.want, c.got = more(v, w)
			c.held(t)
			c = course{name: "changed ahead of line 2", at: table(b, w), of: NewMore(), others: []meddling{{1, blocksAt, v}}}
			c.want, c.got = more(v, w)
			c.want = append(accesses{ld(blocksAt, b), casNot(blocksAt, v)}, c.want...)
			if v == b {
				c.want, c.got = came(b, isShut), api.OK
			}
			c.held(t)
			course{name: "changed, and back, ahead of line 2", at: table(b, w), of: NewMore(), others: []meddling{{1, blocksAt, v}, {1, blocksAt, b}}, want: came(b, isShut)}.held(t)
			course{name: "changed ahead of line 3", at: table(b, w), of: NewMore(), others: []meddling{{2, blocksAt, v}}, want: came(b, isShut)}.held(t)
		}
	}
	first := accesses{ld(blocksAt, 2), casNot(blocksAt, 1)}
	for _, c := range []course{
		{name: "one less, and one more ahead of line 1", others: []meddling{{1, blocksAt, 1}, {2, blocksAt, 2}}, want: came(2, isShut)},
		{name: "one less, and two more ahead of line 1", others: []meddling{{1, blocksAt, 1}, {2, blocksAt, 3}}, want: came(3, isShut)},
		{name: "one less, and all ahead of line 1", others: []meddling{{1, blocksAt, 1}, {2, blocksAt, 4}}, want: accesses{ld(blocksAt, 4)}, got: api.ErrFull},
		{name: "one less, and more than may be ahead of line 1", others: []meddling{{1, blocksAt, 1}, {2, blocksAt, 5}}, want: accesses{ld(blocksAt, 5)}, got: api.ErrFull},
		{name: "none ahead of line 1", others: []meddling{{1, blocksAt, 1}, {2, blocksAt, 0}}, want: came(0, isShut)},
		{name: "thrice", others: []meddling{{1, blocksAt, 1}, {3, blocksAt, 3}, {5, blocksAt, 0}}, want: append(accesses{ld(blocksAt, 1), casNot(blocksAt, 3), ld(blocksAt, 3), casNot(blocksAt, 0)}, came(0, isShut)...)},
		{name: "till all are there", others: []meddling{{1, blocksAt, 1}, {3, blocksAt, 3}, {5, blocksAt, 4}}, want: accesses{ld(blocksAt, 1), casNot(blocksAt, 3), ld(blocksAt, 3), casNot(blocksAt, 4), ld(blocksAt, 4)}, got: api.ErrFull},
	} {
		c.at, c.of, c.want = table(2, w), NewMore(), append(slices.Clone(first), c.want...)
		c.held(t)
	}
}

// P11.1: line 3, of each block, by its word of whatever bits: it is over whether that was nobody's, closed, or not.
func TestMoreOpens(t *testing.T) {
	for block := range api.MaxBlocks {
		b := uint64(block)
		for _, w := range odd() {
			course{name: "a block", at: append(table(b, crowd(block, w)), beside()...), of: NewMore(), want: came(b, w)}.held(t)
			for line := range 3 {
				course{name: "a block that others change", at: table(b, crowd(block, isShut)), of: NewMore(), others: []meddling{{line, wordAt(block), w}}, want: came(b, w)}.held(t)
				course{name: "a block that others close", at: table(b, crowd(block, w)), of: NewMore(), others: []meddling{{line, wordAt(block), isShut}}, want: came(b, isShut)}.held(t)
			}
		}
	}
}

// P11.2: line 1, of each number of blocks, of more than may be, of whatever bits.
func TestLessCounts(t *testing.T) {
	for _, b := range odd() {
		for ahead := range 2 { // it stood there, or others store it ahead of line 1
			c := course{name: "so many blocks", at: append(table(b, [4]uint64{}), beside()...), of: NewLess(), want: accesses{ld(blocksAt, b)}}
			if ahead == 1 {
				c.at, c.others = append(table(3, [4]uint64{}), beside()...), []meddling{{0, blocksAt, b}}
			}
			switch b {
			case 0, 1:
				c.got = api.ErrState
			case 2, 3, 4:
				c.want = went(b)
			default:
				c.got = api.ErrArg
			}
			c.held(t)
		}
	}
}

// P11.2: line 2, of each block that may go, by its word of whatever bits: only that of nobody, not closed, goes.
func TestLessShuts(t *testing.T) {
	for b := uint64(2); b <= api.MaxBlocks; b++ {
		block := int(b) - 1
		for _, w := range odd() {
			c := course{name: "a block", at: append(table(b, crowd(block, w)), beside()...), of: NewLess()}
			c.want, c.got = accesses{ld(blocksAt, b), shutting(block, w)}, api.ErrBusy
			if w == 0 {
				c.want, c.got = went(b), api.OK
			}
			c.held(t)
			for line := range 2 {
				c.name, c.of, c.at, c.others = "a block that others change", NewLess(), table(b, crowd(block, 0)), []meddling{{line, wordAt(block), w}}
				c.held(t)
			}
			course{name: "a block that is left", at: table(b, crowd(block, w)), of: NewLess(), others: []meddling{{1, wordAt(block), 0}}, want: went(b)}.held(t)
			course{name: "a block that others change behind line 2", at: table(b, crowd(block, 0)), of: NewLess(), others: []meddling{{2, wordAt(block), w}}, want: went(b)}.held(t)
		}
		for _, v := range []uint64{0, 1, 2, 3, 4, 5, maxWord} { // the block is that of line 1
			c := course{name: "changed ahead of line 2", at: table(b, crowd(block, 2)), of: NewLess(), others: []meddling{{1, blocksAt, v}}}
			c.want, c.got = accesses{ld(blocksAt, b), casNot(wordAt(block), 2)}, api.ErrBusy
			c.held(t)
		}
	}
}

// P11.2: lines 3 and 4: of a number that others changed the block is opened again, if it still is that of nobody, closed; it is over either way.
func TestLessLowers(t *testing.T) {
	for b := uint64(2); b <= api.MaxBlocks; b++ {
		block := int(b) - 1
		for _, v := range odd() {
			for line := 1; line <= 2; line++ {
				c := course{name: "changed ahead of line 3", at: append(table(b, crowd(block, 0)), beside()...), of: NewLess(), others: []meddling{{line, blocksAt, v}}}
				c.want, c.got = accesses{ld(blocksAt, b), cas(wordAt(block), 0, isShut), casNot(blocksAt, v), cas(wordAt(block), isShut, 0)}, api.ErrBusy
				if v == b {
					c.want, c.got = went(b), api.OK
				}
				c.held(t)
			}
			course{name: "changed, and back, ahead of line 3", at: table(b, crowd(block, 0)), of: NewLess(), others: []meddling{{2, blocksAt, v}, {2, blocksAt, b}}, want: went(b)}.held(t)
			if v != b {
				course{name: "changed, and back behind line 3", at: table(b, crowd(block, 0)), of: NewLess(), others: []meddling{{2, blocksAt, v}, {3, blocksAt, b}}, want: accesses{ld(blocksAt, b), cas(wordAt(block), 0, isShut), casNot(blocksAt, v), cas(wordAt(block), isShut, 0)}, got: api.ErrBusy}.held(t)
			}
		}
		for _, w := range odd() {
			for line := 2; line <= 3; line++ {
				course{name: "a block that others change ahead of line 4", at: append(table(b, crowd(block, 0)), beside()...), of: NewLess(), others: []meddling{{2, blocksAt, b - 1}, {line, wordAt(block), w}}, want: accesses{ld(blocksAt, b), cas(wordAt(block), 0, isShut), casNot(blocksAt, b-1), opening(block, w)}, got: api.ErrBusy}.held(t)
			}
		}
	}
}

// P11.1, P11.2, R3: operations that are not there, or that no call made, are over, and got nothing.
func TestNotMade(t *testing.T) {
	var o More
	var l Less
	for _, o := range []operation{(*More)(nil), (*Less)(nil), &o, &l, new(More), new(Less)} {
		for _, m := range []*mems.Mem{mems.New(), memory(word(blocksAt, 1)), memory(table(3, [4]uint64{})...), nil} {
			rests(t, "what no call made", o, m, api.OK)
		}
	}
}

// R3: of a memory that is not there each word is 0, and no CAS does: each step ends, and does what the lines say of that.
func TestNoMemory(t *testing.T) {
	var zero mems.Mem
	for _, m := range []*mems.Mem{nil, &zero} {
		missing := func(o operation, steps int) {
			t.Helper()
			for range steps {
				if goesOn(t, "no memory", o); o.Step(m) {
					t.Fatal("no memory: over")
				}
				goesOn(t, "no memory", o)
			}
		}
		missing(NewMore(), 1000) // lines 1 and 2, since there is room at each time
		l := NewLess()
		if goesOn(t, "no memory", l); !l.Step(m) {
			t.Error("a Less goes on")
		}
		rests(t, "no memory", l, m, api.ErrState)
		// one that goes, and comes again, between: the lines go on
		is := memory(table(2, [4]uint64{0, 0, isShut, 0})...)
		o := NewMore()
		missing(o, 2*50)
		step(t, "More", o, is, 0, ld(blocksAt, 2), false)
		missing(o, 1+2*50) // line 2: no CAS does
		step(t, "More", o, is, 1, ld(blocksAt, 2), false)
		step(t, "More", o, is, 2, cas(blocksAt, 2, 3), false)
		if !o.Step(m) { // line 3
			t.Error("a More goes on")
		}
		rests(t, "More", o, is, api.OK)
		l = NewLess()
		step(t, "Less", l, is, 0, ld(blocksAt, 3), false)
		if !l.Step(m) { // line 2: no CAS does
			t.Error("a Less goes on")
		}
		rests(t, "Less", l, is, api.ErrBusy)
		is.Store(wordAt(2), 0)
		for _, back := range []bool{true, false} {
			l = NewLess()
			step(t, "Less", l, is, 0, ld(blocksAt, 3), false)
			step(t, "Less", l, is, 1, cas(wordAt(2), 0, isShut), false)
			missing(l, 1) // line 3: no CAS does
			if back {
				step(t, "Less", l, is, 2, cas(wordAt(2), isShut, 0), true)
			} else if !l.Step(m) {
				t.Error("a Less goes on")
			}
			rests(t, "Less", l, is, api.ErrBusy)
		}
		if b, w := is.Load(blocksAt), is.Load(wordAt(2)); b != 3 || w != isShut {
			t.Errorf("%d blocks, the last one is %#x", b, w)
		}
	}
}

// P11.1, P11.2: each operation has its own place: steps of one do not take another one on.
func TestApart(t *testing.T) {
	m := memory(table(2, [4]uint64{0, 0, isShut, isShut})...)
	p, q, r, s := NewMore(), NewLess(), NewMore(), NewLess()
	for i, c := range []struct {
		of   operation
		want accesses
		over bool
	}{
		{p, accesses{ld(blocksAt, 2)}, false},
		{q, accesses{ld(blocksAt, 2), shutting(1, 0)}, false},
		{r, accesses{ld(blocksAt, 2), cas(blocksAt, 2, 3)}, false},
		{p, accesses{casNot(blocksAt, 3), ld(blocksAt, 3)}, false},
		{s, accesses{ld(blocksAt, 3)}, false},
		{q, accesses{casNot(blocksAt, 3)}, false},
		{r, accesses{opening(2, isShut)}, true},
		{s, accesses{shutting(2, 0)}, false},
		{p, accesses{cas(blocksAt, 3, 4)}, false},
		{q, accesses{opening(1, isShut)}, true},
		{s, accesses{casNot(blocksAt, 4)}, false},
		{p, accesses{opening(3, isShut)}, true},
		{s, accesses{opening(2, isShut)}, true},
	} {
		for k, a := range c.want {
			step(t, "apart", c.of, m, 100*i+k, a, c.over && k == len(c.want)-1)
		}
	}
	rests(t, "p", p, m, api.OK)
	rests(t, "q", q, m, api.ErrBusy)
	rests(t, "r", r, m, api.OK)
	rests(t, "s", s, m, api.ErrBusy)
}
