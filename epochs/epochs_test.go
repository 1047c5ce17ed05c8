package epochs_test

import (
	"iter"
	"math"
	"testing"

	"ragpicker/api"
	"ragpicker/epochs"
	"ragpicker/mems"
)

const (
	maxWord = uint64(math.MaxUint64)
	half    = uint64(1) << 63
	threads = 16 // the most there may be, told anew
)

var (
	epochAt  = api.Addr{Kind: api.WdEpoch}
	blocksAt = api.Addr{Kind: api.WdBlocks}
)

// wordAt: where a thread's epoch stands.
func wordAt(thread int) api.Addr { return api.Addr{Kind: api.WdThread, At: thread, Field: 3} }

// epochsOf: epochs at the edges of what a word holds, and of what one doubled holds, each with what the word of a thread is that entered at it.
var epochsOf = []struct{ epoch, word uint64 }{
	{0, 1}, {1, 3}, {2, 5}, {3, 7}, {7, 15}, {127, 255}, {128, 257}, {1<<31 - 1, 1<<32 - 1}, {1 << 31, 1<<32 + 1}, {1 << 32, 1<<33 + 1}, {1<<53 + 1, 1<<54 + 3},
	{1<<62 - 1, half - 1}, {1 << 62, half + 1}, {half - 2, maxWord - 2}, {half - 1, maxWord}, {half, 1}, {half + 1, 3}, {half + 7, 15}, {maxWord - 2, maxWord - 4}, {maxWord - 1, maxWord - 2}, {maxWord, maxWord},
}

// blocksOf: numbers of blocks, each with how many of them there are.
var blocksOf = []struct {
	word   uint64
	blocks int
}{{0, 0}, {1, 1}, {2, 2}, {3, 3}, {4, 4}, {5, 4}, {6, 4}, {16, 4}, {255, 4}, {256, 4}, {1 << 16, 4}, {1<<31 + 1, 4}, {1 << 32, 4}, {1<<32 + 1, 4}, {1 << 62, 4}, {half, 4}, {half + 2, 4}, {maxWord - 3, 4}, {maxWord, 4}}

// noThread: numbers of which there is no thread; some of them would be one, if bits were lost.
var noThread = []int{math.MinInt, math.MinInt + 1, math.MinInt32, -1 << 32, -256, -17, -16, -2, -1, 16, 17, 31, 255, 256, 257, 1 << 16, math.MaxInt32, 1 << 32, 1<<32 + 3, 1 << 62, math.MaxInt - 1, math.MaxInt}

// operation of whatever kind.
type operation interface {
	Step(*mems.Mem) bool
	Over() bool
}

// moved: did it move? None but an Advance is ever told so.
func moved(o operation) bool {
	a, ok := o.(*epochs.Advance)
	return ok && a.Got()
}

// words told anew, beside the memory that has them.
type words struct {
	m  *mems.Mem
	by map[api.Addr]uint64
}

// memory of that epoch, of that many blocks, and with words of all kinds that no operation is to look at.
func memory(epoch, blocks uint64) *words {
	w := &words{mems.New(), map[api.Addr]uint64{}}
	for i, a := range []api.Addr{
		{Kind: api.WdFree}, {Kind: api.WdEra}, {Kind: api.WdPhase}, {Kind: api.WdOrphan},
		{Kind: api.WdSeg}, {Kind: api.WdSeg, At: 1, Field: api.SgParked}, {Kind: api.WdBlock}, {Kind: api.WdBlock, At: 3},
		{Kind: api.WdSlot}, {Kind: api.WdSlot, At: 15, Field: 3}, {Kind: api.WdList}, {Kind: api.WdQueue, Field: api.QuTail},
	} {
		w.put(a, uint64(1001+2*i))
	}
	for i, a := range []api.Addr{{At: 0, Field: 2}, {At: 0, Field: 4}, {At: 1}, {At: 7, Field: 9}, {At: 15, Field: 2}, {At: 15, Field: 4}} {
		a.Kind = api.WdThread
		w.put(a, uint64(2001+2*i))
	}
	w.put(epochAt, epoch)
	w.put(blocksAt, blocks)
	return w
}

// put a word, as others do.
func (w *words) put(a api.Addr, v uint64) {
	w.m.Store(a, v)
	w.by[a] = v
}

// same: the memory has these words, and no others.
func (w *words) same(t *testing.T) {
	t.Helper()
	n := 0
	for _, v := range w.by {
		if v != 0 {
			n++
		}
	}
	all := w.m.Words()
	for _, x := range all {
		if w.by[x.Addr] != x.Value {
			t.Fatalf("the word %+v is %#x, want %#x", x.Addr, x.Value, w.by[x.Addr])
		}
	}
	if len(all) != n {
		t.Fatalf("%d words are not 0, want %d", len(all), n)
	}
}

func loaded(a api.Addr, v uint64) api.Access {
	return api.Access{Kind: api.AcLoad, Addr: a, Was: v, Is: v}
}

func stored(a api.Addr, was, is uint64) api.Access {
	return api.Access{Kind: api.AcStore, Addr: a, Was: was, Is: is}
}

func swapped(a api.Addr, was, is uint64) api.Access {
	return api.Access{Kind: api.AcCAS, Addr: a, Was: was, Is: is, Done: true}
}

func stuck(a api.Addr, v uint64) api.Access {
	return api.Access{Kind: api.AcCAS, Addr: a, Was: v, Is: v}
}

// step of an operation that is not over: one access, which is awaited.
func step(t *testing.T, o operation, m *mems.Mem, want api.Access, ends bool) {
	t.Helper()
	steps := m.Steps()
	if o.Over() || moved(o) {
		t.Fatalf("ahead of %+v it is over: %v; it moved: %v", want, o.Over(), moved(o))
	}
	over := o.Step(m)
	if m.Steps() != steps+1 || m.Last() != want {
		t.Fatalf("%d accesses, the last one %+v, want %+v", m.Steps()-steps, m.Last(), want)
	}
	if over != ends || o.Over() != ends {
		t.Fatalf("behind %+v it is over: %v, %v, want %v", want, over, o.Over(), ends)
	}
	if !ends && moved(o) {
		t.Fatalf("behind %+v it moved, and is not over", want)
	}
}

// ended: an operation that is over takes no step of a memory, and its answer stays.
func ended(t *testing.T, o operation, m *mems.Mem, moves bool) {
	t.Helper()
	steps, last := m.Steps(), m.Last()
	for range 2 {
		if moved(o) != moves {
			t.Fatalf("it moved: %v, want %v", moved(o), moves)
		}
		if !o.Over() || !o.Step(m) || !o.Over() {
			t.Fatal("it is not over")
		}
		if m.Steps() != steps || m.Last() != last {
			t.Fatalf("it is over, and took a step: %+v", m.Last())
		}
	}
}

// still: an operation that is over does nothing in any memory.
func still(t *testing.T, o operation, moves bool) {
	t.Helper()
	for _, w := range []*words{memory(7, 1), memory(0, 0)} {
		ended(t, o, w.m, moves)
		w.same(t)
	}
	for _, m := range []*mems.Mem{mems.New(), {}, nil} {
		ended(t, o, m, moves)
	}
}

// does all of an operation by these accesses, and no more.
func does(t *testing.T, o operation, m *mems.Mem, moves bool, want ...api.Access) {
	t.Helper()
	for i, a := range want {
		step(t, o, m, a, i == len(want)-1)
	}
	ended(t, o, m, moves)
}

// tale: an operation, told anew as what is done line by line, that waits ahead of each access.
type tale struct {
	by    map[api.Addr]uint64 // the words, which all tales share
	wait  func(struct{}) bool
	last  api.Access
	next  func() (struct{}, bool)
	over  bool
	moved bool
}

// tell a tale: it waits ahead of its first access.
func tell(by map[api.Addr]uint64, do func(*tale) bool) *tale {
	t := &tale{by: by}
	t.next, _ = iter.Pull(func(yield func(struct{}) bool) {
		t.wait = yield
		moved := do(t)
		t.over, t.moved = true, moved
	})
	t.next()
	return t
}

// step of it: the access.
func (t *tale) step() api.Access {
	t.next()
	return t.last
}

func (t *tale) load(a api.Addr) uint64 {
	t.wait(struct{}{})
	t.last = loaded(a, t.by[a])
	return t.by[a]
}

func (t *tale) store(a api.Addr, v uint64) {
	t.wait(struct{}{})
	t.last = stored(a, t.by[a], v)
	t.by[a] = v
}

func (t *tale) cas(a api.Addr, was, is uint64) bool {
	t.wait(struct{}{})
	if t.by[a] != was {
		t.last = stuck(a, t.by[a])
		return false
	}
	t.last = swapped(a, was, is)
	t.by[a] = is
	return true
}

// enter of a thread.
func enter(thread int) func(*tale) bool {
	return func(t *tale) bool {
		e := t.load(epochAt)
		t.store(wordAt(thread), e+e+1)
		return false
	}
}

// exit of a thread.
func exit(thread int) func(*tale) bool {
	return func(t *tale) bool {
		t.store(wordAt(thread), 0)
		return false
	}
}

// advance of the epoch.
func advance(t *tale) bool {
	g := t.load(epochAt)
	b := t.load(blocksAt)
	if b > 4 {
		b = 4
	}
	for i := range 4 * int(b) {
		if w := t.load(wordAt(i)); w&1 != 0 && w != g+g+1 {
			return false
		}
	}
	return t.cas(epochAt, g, g+1)
}

// runs an operation to its end, beside what others do ahead of each step (the first one is 0), and holds it against its tale; it answers the accesses.
func (w *words) runs(t *testing.T, o operation, do func(*tale) bool, beside func(step int)) []api.Access {
	t.Helper()
	var seen []api.Access
	told := tell(w.by, do)
	for !told.over {
		if beside != nil {
			beside(len(seen))
		}
		want := told.step()
		step(t, o, w.m, want, told.over)
		seen = append(seen, want)
	}
	w.same(t)
	ended(t, o, w.m, told.moved)
	return seen
}

// advances: one Advance; did it move, and behind how many steps is it over?
func (w *words) advances(t *testing.T, beside func(step int)) (moves bool, steps int) {
	t.Helper()
	x := epochs.NewAdvance()
	steps = len(w.runs(t, x, advance, beside))
	return x.Got(), steps
}

// P15.1, P15.2: the chapter's example.
func TestExample(t *testing.T) {
	m := mems.New()
	m.Store(epochAt, 7)
	m.Store(blocksAt, 1)
	in := epochs.NewEnter(2)
	if in.Step(m) || !in.Step(m) {
		t.Error("an Enter is over behind two steps")
	}
	if w := m.Load(wordAt(2)); w != 15 {
		t.Errorf("the thread's word is %d, want 15", w)
	}
	for _, c := range []struct {
		steps int
		moves bool
		epoch uint64
	}{{7, true, 8}, {5, false, 8}} {
		x, n := epochs.NewAdvance(), 1
		for !x.Step(m) && n < 100 {
			n++
		}
		if n != c.steps || x.Got() != c.moves || m.Load(epochAt) != c.epoch {
			t.Errorf("over behind %d steps, moved: %v, to %d; want %+v", n, x.Got(), m.Load(epochAt), c)
		}
	}
}

// P15.1, P15.2: the accesses of each operation, written out.
func TestLines(t *testing.T) {
	m := mems.New()
	thread := func(i int) api.Addr { return api.Addr{Kind: api.WdThread, At: i, Field: api.ThEpoch} }
	m.Store(epochAt, 7)
	m.Store(blocksAt, 2)
	m.Store(thread(5), 8)
	does(t, epochs.NewEnter(2), m, false, loaded(epochAt, 7), stored(thread(2), 0, 15))
	does(t, epochs.NewAdvance(), m, true, loaded(epochAt, 7), loaded(blocksAt, 2),
		loaded(thread(0), 0), loaded(thread(1), 0), loaded(thread(2), 15), loaded(thread(3), 0), loaded(thread(4), 0), loaded(thread(5), 8), loaded(thread(6), 0), loaded(thread(7), 0),
		swapped(epochAt, 7, 8))
	does(t, epochs.NewAdvance(), m, false, loaded(epochAt, 8), loaded(blocksAt, 2), loaded(thread(0), 0), loaded(thread(1), 0), loaded(thread(2), 15))
	does(t, epochs.NewEnter(2), m, false, loaded(epochAt, 8), stored(thread(2), 15, 17))
	does(t, epochs.NewExit(2), m, false, stored(thread(2), 17, 0))
	does(t, epochs.NewExit(2), m, false, stored(thread(2), 0, 0))
	does(t, epochs.NewExit(5), m, false, stored(thread(5), 8, 0))
	m.Store(blocksAt, 0)
	does(t, epochs.NewAdvance(), m, true, loaded(epochAt, 8), loaded(blocksAt, 0), swapped(epochAt, 8, 9))
}

// P15.1: each thread, at each epoch, from whatever its word was, in whatever block: an Enter stores the epoch doubled, and 1, an Exit 0.
func TestEnterExit(t *testing.T) {
	for thread := range threads {
		for i, e := range epochsOf {
			w := memory(e.epoch, blocksOf[(thread+i)%len(blocksOf)].word)
			for _, is := range []uint64{0, 1, 2, e.word - 1, e.word, e.word + 2, half, maxWord} {
				w.put(wordAt(thread), is)
				does(t, epochs.NewEnter(thread), w.m, false, loaded(epochAt, e.epoch), stored(wordAt(thread), is, e.word))
				does(t, epochs.NewEnter(thread), w.m, false, loaded(epochAt, e.epoch), stored(wordAt(thread), e.word, e.word))
				does(t, epochs.NewExit(thread), w.m, false, stored(wordAt(thread), e.word, 0))
				does(t, epochs.NewExit(thread), w.m, false, stored(wordAt(thread), 0, 0))
				w.put(wordAt(thread), is)
				does(t, epochs.NewExit(thread), w.m, false, stored(wordAt(thread), is, 0))
				delete(w.by, wordAt(thread))
				w.same(t)
			}
		}
	}
}

// P15.1: all threads, one behind the other, each at an epoch of its own.
func TestAllEnterExit(t *testing.T) {
	w := memory(0, 4)
	for i := range threads {
		w.put(epochAt, uint64(100+i))
		w.runs(t, epochs.NewEnter(i), enter(i), nil)
	}
	for i := range threads {
		if got := w.m.Load(wordAt(i)); got != uint64(201+2*i) {
			t.Errorf("thread %d has %d", i, got)
		}
	}
	for i := range threads {
		w.runs(t, epochs.NewExit(i), exit(i), nil)
		for k := range threads {
			if in := w.m.Load(wordAt(k)) != 0; in != (k > i) {
				t.Errorf("thread %d went: thread %d is in: %v", i, k, in)
			}
		}
	}
}

// P15.1: what is no thread is over, and does nothing.
func TestNoThread(t *testing.T) {
	for _, thread := range noThread {
		still(t, epochs.NewEnter(thread), false)
		still(t, epochs.NewExit(thread), false)
	}
}

// P15.1: an epoch that moves ahead of an Enter's first step counts, one that moves behind that does not; the word is what was read, whatever it was before.
func TestEnterWhileOthersWork(t *testing.T) {
	for _, from := range epochsOf {
		for _, to := range epochsOf {
			for at := range 3 {
				w := memory(from.epoch, 1)
				w.runs(t, epochs.NewEnter(9), enter(9), func(step int) {
					if step == at {
						w.put(epochAt, to.epoch)
					}
					w.put(wordAt(9), to.word+uint64(step))
					w.put(wordAt(8), to.word+uint64(step))
				})
				want := from.word
				if at == 0 {
					want = to.word
				}
				if got := w.m.Load(wordAt(9)); got != want {
					t.Errorf("from %d to %d ahead of step %d: the word is %d, want %d", from.epoch, to.epoch, at, got, want)
				}
			}
		}
	}
}

// P15.2: no thread in, of each number of blocks, at each epoch: it moves, by 1, which goes round.
func TestNoneIn(t *testing.T) {
	for _, b := range blocksOf {
		for _, e := range epochsOf {
			w := memory(e.epoch, b.word)
			moves, steps := w.advances(t, nil)
			is := e.epoch + 1
			if e.epoch == maxWord {
				is = 0
			}
			if !moves || steps != 3+4*b.blocks || w.m.Load(epochAt) != is {
				t.Errorf("epoch %d, blocks %d: moved: %v, behind %d steps, to %d", e.epoch, b.word, moves, steps, w.m.Load(epochAt))
			}
		}
	}
}

// wordsOf: what a thread's word may be at an epoch; does it hold the epoch there?
func wordsOf(epoch uint64) map[uint64]bool {
	at := 2*epoch + 1
	l := map[uint64]bool{
		0: false, 2: false, 4: false, 16: false, 1 << 32: false, half: false, maxWord - 1: false, at - 1: false, at + 1: false, at ^ half ^ 1: false,
		1: true, 3: true, 13: true, 15: true, 1<<32 + 1: true, half + 1: true, maxWord: true, maxWord - 2: true, at - 2: true, at + 2: true, at ^ half: true, at ^ 1<<32: true, at ^ 1<<20: true,
	}
	l[at] = false
	return l
}

// P15.2: one thread in, each of them, with each word: of the blocks that there are an odd one that is not the epoch's own holds it.
func TestOneIn(t *testing.T) {
	for _, b := range blocksOf {
		for i, e := range epochsOf {
			for word, holds := range wordsOf(e.epoch) {
				for thread := range threads {
					if thread%5 != i%5 && (i%5 > 0 || b.word > 4) { // at some epochs all, at others the first one, the last one, or some between
						continue
					}
					w := memory(e.epoch, b.word)
					w.put(wordAt(thread), word)
					moves, steps := w.advances(t, nil)
					if holds && thread < 4*b.blocks {
						if moves || steps != 3+thread || w.m.Load(epochAt) != e.epoch {
							t.Fatalf("epoch %d, blocks %d, thread %d, word %d: moved: %v, behind %d steps", e.epoch, b.word, thread, word, moves, steps)
						}
					} else if !moves || steps != 3+4*b.blocks || w.m.Load(epochAt) != e.epoch+1 {
						t.Fatalf("epoch %d, blocks %d, thread %d, word %d: moved: %v, behind %d steps", e.epoch, b.word, thread, word, moves, steps)
					}
				}
			}
		}
	}
}

// P15.2: each set of threads of up to two blocks, and all sets of two threads of more, being in an older epoch, the others in none, in the epoch, or with a word that is even: the first one of the blocks that there are holds it.
func TestSetsIn(t *testing.T) {
	sets := func(blocks, set int) {
		for _, others := range []uint64{0, 2, 101} {
			w := memory(50, uint64(blocks))
			first := threads
			for i := threads - 1; i >= 0; i-- {
				w.put(wordAt(i), others)
				if set>>i&1 > 0 {
					w.put(wordAt(i), 99)
					first = i
				}
			}
			moves, steps := w.advances(t, nil)
			held, want := first < 4*blocks, 3+4*blocks
			if held {
				want = 3 + first
			}
			if moves == held || steps != want {
				t.Fatalf("blocks %d, set %b: moved: %v, behind %d steps", blocks, set, moves, steps)
			}
		}
	}
	for set := range 1 << 4 {
		sets(0, set)
		sets(1, set)
		sets(1, set<<4)
	}
	for set := range 1 << 8 {
		sets(2, set)
	}
	for one := range threads {
		for other := range one + 1 {
			sets(3, 1<<one|1<<other)
			sets(4, 1<<one|1<<other)
		}
	}
	sets(4, 1<<16-1)
}

// P15.2: threads that all are in the epoch, or have words that are even and not 0, let it move.
func TestAllIn(t *testing.T) {
	for _, b := range blocksOf {
		for _, e := range epochsOf {
			for _, word := range []uint64{e.word, e.word - 1, e.word + 1, 2, half, maxWord - 1} {
				if word&1 == 1 && word != e.word {
					continue
				}
				w := memory(e.epoch, b.word)
				for i := range threads {
					w.put(wordAt(i), word)
				}
				if moves, steps := w.advances(t, nil); !moves || steps != 3+4*b.blocks {
					t.Errorf("epoch %d, blocks %d, words %d: moved: %v, behind %d steps", e.epoch, b.word, word, moves, steps)
				}
			}
		}
	}
}

// lineOf a thread: the step that loads its word, the first one being 0.
func lineOf(thread int) int { return 2 + thread }

// P15.2: a thread that comes ahead of the step that loads its word holds the epoch, if it is in an older one; one that comes behind that does not.
func TestThreadComes(t *testing.T) {
	for thread := range 8 {
		for at := range 12 {
			for word, holds := range wordsOf(70) {
				w := memory(70, 2)
				moves, steps := w.advances(t, func(step int) {
					if step == at {
						w.put(wordAt(thread), word)
					}
				})
				want := 11
				if holds = holds && at <= lineOf(thread); holds {
					want = lineOf(thread) + 1
				}
				if moves == holds || steps != want {
					t.Fatalf("thread %d comes ahead of step %d, with %d: moved: %v, behind %d steps", thread, at, word, moves, steps)
				}
			}
		}
	}
}

// P15.2: a thread that goes ahead of the step that loads its word does not hold the epoch; one that goes behind that does, if it was in an older one.
func TestThreadGoes(t *testing.T) {
	for thread := range 8 {
		for at := range 12 {
			for word, holds := range wordsOf(70) {
				for _, to := range []uint64{0, 2, 141} { // 141: it goes, and comes in the epoch
					w := memory(70, 2)
					w.put(wordAt(thread), word)
					moves, steps := w.advances(t, func(step int) {
						if step == at {
							w.put(wordAt(thread), to)
						}
					})
					want, held := 11, holds && at > lineOf(thread)
					if held {
						want = lineOf(thread) + 1
					}
					if moves == held || steps != want {
						t.Fatalf("thread %d of %d goes ahead of step %d: moved: %v, behind %d steps", thread, word, at, moves, steps)
					}
				}
			}
		}
	}
}

// P15.2: a word that is another one for a moment counts as it is at the step that loads it.
func TestThreadForAMoment(t *testing.T) {
	for thread := range 4 {
		for from := range 7 {
			for _, long := range []int{1, 2, 4} {
				for _, c := range []struct{ was, moment uint64 }{{0, 99}, {99, 0}, {101, 99}, {99, 101}} {
					w := memory(50, 1)
					w.put(wordAt(thread), c.was)
					moves, _ := w.advances(t, func(step int) {
						switch step {
						case from:
							w.put(wordAt(thread), c.moment)
						case from + long:
							w.put(wordAt(thread), c.was)
						}
					})
					is := c.was
					if at := lineOf(thread); from <= at && at < from+long {
						is = c.moment
					}
					if moves == (is == 99) {
						t.Fatalf("thread %d of %d, from step %d on for %d %d: moved: %v", thread, c.was, from, long, c.moment, moves)
					}
				}
			}
		}
	}
}

// P15.2: the epoch that changes ahead of the first step is the one that counts; one that changes behind that lets it not move, nor changes what threads are held against; one that is as it was at the CAS moves.
func TestEpochChanges(t *testing.T) {
	for _, from := range epochsOf {
		for _, to := range epochsOf {
			if from.word == to.word {
				continue
			}
			for _, in := range []uint64{0, from.word, to.word} {
				for at := range 8 {
					w := memory(from.epoch, 1)
					w.put(wordAt(1), in)
					moves, steps := w.advances(t, func(step int) {
						if step == at {
							w.put(epochAt, to.epoch)
						}
					})
					counts := from
					if at == 0 {
						counts = to
					}
					is := from.epoch + 1
					switch held := in != 0 && in != counts.word; {
					case held && (moves || steps != 4):
						t.Fatalf("from %d to %d ahead of step %d, in %d: moved: %v, behind %d steps", from.epoch, to.epoch, at, in, moves, steps)
					case held:
						continue
					case at == 0:
						is = to.epoch + 1
					case at <= 6:
						is = to.epoch
					}
					if moves != (at == 0 || at == 7) || steps != 7 || w.m.Load(epochAt) != is {
						t.Fatalf("from %d to %d ahead of step %d, in %d: moved: %v, to %d, behind %d steps", from.epoch, to.epoch, at, in, moves, w.m.Load(epochAt), steps)
					}
				}
			}
		}
	}
}

// P15.2: an epoch that is another one for a moment, and as it was at the CAS, moves; what a CAS that does not finds it leaves.
func TestEpochForAMoment(t *testing.T) {
	for from := 1; from < 7; from++ {
		for to := from + 1; to <= 8; to++ {
			w := memory(9, 1)
			moves, steps := w.advances(t, func(step int) {
				switch step {
				case from:
					w.put(epochAt, 10)
				case to:
					w.put(epochAt, 9)
				}
			})
			want, is := to <= 6, uint64(10)
			if moves != want || steps != 7 || w.m.Load(epochAt) != is {
				t.Errorf("another one from step %d to %d: moved: %v, to %d", from, to, moves, w.m.Load(epochAt))
			}
		}
	}
}

// P15.2: blocks that come, or go, ahead of the second step count; behind it they change nothing: of those that come no thread holds the epoch, of those that go each does.
func TestBlocksChange(t *testing.T) {
	for _, from := range blocksOf {
		for _, to := range blocksOf {
			for at := range 20 {
				for _, in := range []int{-1, 0, 3, 4, 7, 8, 12, 15} {
					if (to.word > 5 || from.word > 5) && (at > 3 || in > 0 && in < 15) {
						continue
					}
					w := memory(50, from.word)
					if in >= 0 {
						w.put(wordAt(in), 99)
					}
					moves, steps := w.advances(t, func(step int) {
						if step == at {
							w.put(blocksAt, to.word)
						}
					})
					blocks := from.blocks
					if at <= 1 {
						blocks = to.blocks
					}
					held, want := in >= 0 && in < 4*blocks, 3+4*blocks
					if held {
						want = 3 + in
					}
					if moves == held || steps != want {
						t.Fatalf("from %d to %d blocks ahead of step %d, thread %d in: moved: %v, behind %d steps", from.word, to.word, at, in, moves, steps)
					}
				}
			}
		}
	}
}

// P15.2: Got ahead of the first step, behind each, and at the end, of one that moves, one that a thread holds, and one whose CAS does not; whatever becomes of the memory, it stays.
func TestGot(t *testing.T) {
	for _, c := range []struct {
		name  string
		word  uint64 // of thread 3
		epoch uint64 // ahead of the CAS
		moves bool
	}{{"moves", 101, 50, true}, {"held", 99, 50, false}, {"swapped ahead of it", 101, 51, false}, {"went round ahead of it", 101, 49, false}} {
		w := memory(50, 1)
		w.put(wordAt(3), c.word)
		x := epochs.NewAdvance()
		for n := 0; !x.Over() && n < 100; n++ {
			for range 3 {
				if x.Got() {
					t.Errorf("%s: behind %d steps, and not over, it moved", c.name, n)
				}
			}
			if n == 6 {
				w.put(epochAt, c.epoch)
			}
			x.Step(w.m)
		}
		for _, epoch := range []uint64{50, 51, 52, 0} {
			w.put(epochAt, epoch)
			w.put(wordAt(3), epoch)
			if steps := w.m.Steps(); x.Got() != c.moves || w.m.Steps() != steps {
				t.Errorf("%s: it moved: %v, want %v", c.name, x.Got(), c.moves)
			}
		}
		still(t, x, c.moves)
	}
}

// P15.1, P15.2: operations that are not there, and such as no call made, have nothing, and are over.
func TestNoOperation(t *testing.T) {
	var enter *epochs.Enter
	var exit *epochs.Exit
	var advance *epochs.Advance
	for name, o := range map[string]operation{
		"Enter, none": enter, "Exit, none": exit, "Advance, none": advance,
		"Enter, new": new(epochs.Enter), "Exit, new": new(epochs.Exit), "Advance, new": new(epochs.Advance),
		"Enter, literal": &epochs.Enter{}, "Exit, literal": &epochs.Exit{}, "Advance, literal": &epochs.Advance{},
	} {
		t.Run(name, func(t *testing.T) { still(t, o, false) })
	}
}

// P15.1, P15.2: each operation that is made begins, and is one of its own.
func TestNew(t *testing.T) {
	for i := range threads {
		one, other := epochs.NewEnter(i), epochs.NewEnter(i)
		if one == nil || other == nil || one == other || one.Over() || other.Over() {
			t.Errorf("an Enter of thread %d that was made does not begin", i)
		}
		out, again := epochs.NewExit(i), epochs.NewExit(i)
		if out == nil || again == nil || out == again || out.Over() || again.Over() {
			t.Errorf("an Exit of thread %d that was made does not begin", i)
		}
	}
	one, other := epochs.NewAdvance(), epochs.NewAdvance()
	if one == nil || other == nil || one == other || one.Over() || other.Over() || one.Got() {
		t.Error("an Advance that was made does not begin")
	}
}

// P15.1, P15.2: of a memory that is not there, or that no call made, all words are 0, and no CAS does.
func TestNoMemory(t *testing.T) {
	for _, m := range []*mems.Mem{nil, {}, new(mems.Mem)} {
		in, out, x := epochs.NewEnter(3), epochs.NewExit(3), epochs.NewAdvance()
		if in.Over() || in.Step(m) || in.Over() || !in.Step(m) {
			t.Error("an Enter is not over behind two steps")
		}
		if out.Over() || !out.Step(m) {
			t.Error("an Exit is not over behind one step")
		}
		for range 2 {
			if x.Over() || x.Step(m) || x.Got() {
				t.Error("an Advance is over behind less than three steps")
			}
		}
		if x.Over() || !x.Step(m) || x.Got() {
			t.Error("an Advance is not over behind three steps, or moved")
		}
		still(t, in, false)
		still(t, out, false)
		still(t, x, false)
	}
}

// P15.1, P15.2: of which memory a step is, that it loads of, or stores in: an operation keeps none.
func TestTwoMemories(t *testing.T) {
	one, other := memory(7, 4), memory(9, 1)
	in := epochs.NewEnter(4)
	step(t, in, one.m, loaded(epochAt, 7), false)
	step(t, in, other.m, stored(wordAt(4), 0, 15), true)
	other.by[wordAt(4)] = 15
	one.put(wordAt(2), 2)
	other.put(wordAt(1), 17)
	x := epochs.NewAdvance()
	step(t, x, one.m, loaded(epochAt, 7), false)
	step(t, x, other.m, loaded(blocksAt, 1), false)
	step(t, x, other.m, loaded(wordAt(0), 0), false)
	step(t, x, one.m, loaded(wordAt(1), 0), false)
	step(t, x, one.m, loaded(wordAt(2), 2), false)
	step(t, x, other.m, loaded(wordAt(3), 0), false)
	step(t, x, one.m, swapped(epochAt, 7, 8), true)
	one.by[epochAt] = 8
	still(t, x, true)
	one.same(t)
	other.same(t)
}

// P15.1, P15.2: a copy of an operation goes on by itself, and so does the operation.
func TestCopy(t *testing.T) {
	lines := []api.Access{loaded(epochAt, 7), loaded(blocksAt, 1), loaded(wordAt(0), 15), loaded(wordAt(1), 0), loaded(wordAt(2), 15), loaded(wordAt(3), 2), swapped(epochAt, 7, 8)}
	for at := range lines {
		w := memory(7, 1)
		w.put(wordAt(0), 15)
		w.put(wordAt(2), 15)
		w.put(wordAt(3), 2)
		x := epochs.NewAdvance()
		for i, a := range lines[:at] {
			step(t, x, w.m, a, i == len(lines)-1)
		}
		c := *x
		for i, a := range lines[at:] {
			step(t, &c, w.m, a, at+i == len(lines)-1)
		}
		w.put(epochAt, 7)
		for i, a := range lines[at:] {
			step(t, x, w.m, a, at+i == len(lines)-1)
		}
		still(t, &c, true)
		still(t, x, true)
	}
	w := memory(7, 1)
	x := epochs.NewEnter(3)
	step(t, x, w.m, loaded(epochAt, 7), false)
	w.put(epochAt, 8)
	c := *x
	step(t, &c, w.m, stored(wordAt(3), 0, 15), true)
	step(t, x, w.m, stored(wordAt(3), 15, 15), true)
	y := epochs.NewExit(3)
	d := *y
	step(t, &d, w.m, stored(wordAt(3), 15, 0), true)
	step(t, y, w.m, stored(wordAt(3), 0, 0), true)
}

// numbers that a May is asked of.
var numbers = []uint64{0, 1, 2, 3, 4, 5, 6, 7, 8, 9, 10, 127, 128, 129, 130, 255, 256, 257, 258, 1<<31 - 2, 1<<31 - 1, 1 << 31, 1<<31 + 1, 1<<31 + 2, 1<<32 - 2, 1<<32 - 1, 1 << 32, 1<<32 + 1, 1<<32 + 2, 1<<53 - 1, 1 << 53, 1<<53 + 1, 1<<53 + 2, 1<<53 + 3,
	half - 4, half - 3, half - 2, half - 1, half, half + 1, half + 2, half + 3, half + 4, maxWord - 6, maxWord - 5, maxWord - 4, maxWord - 3, maxWord - 2, maxWord - 1, maxWord}

// may it go? Told anew: the epochs between the two are counted from the entry's own on, which goes round nowhere.
func may(own, epoch uint64) bool { return epoch >= own && epoch-own >= 2 }

// P15.3: each epoch around its Epoch, its Epoch and 1, and 2, and above.
func TestMay(t *testing.T) {
	for _, c := range []struct {
		own, epoch uint64
		want       bool
	}{
		{0, 0, false}, {0, 1, false}, {0, 2, true}, {0, 3, true}, {0, half, true}, {0, maxWord, true},
		{1, 0, false}, {1, 1, false}, {1, 2, false}, {1, 3, true}, {1, maxWord, true},
		{7, 0, false}, {7, 6, false}, {7, 7, false}, {7, 8, false}, {7, 9, true}, {7, 10, true}, {7, 1 << 32, true},
		{half - 1, half, false}, {half - 1, half + 1, true}, {half, half + 1, false}, {half, half + 2, true}, {half, 2, false}, {half + 1, 3, false},
		{maxWord - 3, maxWord - 2, false}, {maxWord - 3, maxWord - 1, true}, {maxWord - 3, maxWord, true}, {maxWord - 2, maxWord - 1, false}, {maxWord - 2, maxWord, true}, {maxWord - 2, 0, false},
		{maxWord - 1, 0, false}, {maxWord - 1, 1, false}, {maxWord - 1, maxWord - 1, false}, {maxWord - 1, maxWord, false}, {maxWord, 0, false}, {maxWord, 1, false}, {maxWord, 2, false}, {maxWord, maxWord, false},
	} {
		if got := epochs.May(api.Entry{Epoch: c.own}, c.epoch); got != c.want {
			t.Errorf("of the Epoch %d at %d: %v", c.own, c.epoch, got)
		}
	}
	for _, own := range numbers {
		for _, epoch := range numbers {
			if got := epochs.May(api.Entry{Epoch: own}, epoch); got != may(own, epoch) {
				t.Errorf("of the Epoch %d at %d: %v", own, epoch, got)
			}
		}
		for d := range uint64(6) {
			if got := epochs.May(api.Entry{Epoch: own}, own+d); got != may(own, own+d) {
				t.Errorf("of the Epoch %d at %d: %v", own, own+d, got)
			}
		}
	}
}

// P15.3: of the two greatest numbers as an Epoch it may at no epoch.
func TestMayNever(t *testing.T) {
	d := dice(3)
	for _, own := range []uint64{maxWord - 1, maxWord} {
		for _, epoch := range numbers {
			if epochs.May(api.Entry{Epoch: own}, epoch) {
				t.Errorf("of the Epoch %d at %d it may", own, epoch)
			}
		}
		for range 20000 {
			if epoch := d.word(); epochs.May(api.Entry{Epoch: own}, epoch) {
				t.Errorf("of the Epoch %d at %d it may", own, epoch)
			}
		}
	}
}

// P15.3: what else an entry says makes no difference.
func TestMayOfEpochAlone(t *testing.T) {
	d := dice(5)
	for range 20000 {
		own, epoch := d.word(), d.word()
		if d.roll(2) == 0 {
			epoch = own + uint64(d.roll(5))
		}
		for _, e := range []api.Entry{
			{Epoch: own},
			{Epoch: own, Birth: epoch, Era: epoch, Ref: api.Ref{Slot: -1}},
			{Epoch: own, Birth: maxWord, Era: maxWord, Ref: api.Ref{Slot: math.MaxInt, Gen: math.MaxUint32, Mark: true}},
			{Epoch: own, Birth: d.word(), Era: d.word(), Ref: api.Ref{Slot: d.roll(300) - 9, Gen: uint32(d.word()), Mark: true}},
		} {
			if got := epochs.May(e, epoch); got != may(own, epoch) {
				t.Fatalf("of %+v at %d: %v", e, epoch, got)
			}
		}
	}
}

// dice: numbers one behind the other, the same each time.
type dice uint64

// roll one of n.
func (d *dice) roll(n int) int {
	*d = *d*6364136223846793005 + 1442695040888963407
	return int(uint64(*d) >> 33 % uint64(n))
}

// word of any bits.
func (d *dice) word() uint64 {
	return uint64(d.roll(1<<31))<<33 ^ uint64(d.roll(1<<31))<<3 ^ uint64(d.roll(8))
}
