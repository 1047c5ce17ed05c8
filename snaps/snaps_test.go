package snaps_test

import (
	"math"
	"slices"
	"testing"

	"ragpicker/api"
	"ragpicker/mems"
	"ragpicker/snaps"
)

const (
	maxWord = uint64(math.MaxUint64)
	threads = 16 // the most there may be, told anew
	fields  = 10 // of a thread, told anew
)

// values of words, at the edges of what bits they have.
var values = []uint64{1, 2, 255, 256, 1<<31 - 1, 1 << 31, 1<<32 - 1, 1 << 32, 1<<48 + 5, 1<<53 + 1, 1 << 63, maxWord - 1, maxWord}

var blocksAt = api.Addr{Kind: api.WdBlocks}

// wordAt: where a thread's word stands.
func wordAt(thread, field int) api.Addr {
	return api.Addr{Kind: api.WdThread, At: thread, Field: field}
}

// kept: where what is read of a word goes to, told anew; the words stand as the chapter names them.
func kept(h *api.Thread, field int) *uint64 {
	return []*uint64{&h.Owner, &h.In, &h.Ack, &h.Epoch, &h.Lo, &h.Hi, &h.Stall, &h.Haz[0], &h.Haz[1], &h.Haz[2]}[field]
}

// others: the words of a thread beside its owner's, in the order of the lines, told anew.
var others = []int{api.ThIn, api.ThAck, api.ThEpoch, api.ThLo, api.ThHi, api.ThStall, api.ThHaz, api.ThHaz + 1, api.ThHaz + 2}

// tale of a snapshot, told anew: the lines as they stand, of whatever answers for the memory.
func tale(load func(api.Addr) uint64) []api.Thread {
	b := load(blocksAt)
	if b > 4 {
		b = 4
	}
	var l []api.Thread
	for i := range 4 * int(b) {
		var h api.Thread
		h.Owner = load(wordAt(i, api.ThOwner))
		if h.Owner != 0 {
			for _, f := range others {
				*kept(&h, f) = load(wordAt(i, f))
			}
		}
		l = append(l, h)
	}
	return l
}

// memory with that many blocks, and words of all kinds that a snapshot is not to look at.
func memory(blocks uint64) *mems.Mem {
	m := mems.New()
	for i, a := range []api.Addr{
		{Kind: api.WdFree}, {Kind: api.WdEpoch}, {Kind: api.WdEra}, {Kind: api.WdPhase}, {Kind: api.WdOrphan},
		{Kind: api.WdSeg}, {Kind: api.WdSeg, At: 1, Field: api.SgParked}, {Kind: api.WdBlock}, {Kind: api.WdBlock, At: 3},
		{Kind: api.WdSlot}, {Kind: api.WdSlot, At: 15, Field: 7}, {Kind: api.WdList}, {Kind: api.WdQueue, Field: api.QuTail},
	} {
		m.Store(a, uint64(1000+i))
	}
	m.Store(blocksAt, blocks)
	return m
}

// set all words of a thread, each unlike all others.
func set(m *mems.Mem, thread int) {
	for f := range fields {
		m.Store(wordAt(thread, f), full(thread, f))
	}
}

// full: what set sets.
func full(thread, field int) uint64 { return uint64(thread+1)<<40 | uint64(field+1) }

// allSet: a memory of that many blocks, all of whose threads, and all behind them, have all words.
func allSet(blocks uint64) *mems.Mem {
	m := memory(blocks)
	for i := range threads {
		set(m, i)
	}
	return m
}

// disown a thread: its other words stay.
func disown(m *mems.Mem, thread int) { m.Store(wordAt(thread, api.ThOwner), 0) }

// nothing is what an empty snapshot has.
func nothing(s api.Snap) bool { return len(s.Threads) == 0 && s.Epoch == 0 }

// same: are they these threads, in memory with no room behind, and the Epoch 0?
func same(s api.Snap, l []api.Thread) bool {
	return slices.Equal(s.Threads, l) && cap(s.Threads) == len(s.Threads) && s.Epoch == 0
}

// beside a step: what others do ahead of it, the first one being 0.
type beside func(step int, m *mems.Mem)

// told: the tale of a memory, what others do beside it, and which accesses it has.
func told(m *mems.Mem, do beside) ([]api.Thread, []api.Access) {
	var seen []api.Access
	l := tale(func(a api.Addr) uint64 {
		if do != nil {
			do(len(seen), m)
		}
		w := m.Load(a)
		seen = append(seen, api.Access{Kind: api.AcLoad, Addr: a, Was: w, Is: w})
		return w
	})
	return l, seen
}

// copied: a memory with the same words.
func copied(m *mems.Mem) *mems.Mem {
	c := mems.New()
	for _, w := range m.Words() {
		c.Store(w.Addr, w.Value)
	}
	return c
}

// step a taker that is not over: one access, which is awaited.
func step(t *testing.T, k *snaps.Taker, m *mems.Mem, want api.Access, ends bool) {
	t.Helper()
	steps := m.Steps()
	if k.Over() || !nothing(k.Got()) {
		t.Fatalf("ahead of the load of %+v it is over: %v, with %+v", want.Addr, k.Over(), k.Got())
	}
	over := k.Step(m)
	if m.Steps() != steps+1 || m.Last() != want {
		t.Fatalf("%d accesses, the last one %+v, want %+v", m.Steps()-steps, m.Last(), want)
	}
	if over != ends || k.Over() != ends {
		t.Fatalf("behind the load of %+v it is over: %v, %v, want %v", want.Addr, over, k.Over(), ends)
	}
}

// takes a snapshot of a memory, beside what others do, and holds it against the tale, access by access.
func takes(t *testing.T, m *mems.Mem, do beside) api.Snap {
	t.Helper()
	want, seen := told(copied(m), do)
	k := snaps.NewTaker()
	for i, a := range seen {
		if do != nil {
			do(i, m)
		}
		step(t, k, m, a, i == len(seen)-1)
	}
	got := k.Got()
	if !same(got, want) {
		t.Fatalf("got %+v, want %+v", got, want)
	}
	if n := snaps.Steps(got); n != len(seen) {
		t.Fatalf("Steps is %d, it took %d", n, len(seen))
	}
	return got
}

// alone: takes a snapshot while nothing changes, and holds the memory against what it was.
func alone(t *testing.T, m *mems.Mem) api.Snap {
	t.Helper()
	was := m.Words()
	got := takes(t, m, nil)
	if is := m.Words(); !slices.Equal(is, was) {
		t.Fatalf("words are %+v, were %+v", is, was)
	}
	return got
}

// P14.1, P14.2: the chapter's example.
func TestExample(t *testing.T) {
	m := mems.New()
	m.Store(blocksAt, 1)
	m.Store(wordAt(2, api.ThOwner), 5)
	m.Store(wordAt(2, api.ThEpoch), 9)
	k, n := snaps.NewTaker(), 1
	for !k.Step(m) {
		n++
	}
	if n != 14 {
		t.Errorf("over behind %d steps, want 14", n)
	}
	got := k.Got()
	if !same(got, []api.Thread{{}, {}, {Owner: 5, Epoch: 9}, {}}) {
		t.Errorf("got %+v", got)
	}
	if n := snaps.Steps(got); n != 14 {
		t.Errorf("Steps is %d, want 14", n)
	}
}

// P14.1: however many blocks there are, of threads that all are owned, and none; those behind them are not read.
func TestBlocks(t *testing.T) {
	for _, c := range []struct {
		blocks uint64
		want   int
	}{{0, 0}, {1, 4}, {2, 8}, {3, 12}, {4, 16}, {5, 16}, {6, 16}, {16, 16}, {255, 16}, {256, 16}, {1 << 16, 16}, {1<<31 + 1, 16}, {1 << 32, 16}, {1<<32 + 1, 16}, {1 << 62, 16}, {1 << 63, 16}, {1<<63 + 2, 16}, {maxWord - 3, 16}, {maxWord, 16}} {
		got := alone(t, allSet(c.blocks))
		if len(got.Threads) != c.want {
			t.Errorf("of %d blocks %d threads, want %d", c.blocks, len(got.Threads), c.want)
		}
		for i, h := range got.Threads {
			for f := range fields {
				if w := *kept(&h, f); w != full(i, f) {
					t.Errorf("of %d blocks the thread %d has at %d %d", c.blocks, i, f, w)
				}
			}
		}
		m := allSet(c.blocks)
		for i := range threads {
			disown(m, i)
		}
		got = alone(t, m)
		if !same(got, make([]api.Thread, c.want)) {
			t.Errorf("of %d blocks that nobody owns %+v", c.blocks, got)
		}
	}
}

// P14.1: no block is over behind one step, with an empty snapshot.
func TestNoBlock(t *testing.T) {
	for _, m := range []*mems.Mem{mems.New(), memory(0), allSet(0)} {
		k := snaps.NewTaker()
		steps := m.Steps()
		if !k.Step(m) || !k.Over() || m.Steps() != steps+1 || m.Last().Addr != blocksAt {
			t.Errorf("over: %v, behind %d steps", k.Over(), m.Steps()-steps)
		}
		if got := k.Got(); !nothing(got) || snaps.Steps(got) != 1 {
			t.Errorf("got %+v", got)
		}
	}
}

// owned: a memory of that many blocks, in which those threads alone have an owner; the other words of all are set.
func owned(blocks uint64, who func(thread int) bool) *mems.Mem {
	m := allSet(blocks)
	for i := range threads {
		if !who(i) {
			disown(m, i)
		}
	}
	return m
}

// P14.1, P14.2: all sets of owners of a block and of two, and of more the first thread, the last one, those alone, or all but them, and each other one.
func TestOwners(t *testing.T) {
	for blocks, sets := range []int{1, 16, 256} {
		for set := range sets {
			alone(t, owned(uint64(blocks), func(i int) bool { return set>>i&1 > 0 }))
		}
	}
	for blocks := uint64(3); blocks <= 5; blocks++ {
		edge := min(4*int(blocks), threads) - 1
		for _, who := range []func(int) bool{
			func(i int) bool { return i == 0 },
			func(i int) bool { return i > 0 },
			func(i int) bool { return i == edge },
			func(i int) bool { return i != edge },
			func(i int) bool { return i == 0 || i == edge },
			func(i int) bool { return i > 0 && i < edge },
			func(i int) bool { return i%2 == 0 },
			func(i int) bool { return i%2 > 0 },
			func(i int) bool { return i%4 == 3 },
			func(i int) bool { return i/4%2 > 0 },
			func(i int) bool { return i > edge },
		} {
			alone(t, owned(blocks, who))
		}
		for one := range threads {
			alone(t, owned(blocks, func(i int) bool { return i == one }))
			alone(t, owned(blocks, func(i int) bool { return i != one }))
		}
	}
}

// P14.1: which words are loaded, written out, of two threads that are owned and two that are not.
func TestLines(t *testing.T) {
	m := owned(1, func(i int) bool { return i == 1 || i == 3 })
	var got []api.Addr
	for k, over := snaps.NewTaker(), false; !over; got = append(got, m.Last().Addr) {
		over = k.Step(m)
	}
	want := []api.Addr{
		{Kind: api.WdBlocks},
		{Kind: api.WdThread, At: 0, Field: 0},
		{Kind: api.WdThread, At: 1, Field: 0}, {Kind: api.WdThread, At: 1, Field: 1}, {Kind: api.WdThread, At: 1, Field: 2}, {Kind: api.WdThread, At: 1, Field: 3}, {Kind: api.WdThread, At: 1, Field: 4},
		{Kind: api.WdThread, At: 1, Field: 5}, {Kind: api.WdThread, At: 1, Field: 6}, {Kind: api.WdThread, At: 1, Field: 7}, {Kind: api.WdThread, At: 1, Field: 8}, {Kind: api.WdThread, At: 1, Field: 9},
		{Kind: api.WdThread, At: 2, Field: 0},
		{Kind: api.WdThread, At: 3, Field: 0}, {Kind: api.WdThread, At: 3, Field: 1}, {Kind: api.WdThread, At: 3, Field: 2}, {Kind: api.WdThread, At: 3, Field: 3}, {Kind: api.WdThread, At: 3, Field: 4},
		{Kind: api.WdThread, At: 3, Field: 5}, {Kind: api.WdThread, At: 3, Field: 6}, {Kind: api.WdThread, At: 3, Field: 7}, {Kind: api.WdThread, At: 3, Field: 8}, {Kind: api.WdThread, At: 3, Field: 9},
	}
	if !slices.Equal(got, want) {
		t.Errorf("loads %+v, want %+v", got, want)
	}
}

// P14.1: each word of each thread alone, all other words of threads being 0; and with an owner beside it.
func TestEachWord(t *testing.T) {
	for thread := range threads {
		for field := range fields {
			for _, v := range values {
				want := make([]api.Thread, threads)
				m := memory(4)
				m.Store(wordAt(thread, field), v)
				if field == api.ThOwner {
					want[thread].Owner = v
				}
				if got := alone(t, m); !same(got, want) { // of a thread that nobody owns the other words are 0
					t.Fatalf("of the word %d of thread %d alone, %d: %+v", field, thread, v, got)
				}
				if field == api.ThOwner {
					continue
				}
				for _, owner := range []uint64{1, 1 << 32, maxWord} {
					m.Store(wordAt(thread, api.ThOwner), owner)
					want[thread] = api.Thread{Owner: owner}
					*kept(&want[thread], field) = v
					if got := alone(t, m); !same(got, want) {
						t.Fatalf("of the word %d of thread %d, %d, owned: %+v", field, thread, v, got)
					}
				}
			}
		}
	}
}

// P14.1: all words are as great as they may be, or equal.
func TestAllWords(t *testing.T) {
	for _, v := range values {
		m := memory(v)
		for i := range threads {
			for f := range fields {
				m.Store(wordAt(i, f), v)
			}
		}
		got := alone(t, m)
		for _, h := range got.Threads {
			if h != (api.Thread{Owner: v, In: v, Ack: v, Epoch: v, Lo: v, Hi: v, Stall: v, Haz: [3]uint64{v, v, v}}) {
				t.Errorf("of words that all are %d: %+v", v, h)
			}
		}
	}
}

// steps of a snapshot of that many threads, all owned.
func stepsOfAll(n int) int { return 1 + n*fields }

// stepOf: the step that loads a thread's word, the first one being 0, if all threads are owned.
func stepOf(thread, field int) int { return stepsOfAll(thread) + field }

// P14.1, P14.3: a word that changes between two steps: ahead of the step that loads it it is told as it is, behind it as it was.
func TestChange(t *testing.T) {
	for thread := range 8 {
		for field := range fields {
			for at := range stepsOfAll(8) {
				got := takes(t, allSet(2), func(step int, m *mems.Mem) {
					if step == at {
						m.Store(wordAt(thread, field), 77)
					}
				})
				want := full(thread, field)
				if at <= stepOf(thread, field) {
					want = 77
				}
				if w := *kept(&got.Threads[thread], field); w != want {
					t.Fatalf("the word %d of thread %d, that changes ahead of step %d: %d, want %d", field, thread, at, w, want)
				}
			}
		}
	}
}

// P14.1, P14.3: one that changes for a moment, and back again, is told as it was at the step that loads it.
func TestMoment(t *testing.T) {
	for thread := range 4 {
		for field := range fields {
			for from := range stepsOfAll(4) {
				for _, long := range []int{1, 2, fields} {
					got := takes(t, allSet(1), func(step int, m *mems.Mem) {
						switch step {
						case from:
							m.Store(wordAt(thread, field), 77)
						case from + long:
							m.Store(wordAt(thread, field), full(thread, field))
						}
					})
					want := full(thread, field)
					if at := stepOf(thread, field); from <= at && at < from+long {
						want = 77
					}
					if w := *kept(&got.Threads[thread], field); w != want {
						t.Fatalf("the word %d of thread %d, another one from step %d on for %d: %d, want %d", field, thread, from, long, w, want)
					}
				}
			}
		}
	}
}

// P14.1, P14.2, P14.3: an owner that goes meanwhile: ahead of the step that loads it nothing else of the thread is read, behind it all of it.
func TestOwnerGoes(t *testing.T) {
	for thread := range 8 {
		for at := range stepsOfAll(8) {
			got := takes(t, allSet(2), func(step int, m *mems.Mem) {
				if step == at {
					disown(m, thread)
				}
			})
			want, steps := api.Thread{}, stepsOfAll(7)+1
			if at > stepOf(thread, api.ThOwner) {
				for f := range fields {
					*kept(&want, f) = full(thread, f)
				}
				steps = stepsOfAll(8)
			}
			if got.Threads[thread] != want || snaps.Steps(got) != steps {
				t.Fatalf("thread %d, whose owner goes ahead of step %d: %+v, %d steps", thread, at, got.Threads[thread], snaps.Steps(got))
			}
		}
	}
}

// P14.1, P14.2, P14.3: an owner that comes meanwhile, while nobody owns any other thread, or all others are owned.
func TestOwnerComes(t *testing.T) {
	for _, rest := range []int{0, 1} { // how many words of each other thread are read beside its owner's
		for thread := range 8 {
			loads := 1 + thread*(1+9*rest) // the step that loads its owner
			for at := range 1 + 7*(1+9*rest) + 10 {
				m := owned(2, func(i int) bool { return rest > 0 && i != thread })
				got := takes(t, m, func(step int, m *mems.Mem) {
					if step == at {
						m.Store(wordAt(thread, api.ThOwner), 9)
					}
				})
				want := api.Thread{}
				if at <= loads {
					want.Owner = 9
					for _, f := range others {
						*kept(&want, f) = full(thread, f)
					}
				}
				if got.Threads[thread] != want {
					t.Fatalf("thread %d, whose owner comes ahead of step %d: %+v", thread, at, got.Threads[thread])
				}
			}
		}
	}
}

// P14.1, P14.3: blocks that come, or go, behind the first step, change nothing.
func TestBlocksChange(t *testing.T) {
	for from := range uint64(6) {
		for to := range uint64(6) {
			for at := range stepsOfAll(threads) {
				got := takes(t, allSet(from), func(step int, m *mems.Mem) {
					if step == at {
						m.Store(blocksAt, to)
					}
				})
				want := from
				if at == 0 {
					want = to
				}
				if len(got.Threads) != 4*int(min(want, 4)) {
					t.Fatalf("%d blocks, %d ahead of step %d: %d threads", from, to, at, len(got.Threads))
				}
			}
		}
	}
}

// dice: numbers one behind the other, the same each time.
type dice uint64

// roll one of n.
func (d *dice) roll(n int) int {
	*d = *d*6364136223846793005 + 1442695040888963407
	return int(uint64(*d) >> 33 % uint64(n))
}

// P14.1 to P14.3: while others change words of all kinds, each word that is told stood there at the step that loaded it, and the steps are the lines'.
func TestWhileOthersWork(t *testing.T) {
	for seed := range 3000 {
		script := dice(seed)
		m := memory(uint64(script.roll(6)))
		for i := range threads {
			if script.roll(3) > 0 {
				set(m, i)
			}
			if script.roll(3) > 0 {
				disown(m, i)
			}
		}
		often := 1 + script.roll(4)
		takes(t, m, func(step int, m *mems.Mem) {
			d := dice(seed*1000 + step)
			for range d.roll(often + 1) {
				i, f := d.roll(threads), d.roll(fields)
				switch d.roll(6) {
				case 0:
					disown(m, i)
				case 1:
					m.Store(wordAt(i, api.ThOwner), uint64(d.roll(1000)))
				case 2:
					m.Store(blocksAt, uint64(d.roll(6)))
				default:
					m.Store(wordAt(i, f), uint64(d.roll(1000)))
				}
			}
		})
	}
}

// P14.3: where words change at each step, each one that is told is the one of its own step, one behind the other.
func TestOneBehindTheOther(t *testing.T) {
	for blocks := uint64(1); blocks <= 4; blocks++ {
		got := takes(t, memory(blocks), func(step int, m *mems.Mem) {
			if step == 0 {
				return // the blocks are loaded
			}
			for i := range threads {
				for f := range fields {
					m.Store(wordAt(i, f), uint64(step))
				}
			}
		})
		next := uint64(1)
		for i, h := range got.Threads {
			for f := range fields {
				if w := *kept(&h, f); w != next {
					t.Fatalf("the word %d of thread %d stood there at step %d, want %d", f, i, w, next)
				}
				next++
			}
		}
	}
}

// P14.3: where nothing changes meanwhile it is what stands there, all at once; of threads that nobody owns all is 0.
func TestAllAtOnce(t *testing.T) {
	for seed := range 500 {
		d := dice(seed)
		m := memory(4)
		for i := range threads {
			for f := range fields {
				m.Store(wordAt(i, f), uint64(d.roll(4))*values[d.roll(len(values))])
			}
		}
		want := make([]api.Thread, threads)
		for _, w := range m.Words() {
			if w.Addr.Kind == api.WdThread {
				*kept(&want[w.Addr.At], w.Addr.Field) = w.Value
			}
		}
		for i := range want {
			if want[i].Owner == 0 {
				want[i] = api.Thread{}
			}
		}
		if got := alone(t, m); !same(got, want) {
			t.Fatalf("got %+v, want %+v", got, want)
		}
	}
}

// P14.1: Got ahead of the first step, behind each, and at the end is new memory each time; what is told may be changed, and changes nothing.
func TestGot(t *testing.T) {
	m := allSet(3)
	want, seen := told(copied(m), nil)
	k := snaps.NewTaker()
	for i := range seen {
		for range 2 {
			if got := k.Got(); !nothing(got) {
				t.Fatalf("behind %d steps it has %+v", i, got)
			}
		}
		k.Step(m)
	}
	was, steps := m.Words(), m.Steps()
	for range 3 {
		got := k.Got()
		if !same(got, want) {
			t.Fatalf("got %+v, want %+v", got, want)
		}
		for i := range got.Threads {
			got.Threads[i] = api.Thread{Owner: 1, Haz: [3]uint64{7, 7, 7}}
		}
		got.Threads = append(got.Threads[:2], api.Thread{})
		got.Epoch = 5
	}
	if m.Steps() != steps || !slices.Equal(m.Words(), was) {
		t.Error("Got is a step, or changed the memory")
	}
	one, other := k.Got(), k.Got()
	one.Threads[0].Owner = 1
	if !same(other, want) {
		t.Error("what is told twice is one memory")
	}
}

// P14.1: what was got stays, whatever becomes of the memory.
func TestGotStays(t *testing.T) {
	m := allSet(4)
	k := snaps.NewTaker()
	for !k.Step(m) {
	}
	got := k.Got()
	want := slices.Clone(got.Threads)
	for i := range threads {
		for f := range fields {
			m.Store(wordAt(i, f), 3)
		}
	}
	m.Store(blocksAt, 1)
	if !same(got, want) || !same(k.Got(), want) {
		t.Errorf("got %+v, then %+v, want %+v", got, k.Got(), want)
	}
}

// still: steps of a taker that is over load nothing, and change nothing.
func still(t *testing.T, k *snaps.Taker, l []api.Thread) {
	t.Helper()
	for _, m := range []*mems.Mem{allSet(4), allSet(0), mems.New(), {}, nil} {
		steps, last, words := m.Steps(), m.Last(), m.Words()
		for range 3 {
			if !k.Over() || !k.Step(m) || !k.Over() {
				t.Error("it is not over")
			}
			if m.Steps() != steps || m.Last() != last || !slices.Equal(m.Words(), words) {
				t.Error("it is a step, or changed the memory")
			}
			if !same(k.Got(), l) {
				t.Errorf("it has %+v, want %+v", k.Got(), l)
			}
		}
	}
}

// P14.1: a Step of one that is over.
func TestOverStays(t *testing.T) {
	for blocks := range uint64(6) {
		for _, m := range []*mems.Mem{allSet(blocks), memory(blocks)} {
			want, _ := told(copied(m), nil)
			k := snaps.NewTaker()
			for !k.Step(m) {
			}
			still(t, k, want)
		}
	}
}

// P14.1: a taker that is not there, and such as no call made, have nothing, and are over.
func TestNoTaker(t *testing.T) {
	var none *snaps.Taker
	var zero snaps.Taker
	for name, k := range map[string]*snaps.Taker{"none": none, "var": &zero, "new": new(snaps.Taker), "literal": {}} {
		t.Run(name, func(t *testing.T) { still(t, k, nil) })
	}
}

// P14.1: each taker that is made begins, and is not over.
func TestNewTaker(t *testing.T) {
	one, other := snaps.NewTaker(), snaps.NewTaker()
	if one == nil || other == nil || one == other || one.Over() || other.Over() || !nothing(one.Got()) {
		t.Error("a taker that was made does not begin")
	}
}

// P14.1: of a memory that is not there, or that no call made, there is no block.
func TestNoMemory(t *testing.T) {
	var zero mems.Mem
	for _, m := range []*mems.Mem{nil, &zero, new(mems.Mem)} {
		k := snaps.NewTaker()
		if !k.Step(m) || !k.Over() || !nothing(k.Got()) || m.Steps() != 0 {
			t.Errorf("it is over: %v, with %+v", k.Over(), k.Got())
		}
	}
}

// P14.1: a memory that is gone from some step on: all that is read from there is 0.
func TestMemoryGoes(t *testing.T) {
	for gone := range stepsOfAll(8) + 1 {
		m := allSet(2)
		seen := 0
		want := tale(func(a api.Addr) uint64 {
			seen++
			if seen > gone {
				return 0
			}
			return m.Load(a)
		})
		k := snaps.NewTaker()
		for i := range seen {
			if k.Over() {
				t.Fatalf("gone from step %d on: over behind %d steps, want %d", gone, i, seen)
			}
			if i < gone {
				k.Step(m)
			} else {
				k.Step(nil)
			}
		}
		if got := k.Got(); !k.Over() || !same(got, want) {
			t.Fatalf("gone from step %d on: over: %v, with %+v, want %+v", gone, k.Over(), got, want)
		}
	}
}

// P14.1: of which memory a step is, that it loads of: a taker keeps none.
func TestTwoMemories(t *testing.T) {
	one, other := allSet(1), memory(2)
	for i := range threads {
		for f := range fields {
			other.Store(wordAt(i, f), 7)
		}
	}
	k := snaps.NewTaker()
	for i := range stepsOfAll(4) {
		m := one
		if i%2 > 0 {
			m = other
		}
		steps := m.Steps()
		if over := k.Step(m); over != (i == stepsOfAll(4)-1) || m.Steps() != steps+1 {
			t.Fatalf("step %d: over: %v", i, over)
		}
	}
	for i, h := range k.Got().Threads {
		for f := range fields {
			want := full(i, f)
			if stepOf(i, f)%2 > 0 {
				want = 7
			}
			if w := *kept(&h, f); w != want {
				t.Errorf("the word %d of thread %d: %d, want %d", f, i, w, want)
			}
		}
	}
}

// P14.1: takers whose steps come in whatever order each have a snapshot of their own.
func TestManyTakers(t *testing.T) {
	for seed := range 100 {
		d := dice(seed)
		m := owned(uint64(1+d.roll(4)), func(int) bool { return d.roll(2) > 0 })
		var all []*snaps.Taker
		for range 4 {
			all = append(all, snaps.NewTaker())
		}
		wants := make([][]api.Thread, len(all))
		reads := make([][]uint64, len(all)) // what each one loaded
		for left := len(all); left > 0; {
			i := d.roll(len(all))
			if all[i].Over() {
				continue
			}
			if d.roll(3) == 0 {
				m.Store(wordAt(d.roll(threads), d.roll(fields)), uint64(d.roll(3)))
			}
			over := all[i].Step(m)
			reads[i] = append(reads[i], m.Last().Is)
			if over {
				left--
				n := 0
				wants[i] = tale(func(api.Addr) uint64 { n++; return reads[i][n-1] })
			}
		}
		for i, k := range all {
			if !same(k.Got(), wants[i]) {
				t.Fatalf("taker %d has %+v, want %+v", i, k.Got(), wants[i])
			}
		}
	}
}

// P14.1, R1: a copy of a taker goes on by itself, and so does the taker; neither panics, or goes on for ever.
func TestCopy(t *testing.T) {
	for at := range stepsOfAll(8) + 1 {
		m := allSet(2)
		k := snaps.NewTaker()
		for range at {
			k.Step(m)
		}
		c := *k
		later := memory(2)
		for n := at; n < stepsOfAll(8); n++ {
			if c.Over() {
				t.Fatalf("a copy behind %d steps is over ahead of step %d", at, n)
			}
			for i := range threads {
				for f := range fields {
					later.Store(wordAt(i, f), 7)
				}
			}
			c.Step(later)
			if at == 0 && n == 0 {
				continue
			}
			if want := n == stepsOfAll(8)-1; c.Over() != want || k.Over() {
				t.Fatalf("a copy behind %d steps, ahead of step %d: it is over: %v, the taker: %v", at, n, c.Over(), k.Over())
			}
		}
		for !k.Step(m) {
		}
		for i := range 8 {
			one, other := k.Got().Threads[i], c.Got().Threads[i]
			for f := range fields {
				want := full(i, f)
				if w := *kept(&one, f); w != want {
					t.Fatalf("the word %d of thread %d: %d, want %d", f, i, w, want)
				}
				if stepOf(i, f) >= at {
					want = 7
				}
				if w := *kept(&other, f); w != want {
					t.Fatalf("of a copy behind %d steps the word %d of thread %d: %d, want %d", at, f, i, w, want)
				}
			}
		}
	}
}

// P14.2: one, and of each thread one, or 10.
func TestSteps(t *testing.T) {
	no, yes := api.Thread{}, api.Thread{Owner: 1}
	for name, c := range map[string]struct {
		s    api.Snap
		want int
	}{
		"none":                      {api.Snap{}, 1},
		"a list of none":            {api.Snap{Threads: []api.Thread{}}, 1},
		"an epoch":                  {api.Snap{Epoch: maxWord}, 1},
		"nobody's":                  {api.Snap{Threads: []api.Thread{no}}, 2},
		"somebody's":                {api.Snap{Threads: []api.Thread{yes}}, 11},
		"of a great number":         {api.Snap{Threads: []api.Thread{{Owner: maxWord}}}, 11},
		"beyond 32 bits":            {api.Snap{Threads: []api.Thread{{Owner: 1 << 32}}}, 11},
		"of the last bit":           {api.Snap{Threads: []api.Thread{{Owner: 1 << 63}}}, 11},
		"nobody's, all other words": {api.Snap{Threads: []api.Thread{{In: 1, Ack: 1, Epoch: 1, Lo: 1, Hi: 1, Stall: 1, Haz: [3]uint64{1, 1, 1}}}}, 2},
		"all words":                 {api.Snap{Threads: []api.Thread{{Owner: 1, In: 1, Ack: 1, Epoch: 1, Lo: 1, Hi: 1, Stall: 1, Haz: [3]uint64{1, 1, 1}}}}, 11},
		"some of each":              {api.Snap{Threads: []api.Thread{no, yes, no, yes, yes}, Epoch: 9}, 33},
		"the first one":             {api.Snap{Threads: []api.Thread{yes, no, no}}, 13},
		"the last one":              {api.Snap{Threads: []api.Thread{no, no, yes}}, 13},
		"all there may be":          {api.Snap{Threads: slices.Repeat([]api.Thread{yes}, 16)}, 161},
		"nobody's there may be":     {api.Snap{Threads: slices.Repeat([]api.Thread{no}, 16)}, 17},
		"one more than may be":      {api.Snap{Threads: slices.Repeat([]api.Thread{yes}, 17)}, 171},
		"many more than may be":     {api.Snap{Threads: slices.Repeat([]api.Thread{yes, no}, 5000)}, 55001},
	} {
		was := slices.Clone(c.s.Threads)
		for range 2 {
			if n := snaps.Steps(c.s); n != c.want {
				t.Errorf("%s: %d, want %d", name, n, c.want)
			}
		}
		if !slices.Equal(c.s.Threads, was) {
			t.Errorf("%s: it is changed", name)
		}
	}
}

// P14.2: for however many threads with an owner there are, and without.
func TestStepsOfAll(t *testing.T) {
	for with := range 40 {
		for without := range 40 {
			l := append(slices.Repeat([]api.Thread{{Owner: uint64(with + 1)}}, with), slices.Repeat([]api.Thread{{Lo: 4}}, without)...)
			if n, want := snaps.Steps(api.Snap{Threads: l}), 1+10*with+without; n != want {
				t.Fatalf("%d with an owner, %d without: %d, want %d", with, without, n, want)
			}
		}
	}
}
