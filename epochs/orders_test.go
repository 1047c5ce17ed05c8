package epochs_test

import (
	"slices"
	"testing"

	"ragpicker/api"
	"ragpicker/epochs"
	"ragpicker/mems"
)

// P15.1, P15.2: many operations at one time, in many orders of steps, of whatever words, which others change between: each step is that of the lines.
func TestLinesAnyOrder(t *testing.T) {
	type ending struct {
		last  api.AcKind
		moved bool
	}
	ends := map[ending]int{}
	for seed := range 300 {
		d := dice(seed)
		from := epochsOf[d.roll(len(epochsOf))].epoch
		w := memory(from, uint64(d.roll(6)))
		often := 1 + d.roll(20) // steps that lie between two changes of others, about
		meddle := func() {
			near := from + uint64(d.roll(5)) - 2
			switch d.roll(12) {
			case 0:
				w.put(epochAt, near)
			case 1:
				w.put(blocksAt, blocksOf[d.roll(len(blocksOf))].word)
			case 2:
				w.put(wordAt(d.roll(threads)), d.word())
			case 3, 4, 5:
				w.put(wordAt(d.roll(threads)), 2*near+uint64(d.roll(2)))
			default:
				w.put(wordAt(d.roll(threads)), 0)
			}
		}
		ops, tales := make([]operation, 6), make([]*tale, 6)
		for n := 0; n < 600 || slices.ContainsFunc(tales, func(x *tale) bool { return x != nil && !x.over }); n++ {
			i := d.roll(len(ops))
			if ops[i] == nil || tales[i].over && n < 600 {
				switch thread := d.roll(threads); d.roll(6) {
				case 0:
					ops[i], tales[i] = epochs.NewEnter(thread), tell(w.by, enter(thread))
				case 1, 2:
					ops[i], tales[i] = epochs.NewExit(thread), tell(w.by, exit(thread))
				default:
					ops[i], tales[i] = epochs.NewAdvance(), tell(w.by, advance)
				}
			}
			if tales[i].over {
				ended(t, ops[i], w.m, tales[i].moved)
				continue
			}
			if d.roll(often) == 0 {
				meddle()
			}
			want := tales[i].step()
			step(t, ops[i], w.m, want, tales[i].over)
			if tales[i].over {
				ended(t, ops[i], w.m, tales[i].moved)
				ends[ending{want.Kind, tales[i].moved}]++
			}
		}
		w.same(t)
	}
	for _, e := range []ending{{api.AcStore, false}, {api.AcLoad, false}, {api.AcCAS, false}, {api.AcCAS, true}} {
		if ends[e] < 500 {
			t.Errorf("of the ends %+v came alone %d", e, ends[e])
		}
	}
	if len(ends) != 4 {
		t.Errorf("of 4 ends that there are came %v", ends)
	}
}

// client: somebody who has a thread, enters, and exits, so often. All of it stands in the client itself, so that a copy goes its own way.
type client struct {
	thread int
	enter  epochs.Enter // over: it does not enter now
	exit   epochs.Exit
	in     bool   // from its Enter's last line on, till its Exit
	since  uint64 // the epoch as it came in
	moves  int    // how often the epoch moved since then
	done   int    // how often it entered
}

// idle: has it nothing under way?
func (c *client) idle() bool { return c.enter.Over() && c.exit.Over() }

// step of a client: it enters, or exits, if nothing is under way.
func (c *client) step(m *mems.Mem) {
	switch {
	case c.idle() && !c.in:
		c.enter = *epochs.NewEnter(c.thread)
		c.done++
	case c.idle():
		c.exit = *epochs.NewExit(c.thread)
	}
	if !c.exit.Over() {
		c.exit.Step(m)
		c.in = false
		return
	}
	if c.enter.Step(m) {
		c.in, c.since, c.moves = true, epochOf(m), 0
	}
}

// mover: somebody who advances the epoch, so often.
type mover struct {
	advance epochs.Advance
	done    int // how often it began to
}

// table: the words that an operation looks at, or changes.
type table struct {
	epoch, blocks uint64
	threads       [threads]uint64
}

// tableOf a memory, by what it tells; no step is taken for that.
func tableOf(m *mems.Mem) table {
	var l table
	for _, w := range m.Words() {
		switch w.Addr.Kind {
		case api.WdEpoch:
			l.epoch = w.Value
		case api.WdBlocks:
			l.blocks = w.Value
		case api.WdThread:
			l.threads[w.Addr.At] = w.Value
		}
	}
	return l
}

// epochOf a memory.
func epochOf(m *mems.Mem) uint64 { return tableOf(m).epoch }

// world of clients and movers, and a memory.
type world struct {
	m       *mems.Mem
	clients []client
	movers  []mover
	moves   int // of the epoch, in all
}

// newWorld: of that epoch, of so many blocks, with a client of each of these threads.
func newWorld(epoch, blocks uint64, movers int, of ...int) *world {
	w := &world{m: mems.New(), movers: make([]mover, movers)}
	w.m.Store(epochAt, epoch)
	w.m.Store(blocksAt, blocks)
	for _, thread := range of {
		w.clients = append(w.clients, client{thread: thread})
	}
	return w
}

// copied: one that goes its own way.
func (w *world) copied() *world {
	c := &world{mems.New(), slices.Clone(w.clients), slices.Clone(w.movers), w.moves}
	for _, x := range w.m.Words() {
		c.m.Store(x.Addr, x.Value)
	}
	return c
}

// move: a step of a mover. It is told that the epoch moved, if and only if it did by its step: to the next one.
func (w *world) move(t *testing.T, i int) {
	t.Helper()
	x := &w.movers[i]
	if x.advance.Over() {
		x.advance = *epochs.NewAdvance()
		x.done++
	}
	was := epochOf(w.m)
	over := x.advance.Step(w.m)
	if is := epochOf(w.m); is == was {
		if x.advance.Got() {
			t.Fatalf("the epoch is %d, and is told to have moved", is)
		}
		return
	} else if is != was+1 || !over || !x.advance.Got() {
		t.Fatalf("the epoch moved from %d to %d; over: %v, told: %v", was, is, over, x.advance.Got())
	}
	w.moves++
	for k := range w.clients {
		if c := &w.clients[k]; c.in {
			c.moves++
		}
	}
}

// holds: what P15.4 says of each moment: of who is in, of what is retired meanwhile, and of whoever advances alone.
func (w *world) holds(t *testing.T) {
	t.Helper()
	now, free := tableOf(w.m), true
	epoch := now.epoch
	for _, c := range w.clients {
		if !c.in {
			continue
		}
		if c.moves > 1 {
			t.Fatalf("thread %d is in since %d, and the epoch moved %d times, to %d", c.thread, c.since, c.moves, epoch)
		}
		for own := c.since; own != epoch+1; own++ {
			if epochs.May(api.Entry{Epoch: own}, epoch) {
				t.Fatalf("thread %d is in since %d, and what was retired at %d may go at %d", c.thread, c.since, own, epoch)
			}
		}
		if word := now.threads[c.thread]; word%2 == 0 {
			t.Fatalf("thread %d is in, and its word is %d", c.thread, word)
		} else if word != epoch+epoch+1 && uint64(c.thread) < 4*now.blocks {
			free = false
		}
	}
	alone := w.copied()
	x := epochs.NewAdvance()
	for n := 0; !x.Step(alone.m); n++ {
		if n > 3+16 {
			t.Fatal("an Advance alone is not over")
		}
	}
	if x.Got() != free {
		t.Fatalf("an Advance alone from %d moves: %v; those who are in are %+v", epoch, x.Got(), w.clients)
	}
}

// P15.4: while a thread is in the epoch moves once, and not again; when none is in any more each one moves.
func TestMovesOnce(t *testing.T) {
	for _, e := range epochsOf {
		for thread := range threads {
			w := newWorld(e.epoch, 4, 1, thread)
			c := &w.clients[0]
			advances := func(want bool) {
				t.Helper()
				moves := w.moves
				w.move(t, 0)
				for n := 0; !w.movers[0].advance.Over() && n < 100; n++ {
					w.move(t, 0)
				}
				if moved := w.moves > moves; moved != want {
					t.Fatalf("from %d, thread %d is in: %v: moved: %v", e.epoch, thread, c.in, moved)
				}
				w.holds(t)
			}
			c.step(w.m)
			c.step(w.m)
			for _, want := range []bool{true, false, false, false} {
				advances(want)
			}
			c.step(w.m)
			for range 4 {
				advances(true)
			}
			if epochOf(w.m) != e.epoch+5 || c.in {
				t.Fatalf("from %d it moved to %d", e.epoch, epochOf(w.m))
			}
		}
	}
}

// P15.4: an Enter that read the epoch long ago: one Advance that passed its thread moves, none behind that.
func TestOldEpoch(t *testing.T) {
	for _, e := range epochsOf {
		for _, old := range []int{0, 1, 2, 3, 9} { // how often it moved between the Enter's lines
			for behind := range 7 { // steps of an Advance ahead of its last line
				for _, thread := range []int{0, 1, 3} {
					w := newWorld(e.epoch, 1, 2, thread)
					c := &w.clients[0]
					c.step(w.m)
					for range 7 * old {
						w.move(t, 0)
					}
					for range behind {
						w.move(t, 1)
					}
					c.step(w.m)
					w.holds(t)
					for range 40 {
						w.move(t, 1)
						w.move(t, 0)
						w.holds(t)
					}
					want := 0
					if old == 0 || behind > 2+thread {
						want = 1
					}
					if c.moves != want {
						t.Fatalf("from %d, moved %d times, an Advance %d steps ahead of thread %d: it moved %d times since", e.epoch, old, behind, thread, c.moves)
					}
				}
			}
		}
	}
}

// P15.4: many threads, and many who advance, in many orders of steps: while one is in the epoch moves once at most, and what was retired meanwhile may not go.
func TestManyThreads(t *testing.T) {
	type retired struct {
		entry api.Entry
		ahead [threads]int // how often each client had entered, if it was in; of others 0
	}
	moves, old, kept := 0, 0, 0
	for seed := range 120 {
		d := dice(seed)
		epoch := epochsOf[d.roll(len(epochsOf))].epoch - uint64(d.roll(4))
		blocks := 1 + d.roll(4)
		var of []int
		for i := range 4 * blocks {
			if d.roll(3) > 0 {
				of = append(of, i)
			}
		}
		w := newWorld(epoch, uint64(blocks), 1+d.roll(5), of...)
		tied, eager := 1+d.roll(12), 1+d.roll(6)
		var l []retired
		for range 300 {
			if who := d.roll(len(of) + eager*len(w.movers)); who < len(of) {
				c := &w.clients[who]
				if c.step(w.m); c.in && tableOf(w.m).threads[c.thread] != 2*c.since+1 {
					old++
				}
			} else {
				for range 1 + d.roll(tied) {
					w.move(t, who%len(w.movers))
				}
			}
			if d.roll(4) == 0 {
				r := retired{entry: api.Entry{Epoch: epochOf(w.m)}}
				for i, c := range w.clients {
					if c.in {
						r.ahead[i] = c.done
					}
				}
				l = append(l, r)
			}
			w.holds(t)
			now := epochOf(w.m)
			for _, r := range l {
				for i, c := range w.clients {
					if !c.in || r.ahead[i] != c.done {
						continue
					}
					if kept++; epochs.May(r.entry, now) {
						t.Fatalf("seed %d: what was retired at %d may go at %d, while thread %d is in since then", seed, r.entry.Epoch, now, c.thread)
					}
				}
			}
		}
		for i := range w.clients {
			for c, n := &w.clients[i], 0; n < 9 && (c.in || !c.idle()); n++ {
				c.step(w.m)
			}
		}
		w.holds(t) // none is in: whoever is alone moves
		moves += w.moves
	}
	t.Logf("%d moves, %d who entered at an older epoch, %d looks at what is kept", moves, old, kept)
	if moves < 500 || old < 20 || kept < 10000 {
		t.Errorf("%d moves alone, %d who entered at an older epoch, %d looks at what is kept", moves, old, kept)
	}
}

// P15.4: each order that there is of the steps of a few who enter and exit, and of a few who advance.
func TestEachOrder(t *testing.T) {
	for _, c := range []struct {
		name    string
		epoch   uint64
		blocks  uint64
		comes   bool // one more block does, whose threads are entered behind that
		of      []int
		enters  int
		movers  int
		begins  int
		moments int // no fewer there must be
	}{
		{"one thread, that enters three times, one mover", 5, 1, false, []int{0}, 3, 1, 4, 200},
		{"one thread, that enters twice, two movers", 5, 1, false, []int{2}, 2, 2, 3, 3000},
		{"one thread, three movers", 0, 1, false, []int{3}, 1, 3, 1, 1000},
		{"two threads, that enter twice, one mover", half - 2, 1, false, []int{0, 3}, 2, 1, 3, 1000},
		{"two threads, two movers", maxWord - 1, 1, false, []int{1, 2}, 1, 2, 2, 3000},
		{"three threads, one mover", maxWord, 1, false, []int{0, 1, 3}, 1, 1, 3, 1000},
		{"two threads, two movers, a block that comes", 7, 1, true, []int{0, 6}, 1, 2, 1, 3000},
		{"one thread of no block yet, one mover, a block that comes", 7, 0, true, []int{1}, 2, 1, 3, 200},
	} {
		o := orders{t: t, enters: c.enters, begins: c.begins, seen: map[moment]bool{}}
		o.from(newWorld(c.epoch, c.blocks, c.movers, c.of...), c.comes)
		t.Logf("%s: %d moments, %d ends, %d moves at most", c.name, len(o.seen), o.ends, o.most)
		if o.ends == 0 || len(o.seen) < c.moments || o.most < 2 {
			t.Errorf("%s: %d moments, %d ends, %d moves at most", c.name, len(o.seen), o.ends, o.most)
		}
	}
}

// moment: all words, and what each one is at.
type moment struct {
	table
	clients [3]client
	movers  [3]mover
}

// orders of steps, gone through from moment to moment.
type orders struct {
	t              *testing.T
	enters, begins int             // how often each client enters, each mover advances
	seen           map[moment]bool // from two that are alike the same things follow
	ends, most     int
}

// from a moment on: each one that has something to do goes next once.
func (o *orders) from(w *world, comes bool) {
	k := moment{table: tableOf(w.m)}
	copy(k.clients[:], w.clients)
	copy(k.movers[:], w.movers)
	if o.seen[k] {
		return
	}
	o.seen[k] = true
	w.holds(o.t)
	ended := true
	on := func(does func(*world), comes bool) {
		ended = false
		next := w.copied()
		does(next)
		o.from(next, comes)
	}
	for i, c := range w.clients {
		if uint64(c.thread) < 4*k.blocks && (c.in || !c.idle() || c.done < o.enters) {
			on(func(w *world) { w.clients[i].step(w.m) }, comes)
		}
	}
	for i, x := range w.movers {
		if !x.advance.Over() || x.done < o.begins {
			on(func(w *world) { w.move(o.t, i) }, comes)
		}
	}
	if comes {
		on(func(w *world) { w.m.Store(blocksAt, k.blocks+1) }, false)
	}
	if ended {
		o.ends++
		o.most = max(o.most, w.moves)
	}
}
