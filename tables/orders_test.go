package tables

import (
	"iter"
	"slices"
	"testing"

	"ragpicker/api"
	"ragpicker/mems"
)

// stopped: a telling that is not gone on with.
type stopped struct{}

// tale: an operation, told anew as what is done line by line, that waits ahead of each access.
type tale struct {
	by   map[api.Addr]uint64 // the words, which all tales share
	wait func(struct{}) bool
	last api.Access
	at   int // the line at which it ends
	got  end
	next func() (struct{}, bool)
	stop func()
	over bool
}

// tell a tale: it waits ahead of its first access.
func tell(by map[api.Addr]uint64, do func(*tale) end) *tale {
	t := &tale{by: by, got: yet}
	t.next, t.stop = iter.Pull(func(yield func(struct{}) bool) {
		defer func() {
			if x := recover(); x != nil {
				if _, ok := x.(stopped); !ok {
					panic(x)
				}
			}
		}()
		t.wait = yield
		got := do(t)
		t.over, t.got = true, got
	})
	t.next()
	return t
}

// step of it: the access.
func (t *tale) step() api.Access {
	t.next()
	return t.last
}

// pause till the next step.
func (t *tale) pause() {
	if !t.wait(struct{}{}) {
		panic(stopped{})
	}
}

func (t *tale) load(a api.Addr) uint64 {
	t.pause()
	t.last = ld(a, t.by[a])
	return t.by[a]
}

func (t *tale) store(a api.Addr, v uint64) {
	t.pause()
	t.last = st(a, t.by[a], v)
	t.by[a] = v
}

func (t *tale) cas(a api.Addr, was, is uint64) bool {
	t.pause()
	if t.last = casNot(a, t.by[a]); t.by[a] != was {
		return false
	}
	t.last = cas(a, was, is)
	t.by[a] = is
	return true
}

// down: one less of a block.
func (t *tale) down(block int) {
	for {
		if w := t.load(wordAt(block)); t.cas(wordAt(block), w, fewer(w)) {
			return
		}
	}
}

// up: one more of a block, if it has room.
func (t *tale) up(block int) bool {
	for {
		w := t.load(wordAt(block))
		if !open(w) {
			return false
		}
		if n, _ := told(w); t.cas(wordAt(block), w, n+1) {
			return true
		}
	}
}

// ends at a line, with that.
func (t *tale) ends(at int, got end) end {
	t.at = at
	return got
}

// join of an owner.
func (t *tale) join(owner uint64) end {
	blocks := t.load(blocksAt)
	if blocks == 0 {
		return t.ends(1, fails(api.ErrFull))
	}
	for block := range int(min(blocks, 4)) {
		if !t.up(block) {
			continue
		}
		for thread := 4 * block; thread < 4*block+4; thread++ {
			if t.cas(ownerAt(thread), 0, owner+1) {
				for f := 1; f <= 9; f++ {
					t.store(threadAt(thread, f), 0)
				}
				return t.ends(5, end{thread, api.OK})
			}
		}
		t.down(block)
		return t.ends(7, fails(api.ErrBusy))
	}
	return t.ends(2, fails(api.ErrFull))
}

// leave of a thread.
func (t *tale) leave(thread int) end {
	if t.load(ownerAt(thread)) == 0 {
		return t.ends(1, fails(api.ErrNone))
	}
	if t.load(threadAt(thread, thIn)) != 0 {
		return t.ends(2, fails(api.ErrState))
	}
	t.store(threadAt(thread, thStall), 0)
	t.store(ownerAt(thread), 0)
	t.down(thread / 4)
	return t.ends(6, fails(api.OK))
}

// P10.1, P10.2: in many orders of steps, of whatever words, which others change between: each step is that of the lines.
func TestLinesAnyOrder(t *testing.T) {
	x := numbers(88172645463325252)
	type ending struct {
		leave bool
		at    int
		e     api.Errno
	}
	ends := map[ending]int{}
	pick := func(l ...uint64) uint64 { return l[x.below(len(l))] }
	for round := range 400 {
		by := map[api.Addr]uint64{}
		m := mems.New()
		put := func(a api.Addr, v uint64) {
			by[a] = v
			m.Store(a, v)
		}
		meddle := func() {
			thread := x.below(api.MaxThreads)
			switch x.below(9) {
			case 0:
				put(blocksAt, pick(0, 1, 2, 3, 4, 4, 5, 1<<63, maxWord))
			case 1, 2, 3:
				put(wordAt(x.below(api.MaxBlocks)), pick(0, 1, 2, 3, 3, 4, 5, 1<<32-1)|pick(0, 0, 0, 0, isShut)|pick(0, 0, 0, 1<<33, 1<<63))
			case 4, 5:
				put(ownerAt(thread), pick(0, 1, 2, 9, maxWord))
			case 6:
				put(ownerAt(thread), 0)
			case 7:
				put(threadAt(thread, thIn), pick(0, 0, 0, 1, maxWord))
			case 8:
				put(threadAt(thread, 1+x.below(9)), pick(0, 1, 2, maxWord))
			}
		}
		for range 100 {
			meddle()
		}
		ops, tales := make([]operation, 6), make([]*tale, 6)
		often := 2 + x.below(30)
		for i := range 600 {
			n := x.below(len(ops))
			if ops[n] == nil || tales[n].over {
				if x.below(2) == 0 {
					owner := []int{0, 1, 8, maxInt}[x.below(4)]
					ops[n], tales[n] = NewJoin(owner), tell(by, func(t *tale) end { return t.join(uint64(owner)) })
				} else {
					thread := x.below(api.MaxThreads)
					ops[n], tales[n] = NewLeave(thread), tell(by, func(t *tale) end { return t.leave(thread) })
				}
			}
			if x.below(often) == 0 {
				meddle()
			}
			want := tales[n].step()
			step(t, "any order", ops[n], m, i, want, tales[n].over)
			if got := ended(ops[n]); got != tales[n].got {
				t.Errorf("got %v, want %v", got, tales[n].got)
			}
			if tales[n].over {
				_, leave := ops[n].(*Leave)
				ends[ending{leave, tales[n].at, tales[n].got.e}]++
			}
			if t.Failed() {
				t.Fatalf("in round %d, at step %d", round, i)
			}
		}
		for _, o := range tales {
			if o != nil {
				o.stop()
			}
		}
		for _, w := range m.Words() {
			if by[w.Addr] != w.Value {
				t.Fatalf("round %d: the word %+v is %#x, want %#x", round, w.Addr, w.Value, by[w.Addr])
			}
			delete(by, w.Addr)
		}
		for a, v := range by {
			if v != 0 {
				t.Fatalf("round %d: the word %+v is 0, want %#x", round, a, v)
			}
		}
	}
	if len(ends) != 4+3 {
		t.Errorf("of 7 ends that there are came %v", ends)
	}
	for e, n := range ends {
		if n < 100 {
			t.Errorf("the end %+v came %d times alone", e, n)
		}
	}
}

// client: somebody who joins, and leaves what they joined, one behind the other. All of it stands in the client itself, so that a copy goes its own way.
type client struct {
	join    Join // over: it joins nothing now
	leave   Leave
	thread  int // what it joined, and did not begin to leave yet; none: nothing
	leaving int // what it leaves now; none: nothing
	done    int // how many things it began
	failed  int // how many of its Joins there was no room for
}

// newClient: one that has nothing.
func newClient() client { return client{thread: none, leaving: none} }

// idle: has it nothing under way?
func (c *client) idle() bool { return c.join.Over() && c.leave.Over() }

// begin to leave what it has, or to join by an owner.
func (c *client) begin(owner int) {
	c.done++
	if c.thread < 0 {
		c.join = *NewJoin(owner)
		return
	}
	c.leave, c.leaving, c.thread = *NewLeave(c.thread), c.thread, none
}

// step of what it has under way; what it is told must be such as may be.
func (c *client) step(t *testing.T, m *mems.Mem) {
	t.Helper()
	if !c.leave.Over() {
		if c.leave.Step(m) {
			if e := c.leave.Got(); e != api.OK {
				t.Fatalf("what is joined cannot be left: %d", e)
			}
			c.leaving = none
		}
		return
	}
	if !c.join.Step(m) {
		return
	}
	thread, e := c.join.Got()
	switch {
	case e == api.OK && thread >= 0 && thread < api.MaxThreads:
		c.thread = thread
	case e == api.ErrFull && thread == none:
		c.failed++
	default: // who counted as joined finds a thread, since of those at its place, or behind it, there never are more than threads
		t.Fatalf("a Join is over with %d, %d", thread, e)
	}
}

// world of clients, a memory, and threads that others have, which they do not leave.
type world struct {
	m       *mems.Mem
	clients []client
	others  [api.MaxThreads]bool
}

// newWorld: of so many blocks, closed or not, in which others have threads.
func newWorld(blocks uint64, closed [api.MaxBlocks]bool, clients int, others ...int) *world {
	w := &world{m: memory(word(blocksAt, blocks))}
	for range clients {
		w.clients = append(w.clients, newClient())
	}
	var joined [api.MaxBlocks]uint64
	for _, thread := range others {
		w.others[thread] = true
		w.m.Store(ownerAt(thread), 999)
		joined[thread/4]++
	}
	for i, n := range joined {
		w.m.Store(wordAt(i), bw(n, closed[i]))
	}
	return w
}

// words of it: of blocks, and owners.
func (w *world) words() (blocks [api.MaxBlocks]uint64, owners [api.MaxThreads]uint64) {
	for _, x := range w.m.Words() {
		switch {
		case x.Addr.Kind == api.WdBlock:
			blocks[x.Addr.At] = x.Value
		case x.Addr.Kind == api.WdThread && x.Addr.Field == thOwner:
			owners[x.Addr.At] = x.Value
		}
	}
	return blocks, owners
}

// idle: is nothing under way?
func (w *world) idle() bool {
	return !slices.ContainsFunc(w.clients, func(c client) bool { return !c.idle() })
}

// holds: what P10.3 says of each moment, and, if nothing is under way, of that. A client's owner is its place.
func (w *world) holds(t *testing.T) {
	t.Helper()
	blocks, owners := w.words()
	has := w.others
	for i := range w.clients {
		c := &w.clients[i]
		if c.thread < 0 {
			continue
		}
		if has[c.thread] {
			t.Fatalf("thread %d is joined by two, client %d one of them", c.thread, i)
		}
		has[c.thread] = true
		if owners[c.thread] != uint64(i)+1 {
			t.Fatalf("thread %d has the owner %d, joined by client %d", c.thread, owners[c.thread], i)
		}
	}
	idle := w.idle()
	for i, b := range blocks {
		n := uint64(0)
		for k := range 4 {
			if owners[4*i+k] != 0 {
				n++
			}
			if (owners[4*i+k] != 0) != has[4*i+k] && idle {
				t.Fatalf("thread %d has the owner %d, when nothing is under way", 4*i+k, owners[4*i+k])
			}
		}
		joined, _ := told(b)
		if joined < n || idle && joined != n {
			t.Fatalf("%d threads of block %d have an owner, and its count is %d; nothing is under way: %v", n, i, joined, idle)
		}
	}
}

// alone: somebody who is alone joins, if any block that is not closed has room, and leaves again: the words are as they were, but those that were wiped.
func (w *world) alone(t *testing.T) {
	t.Helper()
	blocks, owners := w.words()
	have := int(min(w.m.Load(blocksAt), 4))
	room := slices.IndexFunc(blocks[:have], open)
	c := newClient()
	c.begin(500)
	for n := 0; !c.idle(); n++ {
		if c.step(t, w.m); n > 4+2*4+4+9 {
			t.Fatal("a Join alone is not over")
		}
	}
	if (c.thread >= 0) != (room >= 0) {
		t.Fatalf("alone it joined %d, of the blocks %v of %d", c.thread, blocks, have)
	}
	if room < 0 {
		return
	}
	if c.thread/4 != room || owners[c.thread] != 0 || w.m.Load(ownerAt(c.thread)) != 501 {
		t.Fatalf("alone it joined %d, of the blocks %v, and the owners %v", c.thread, blocks, owners)
	}
	is, _ := w.words()
	if is[room] != blocks[room]+1 {
		t.Fatalf("alone it made of the block %d the block %d", blocks[room], is[room])
	}
	for c.begin(0); !c.idle(); {
		c.step(t, w.m)
	}
	if b, o := w.words(); b != blocks || o != owners {
		t.Fatalf("left are %v, %v, that were %v, %v", b, o, blocks, owners)
	}
}

// P10.3: many who join, and leave what they joined, in many orders of steps, over some blocks; now and then all come to an end, and somebody is alone.
func TestManyClients(t *testing.T) {
	x := numbers(1234567890123456789)
	var joins, full, stops int
	for _, c := range []struct {
		blocks         uint64
		closed         [api.MaxBlocks]bool
		others         []int
		clients, steps int
	}{
		{1, [4]bool{}, nil, 2, 3000}, {1, [4]bool{}, nil, 4, 9000}, {1, [4]bool{}, nil, 5, 9000}, {1, [4]bool{}, nil, 9, 9000},
		{1, [4]bool{}, []int{0, 2, 3}, 3, 9000}, {1, [4]bool{}, []int{1}, 6, 9000}, {2, [4]bool{}, []int{0, 1, 2, 5, 6, 7}, 4, 9000},
		{2, [4]bool{}, nil, 7, 9000}, {2, [4]bool{true}, nil, 5, 9000}, {3, [4]bool{false, true}, []int{3, 4, 8, 9}, 12, 12000},
		{4, [4]bool{}, nil, 16, 15000}, {4, [4]bool{}, nil, 30, 15000}, {4, [4]bool{true, false, true, false}, []int{0, 6}, 9, 12000}, {maxWord, [4]bool{}, []int{0, 5, 10, 15}, 20, 15000},
		{4, [4]bool{true, true, true, true}, nil, 3, 900}, {0, [4]bool{}, nil, 3, 900},
	} {
		w := newWorld(c.blocks, c.closed, c.clients, c.others...)
		tied := x.below(12) // steps that one client takes, one behind the other
		for range c.steps {
			i := x.below(c.clients)
			d := &w.clients[i]
			for range 1 + x.below(1+tied) {
				if d.idle() && (d.thread < 0 || x.below(3) > 0) {
					d.begin(i)
				}
				if !d.idle() {
					d.step(t, w.m)
				}
				w.holds(t)
			}
			if x.below(300) == 0 {
				for i := range w.clients {
					for d := &w.clients[i]; !d.idle(); {
						d.step(t, w.m)
					}
				}
				w.holds(t)
				w.alone(t)
				tied = x.below(12)
				stops++
			}
		}
		for _, d := range w.clients {
			joins += d.done
			full += d.failed
		}
	}
	t.Logf("%d begun, %d found no room, %d stops", joins, full, stops)
	if joins < 20000 || full < 2000 || stops < 200 {
		t.Errorf("%d begun, %d found no room, %d stops alone", joins, full, stops)
	}
}

// P10.3: whoever is alone joins, of each table that there may be: so many blocks, each closed or not, and any of its threads joined.
func TestAlone(t *testing.T) {
	x := numbers(362436069)
	for kinds := range 10 * 10 * 10 * 10 {
		var closed [api.MaxBlocks]bool
		var others []int
		for i, left := 0, kinds; i < 4; i, left = i+1, left/10 {
			closed[i] = left%10 >= 5
			threads := []int{0, 1, 2, 3}
			for range left % 5 {
				k := x.below(len(threads))
				others = append(others, 4*i+threads[k])
				threads = slices.Delete(threads, k, k+1)
			}
		}
		for _, blocks := range []uint64{0, 1, 2, 3, 4, 5} {
			if blocks == uint64(1+x.below(4)) || kinds%7 == 0 {
				w := newWorld(blocks, closed, 0, others...)
				w.alone(t)
				w.holds(t)
			}
		}
	}
}

// P10.3: each order that there is of the steps of a few clients, each of which joins and leaves a few times.
func TestEachOrder(t *testing.T) {
	for _, c := range []struct {
		name   string
		blocks uint64
		closed [api.MaxBlocks]bool
		others []int
		does   []int // how many things each client begins: a Join first, then a Leave, if it joined, and so on
	}{
		{"one block, two clients", 1, [4]bool{}, nil, []int{4, 4}},
		{"one thread, two clients", 1, [4]bool{}, []int{0, 1, 3}, []int{5, 5}},
		{"one thread, three clients", 1, [4]bool{}, []int{0, 1, 2}, []int{2, 2, 2}},
		{"two threads, three clients", 1, [4]bool{}, []int{1, 2}, []int{2, 2, 2}},
		{"three threads, three clients", 1, [4]bool{}, []int{2}, []int{2, 2, 1}},
		{"one thread each of two blocks, three clients", 2, [4]bool{}, []int{0, 1, 2, 5, 6, 7}, []int{2, 2, 1}},
		{"one block of three that is closed, two clients", 3, [4]bool{false, true}, []int{0, 1, 2, 4, 8, 9, 10}, []int{3, 3}},
	} {
		o := orders{t: t, does: c.does, seen: map[moment]bool{}}
		o.from(newWorld(c.blocks, c.closed, len(c.does), c.others...))
		if o.ends == 0 {
			t.Errorf("%s: no end", c.name)
		}
		t.Logf("%s: %d moments, %d ends", c.name, len(o.seen), o.ends)
	}
}

// moment: all words, and what each client is at.
type moment struct {
	blocks  [api.MaxBlocks]uint64
	owners  [api.MaxThreads]uint64
	clients [3]client
}

// orders of steps, gone through from moment to moment.
type orders struct {
	t    *testing.T
	does []int
	seen map[moment]bool // from two that are alike the same things follow
	ends int
}

// from a moment on: each one that has something to do goes next once.
func (o *orders) from(w *world) {
	var k moment
	k.blocks, k.owners = w.words()
	copy(k.clients[:], w.clients)
	if o.seen[k] {
		return
	}
	o.seen[k] = true
	w.holds(o.t)
	ended := true
	for i, c := range w.clients {
		if c.idle() && c.done == o.does[i] {
			continue
		}
		ended = false
		on := &world{m: memory(w.m.Words()...), clients: slices.Clone(w.clients), others: w.others}
		d := &on.clients[i]
		if d.idle() {
			d.begin(i)
		}
		d.step(o.t, on.m)
		o.from(on)
	}
	if ended {
		o.ends++
	}
}

// P10.3: beside those who stopped, at whatever step, others join; who stopped keeps no more than the one place that it counts for.
func TestBesideStopped(t *testing.T) {
	for stops := range 14 {
		w := newWorld(1, [4]bool{}, 5)
		for i := range 3 { // they join, and stop at that step
			w.clients[i].begin(i)
			for range stops {
				if !w.clients[i].idle() {
					w.clients[i].step(t, w.m)
				}
			}
			w.holds(t)
		}
		got := 0
		for i := 3; i < 5; i++ {
			d := &w.clients[i]
			for d.begin(i); !d.idle(); {
				d.step(t, w.m)
				w.holds(t)
			}
			if d.thread >= 0 {
				got++
			}
		}
		want := 2 // till the others counted as joined, there is room for both
		if stops >= 3 {
			want = 1
		}
		if got != want {
			t.Errorf("beside three that stopped behind %d steps, %d joined, want %d", stops, got, want)
		}
		for i := range w.clients {
			for d := &w.clients[i]; !d.idle(); {
				d.step(t, w.m)
			}
		}
		w.holds(t)
	}
}
