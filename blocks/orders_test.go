package blocks

import (
	"iter"
	"slices"
	"testing"

	"ragpicker/api"
	"ragpicker/mems"
	"ragpicker/tables"
)

// stopped: a telling that is not gone on with.
type stopped struct{}

// tale: an operation, told anew as what is done line by line, that waits ahead of each access.
type tale struct {
	by   map[api.Addr]uint64 // the words, which all tales share
	wait func(struct{}) bool
	last api.Access
	at   int // the line at which it ends
	got  api.Errno
	next func() (struct{}, bool)
	stop func()
	over bool
}

// tell a tale: it waits ahead of its first access.
func tell(by map[api.Addr]uint64, do func(*tale) api.Errno) *tale {
	t := &tale{by: by}
	t.next, t.stop = iter.Pull(func(yield func(struct{}) bool) {
		defer func() {
			if x := recover(); x != nil {
				if _, ok := x.(stopped); !ok {
					panic(x)
				}
			}
		}()
		t.wait = yield
		got := do(t)
		t.over, t.got = true, got
	})
	t.next()
	return t
}

// step of it: the access.
func (t *tale) step() api.Access {
	t.next()
	return t.last
}

// pause till the next step.
func (t *tale) pause() {
	if !t.wait(struct{}{}) {
		panic(stopped{})
	}
}

func (t *tale) load(a api.Addr) uint64 {
	t.pause()
	t.last = ld(a, t.by[a])
	return t.by[a]
}

func (t *tale) cas(a api.Addr, was, is uint64) bool {
	t.pause()
	t.last = tried(a, t.by[a], was, is)
	t.by[a] = t.last.Is
	return t.last.Done
}

// ends at a line, with that.
func (t *tale) ends(at int, got api.Errno) api.Errno {
	t.at = at
	return got
}

// more blocks.
func (t *tale) more() api.Errno {
	for {
		b := t.load(blocksAt)
		if b >= 4 {
			return t.ends(1, api.ErrFull)
		}
		if t.cas(blocksAt, b, b+1) {
			t.cas(wordAt(int(b)), isShut, 0)
			return t.ends(3, api.OK)
		}
	}
}

// less of them.
func (t *tale) less() api.Errno {
	b := t.load(blocksAt)
	if b == 0 || b == 1 {
		return t.ends(1, api.ErrState)
	}
	if b > 4 {
		return t.ends(1, api.ErrArg)
	}
	block := wordAt(int(b) - 1)
	if !t.cas(block, 0, isShut) {
		return t.ends(2, api.ErrBusy)
	}
	if t.cas(blocksAt, b, b-1) {
		return t.ends(3, api.OK)
	}
	t.cas(block, isShut, 0)
	return t.ends(4, api.ErrBusy)
}

// P11.1, P11.2: many operations at one time, in many orders of steps, of whatever words, which others change between: each step is that of the lines.
func TestLinesAnyOrder(t *testing.T) {
	x := numbers(88172645463325252)
	type ending struct {
		less bool
		at   int
		e    api.Errno
	}
	ends := map[ending]int{}
	pick := func(l ...uint64) uint64 { return l[x.below(len(l))] }
	for round := range 400 {
		by := map[api.Addr]uint64{}
		m := mems.New()
		put := func(a api.Addr, v uint64) {
			by[a] = v
			m.Store(a, v)
		}
		meddle := func() {
			if x.below(3) == 0 {
				put(blocksAt, pick(0, 1, 2, 3, 4, 2, 3, 5, 1<<32+2, 1<<63, maxWord))
				return
			}
			put(wordAt(x.below(api.MaxBlocks)), pick(0, 0, 0, isShut, isShut, 1, 4, isShut+1, 1<<33, 1<<63, maxWord))
		}
		for range 20 {
			meddle()
		}
		ops, tales := make([]operation, 5), make([]*tale, 5)
		often := 2 + x.below(30)
		for i := range 300 {
			n := x.below(len(ops))
			if ops[n] == nil || tales[n].over {
				if x.below(2) == 0 {
					ops[n], tales[n] = NewMore(), tell(by, (*tale).more)
				} else {
					ops[n], tales[n] = NewLess(), tell(by, (*tale).less)
				}
			}
			if x.below(often) == 0 {
				meddle()
			}
			want := tales[n].step()
			step(t, "any order", ops[n], m, i, want, tales[n].over)
			if got := ops[n].Got(); got != tales[n].got {
				t.Errorf("got %d, want %d", got, tales[n].got)
			}
			if tales[n].over {
				_, less := ops[n].(*Less)
				ends[ending{less, tales[n].at, tales[n].got}]++
			}
			if t.Failed() {
				t.Fatalf("in round %d, at step %d", round, i)
			}
		}
		for _, o := range tales {
			if o != nil {
				o.stop()
			}
		}
		for _, w := range m.Words() {
			if by[w.Addr] != w.Value {
				t.Fatalf("round %d: the word %+v is %#x, want %#x", round, w.Addr, w.Value, by[w.Addr])
			}
			delete(by, w.Addr)
		}
		for a, v := range by {
			if v != 0 {
				t.Fatalf("round %d: the word %+v is 0, want %#x", round, a, v)
			}
		}
	}
	if len(ends) != 2+5 {
		t.Errorf("of 7 ends that there are came %v", ends)
	}
	for e, n := range ends {
		if n < 300 {
			t.Errorf("the end %+v came %d times alone", e, n)
		}
	}
}

const none = -1

// client: somebody who joins, and leaves what they joined, one behind the other. All of it stands in the client itself, so that a copy goes its own way.
type client struct {
	join   tables.Join // over: it joins nothing now
	leave  tables.Leave
	thread int // what it joined, and did not begin to leave yet; none: nothing
	counts int // the block that counts it, since it has a thread of that, or joins one, or leaves one; none: no block
	done   int // how many things it began
}

// newClient: one that has nothing.
func newClient() client { return client{thread: none, counts: none} }

// idle: has it nothing under way?
func (c *client) idle() bool { return c.join.Over() && c.leave.Over() }

// begin to leave what it has, or to join by an owner.
func (c *client) begin(owner int) {
	c.done++
	if c.thread < 0 {
		c.join = *tables.NewJoin(owner)
		return
	}
	c.leave, c.thread = *tables.NewLeave(c.thread), none
}

// step of what it has under way; what it is told must be such as may be.
func (c *client) step(t *testing.T, m *mems.Mem) {
	t.Helper()
	if !c.leave.Over() {
		if c.leave.Step(m); c.leave.Over() && c.leave.Got() != api.OK {
			t.Fatalf("what is joined cannot be left: %d", c.leave.Got())
		}
		c.counted(m.Last())
		return
	}
	c.join.Step(m)
	c.counted(m.Last())
	if !c.join.Over() {
		return
	}
	thread, e := c.join.Got()
	if c.thread = thread; e != api.OK && e != api.ErrFull || (e == api.OK) != (thread >= 0) {
		t.Fatalf("a Join is over with %d, %d", thread, e)
	}
}

// counted: does its block count it by that access, or not any more?
func (c *client) counted(a api.Access) {
	switch {
	case a.Kind != api.AcCAS || a.Addr.Kind != api.WdBlock || !a.Done:
	case c.counts < 0:
		c.counts = a.Addr.At
	default:
		c.counts = none
	}
}

// finish what it has under way.
func (c *client) finish(t *testing.T, w *world) {
	t.Helper()
	for n := 0; !c.idle(); n++ {
		if c.step(t, w.m); n > 100 {
			t.Fatal("a client alone is not over")
		}
		w.holds(t)
	}
}

// keeper of the blocks: one More or Less at a time. All of it stands in the keeper itself.
type keeper struct {
	more More // over: it adds none now
	less Less
	done int // how many things it began
}

// under: the one that is under way, or a More that is over.
func (k *keeper) under() (o operation, less bool) {
	if !k.less.Over() {
		return &k.less, true
	}
	return &k.more, false
}

// idle: has it nothing under way?
func (k *keeper) idle() bool { return k.more.Over() && k.less.Over() }

// begin a More, or a Less.
func (k *keeper) begin(less bool) {
	k.done++
	if less {
		k.less = *NewLess()
		return
	}
	k.more = *NewMore()
}

// world of clients, a keeper, a memory, and threads that others have, which they do not leave.
type world struct {
	m       *mems.Mem
	clients []client
	keeper  keeper
	others  [api.MaxThreads]bool
	blocks  int                // how many there are
	ever    int                // how many there were at most
	went    [api.MaxBlocks]int // how often each one went
	ends    map[end]int        // how often each one came
}

// end of a More, or of a Less.
type end struct {
	less bool
	e    api.Errno
}

// newWorld: of so many blocks, in which others have threads; the blocks behind them are closed, as in a system's first memory, or never were.
func newWorld(blocks int, closed bool, clients int, others ...int) *world {
	w := &world{m: memory(word(blocksAt, uint64(blocks))), blocks: blocks, ever: blocks, ends: map[end]int{}}
	if closed {
		w.ever = api.MaxBlocks
		for i := blocks; i < api.MaxBlocks; i++ {
			w.m.Store(wordAt(i), isShut)
		}
	}
	for range clients {
		w.clients = append(w.clients, newClient())
	}
	var joined [api.MaxBlocks]uint64
	for _, thread := range others {
		w.others[thread] = true
		w.m.Store(ownerAt(thread), 999)
		joined[thread/4]++
		w.m.Store(wordAt(thread/4), joined[thread/4])
	}
	return w
}

func ownerAt(thread int) api.Addr {
	return api.Addr{Kind: api.WdThread, At: thread, Field: api.ThOwner}
}

// counted: how many a block counts: those who have a thread of it, or join one, or leave one.
func (w *world) counted(block int) uint64 {
	n := uint64(0)
	for i := range 4 {
		if w.others[4*block+i] {
			n++
		}
	}
	for _, c := range w.clients {
		if c.counts == block {
			n++
		}
	}
	return n
}

// keep: a step of the keeper, by what P11.3 says of it. Since it is alone, no one else changes how many blocks there are.
func (w *world) keep(t *testing.T) {
	t.Helper()
	was, used := w.blocks, w.counted(w.blocks-1)
	o, less := w.keeper.under()
	o.Step(w.m)
	a := w.m.Last()
	switch {
	case a.Kind == api.AcCAS && a.Addr == blocksAt:
		if w.blocks = int(a.Is); !a.Done || less && w.blocks != was-1 || !less && w.blocks != was+1 {
			t.Fatalf("of %d blocks, and less %v, the step %+v", was, less, a)
		}
		w.ever = max(w.ever, w.blocks)
		if less {
			w.went[w.blocks]++
		}
	case a.Kind == api.AcCAS && less && a.Done != (used == 0):
		t.Fatalf("of %d who have a thread, join, or leave, the step %+v", used, a)
	}
	if !o.Over() {
		return
	}
	got, want := o.Got(), overBy(less, a)
	if got != want || (got == api.ErrState) != (less && was == 1) || (got == api.ErrFull) != (!less && w.blocks == api.MaxBlocks && a.Kind == api.AcLoad) {
		t.Fatalf("of %d blocks, and less %v, the keeper got %d, want %d", was, less, got, want)
	}
	w.keeper.more, w.keeper.less = More{}, Less{}
	w.ends[end{less, got}]++
}

// overBy: how a More, or a Less, that is alone is over by that access.
func overBy(less bool, a api.Access) api.Errno {
	switch {
	case less && a.Kind == api.AcLoad:
		return api.ErrState
	case a.Kind == api.AcLoad:
		return api.ErrFull
	case less && a.Addr != blocksAt:
		return api.ErrBusy
	}
	return api.OK
}

// words of it: how many blocks, the blocks, and owners.
func (w *world) words() (count uint64, blocks [api.MaxBlocks]uint64, owners [api.MaxThreads]uint64) {
	for _, x := range w.m.Words() {
		switch {
		case x.Addr == blocksAt:
			count = x.Value
		case x.Addr.Kind == api.WdBlock:
			blocks[x.Addr.At] = x.Value
		case x.Addr.Kind == api.WdThread && x.Addr.Field == api.ThOwner:
			owners[x.Addr.At] = x.Value
		}
	}
	return count, blocks, owners
}

// holds: what P11.3 says of each moment, and, if no More or Less is under way, of that; and P10.3, as blocks come and go. A client's owner is its place.
func (w *world) holds(t *testing.T) {
	t.Helper()
	count, blocks, owners := w.words()
	if count != uint64(w.blocks) || count < 1 || count > api.MaxBlocks {
		t.Fatalf("%d blocks, of %d", count, w.blocks)
	}
	has := w.others
	for i := range w.clients {
		c := &w.clients[i]
		if c.thread < 0 {
			continue
		}
		if has[c.thread] || owners[c.thread] != uint64(i)+1 || c.counts != c.thread/4 {
			t.Fatalf("thread %d, joined by client %d, is another one's, too: %v; its owner is %d, and block %d counts it", c.thread, i, has[c.thread], owners[c.thread], c.counts)
		}
		has[c.thread] = true
	}
	for i, b := range blocks {
		n := uint64(0)
		for _, o := range owners[4*i : 4*i+4] {
			if o != 0 {
				n++
			}
		}
		counted, closed := w.counted(i), b&isShut != 0
		if b&^isShut != counted || n > counted {
			t.Fatalf("block %d is %#x, %d have a thread, join, or leave, %d threads have an owner", i, b, counted, n)
		}
		if i >= w.blocks && (counted > 0 || n > 0 || closed != (i < w.ever)) {
			t.Fatalf("block %d of %d, and at most %d, is not there; %d have a thread, join, or leave, %d threads have an owner, closed: %v", i, w.blocks, w.ever, counted, n, closed)
		}
		if w.keeper.idle() && i < w.blocks && closed {
			t.Fatalf("block %d of %d is closed", i, w.blocks)
		}
	}
}

// finish all that is under way, one behind the other, each alone.
func (w *world) finish(t *testing.T) {
	t.Helper()
	for i := range w.clients {
		w.clients[i].finish(t, w)
	}
	w.finishKeeper(t)
}

// finishKeeper: what it has under way.
func (w *world) finishKeeper(t *testing.T) {
	t.Helper()
	for n := 0; !w.keeper.idle(); n++ {
		if w.keep(t); n > 4 {
			t.Fatal("the keeper alone is not over")
		}
		w.holds(t)
	}
}

// keeps: all of a More, or of a Less, by the keeper, while all others stand still: it must end so.
func (w *world) keeps(t *testing.T, less bool, want api.Errno) {
	t.Helper()
	was, ends := w.blocks, w.ends[end{less, want}]
	w.keeper.begin(less)
	w.finishKeeper(t)
	is := was
	switch {
	case want == api.OK && less:
		is--
	case want == api.OK:
		is++
	}
	if w.ends[end{less, want}] != ends+1 || w.blocks != is {
		t.Fatalf("of %d blocks, the last one of which counts %d, and less %v: not the end %d; there are %d", was, w.counted(was-1), less, want, w.blocks)
	}
}

// joins: all of a Join, or a Leave, by a client, which must have that thread then.
func (w *world) joins(t *testing.T, i, thread int) {
	t.Helper()
	c := &w.clients[i]
	c.begin(i)
	c.finish(t, w)
	if c.thread != thread {
		t.Fatalf("client %d has the thread %d, want %d", i, c.thread, thread)
	}
}

// room: the first thread that nobody has, of the first block that has room, when nothing is under way; none: there is none.
func (w *world) room() int {
	_, _, owners := w.words()
	return slices.Index(owners[:4*w.blocks], 0)
}

// alone: when nothing is under way, somebody who is alone joins, and leaves again; the last block goes, if it has nobody, and one comes again.
func (w *world) alone(t *testing.T) {
	t.Helper()
	i := len(w.clients)
	w.clients = append(w.clients, newClient())
	if thread := w.room(); thread >= 0 {
		w.joins(t, i, thread)
	}
	w.joins(t, i, none)
	w.clients = w.clients[:i]
	switch b := w.blocks; {
	case b == 1:
		w.keeps(t, true, api.ErrState)
	case w.counted(b-1) > 0:
		w.keeps(t, true, api.ErrBusy)
	default:
		w.keeps(t, true, api.OK)
	}
	if w.blocks == api.MaxBlocks {
		w.keeps(t, false, api.ErrFull)
		return
	}
	w.keeps(t, false, api.OK)
}

// P11.3: many who join, and leave what they joined, while blocks come and go, in many orders of steps; now and then all come to an end, and somebody is alone.
func TestManyClients(t *testing.T) {
	x := numbers(1234567890123456789)
	var joins, full, again, stops int
	ends := map[end]int{}
	for _, c := range []struct {
		blocks         int
		closed         bool
		others         []int
		clients, steps int
	}{
		{1, false, nil, 1, 3000}, {1, true, []int{0, 1, 2, 3}, 1, 3000}, {2, true, []int{0, 1, 2, 3}, 2, 9000}, {1, false, []int{0, 1, 2, 3}, 3, 9000}, {1, false, []int{0, 2}, 4, 9000},
		{2, false, nil, 5, 9000}, {2, true, nil, 7, 9000}, {3, false, []int{3, 4, 7}, 6, 9000}, {3, true, nil, 9, 9000}, {4, false, nil, 8, 12000}, {4, false, nil, 16, 12000},
		{4, false, []int{0, 5, 10}, 14, 12000}, {1, true, nil, 30, 12000}, {4, false, []int{12}, 5, 4000}, {4, false, []int{0, 1, 2, 3, 4, 5, 6, 7, 8, 9, 10, 11}, 2, 9000},
	} {
		w := newWorld(c.blocks, c.closed, c.clients, c.others...)
		tied, rest := x.below(12), 1+x.below(c.clients) // steps that one takes, one behind the other; how seldom the keeper goes
		joining := 1 + x.below(5)                       // how likely a client joins
		for range c.steps {
			if x.below(rest) == 0 {
				for range 1 + x.below(1+x.below(4)) {
					if w.keeper.idle() {
						w.keeper.begin(x.below(3) > 0)
					}
					w.keep(t)
					w.holds(t)
				}
			}
			i := x.below(c.clients)
			d := &w.clients[i]
			for range 1 + x.below(1+tied) {
				if d.idle() && (d.thread < 0 && x.below(6) < joining || d.thread >= 0 && x.below(6) >= joining) {
					d.begin(i)
				}
				if d.idle() {
					break
				}
				joined := d.thread < 0 && !d.join.Over()
				d.step(t, w.m)
				w.holds(t)
				switch {
				case !joined || !d.idle():
				case d.thread < 0:
					full++
				default:
					if joins++; w.went[d.thread/4] > 0 {
						again++
					}
				}
			}
			if x.below(300) == 0 {
				w.finish(t)
				for i := range w.clients {
					if d := &w.clients[i]; d.thread >= 0 && x.below(2) == 0 {
						d.begin(i)
						d.finish(t, w)
					}
				}
				w.alone(t)
				tied, joining = x.below(12), 1+x.below(5)
				stops++
			}
		}
		w.finish(t)
		for e, n := range w.ends {
			ends[e] += n
		}
	}
	t.Logf("%d joined, %d of them a block that had gone, %d found no room, %d stops, ends %v", joins, again, full, stops, ends)
	if joins < 5000 || again < 2000 || full < 2000 || stops < 200 {
		t.Errorf("%d joined, %d of them a block that had gone, %d found no room, %d stops alone", joins, again, full, stops)
	}
	for _, e := range []end{{false, api.OK}, {false, api.ErrFull}, {true, api.OK}, {true, api.ErrState}, {true, api.ErrBusy}} {
		if ends[e] < 1000 {
			t.Errorf("the end %+v came %d times alone", e, ends[e])
		}
	}
}

// P11.3: each order that there is of the steps of a few clients, and of the keeper, each of which has a few things to do.
func TestEachOrder(t *testing.T) {
	first := []int{0, 1, 2, 3}
	for _, c := range []struct {
		name   string
		blocks int
		closed bool
		others []int
		does   []int  // how many things each client begins: a Join first, then a Leave, if it joined, and so on
		keeps  string // m: a More, l: a Less
	}{
		{"the last block of two goes and comes, one client", 2, false, first, []int{4}, "lml"},
		{"a block that never was comes and goes, one client", 1, false, first, []int{4}, "mlm"},
		{"a closed block comes and goes, one client", 1, true, first, []int{4}, "mlml"},
		{"the last block of two goes and comes, two clients", 2, false, first, []int{2, 2}, "lm"},
		{"a block that never was comes and goes, two clients", 1, false, first, []int{2, 2}, "ml"},
		{"a block that others have a thread of, two clients", 2, true, []int{0, 1, 2, 5}, []int{2, 2}, "l"},
		{"one thread of a block, and another block, two clients", 2, true, []int{0, 2, 3}, []int{3, 2}, "lm"},
		{"the last block of two goes, three clients", 2, false, first, []int{1, 1, 1}, "l"},
		{"the last block of four goes and comes, one client", 4, false, []int{0, 1, 2, 3, 4, 5, 6, 7, 8, 9, 10, 11}, []int{3}, "lml"},
		{"blocks come till there are all, and go", 3, false, []int{0, 1, 2, 3, 4, 5, 6, 7}, []int{2}, "mmlll"},
	} {
		o := orders{t: t, does: c.does, keeps: c.keeps, seen: map[moment]bool{}}
		o.from(newWorld(c.blocks, c.closed, len(c.does), c.others...))
		if o.ends == 0 {
			t.Errorf("%s: no end", c.name)
		}
		t.Logf("%s: %d moments, %d ends", c.name, len(o.seen), o.ends)
	}
}

// moment: all words that differ, and what each one is at.
type moment struct {
	ever    int
	count   uint64
	blocks  [api.MaxBlocks]uint64
	owners  [api.MaxThreads]uint64
	clients [3]client
	keeper  keeper
}

// orders of steps, gone through from moment to moment.
type orders struct {
	t     *testing.T
	does  []int
	keeps string
	seen  map[moment]bool // from two that are alike the same things follow
	ends  int
}

// from a moment on: each one that has something to do goes next once.
func (o *orders) from(w *world) {
	k := moment{ever: w.ever, keeper: w.keeper}
	k.count, k.blocks, k.owners = w.words()
	copy(k.clients[:], w.clients)
	if o.seen[k] {
		return
	}
	o.seen[k] = true
	w.holds(o.t)
	ended := true
	for i, c := range w.clients {
		if c.idle() && c.done == o.does[i] {
			continue
		}
		ended = false
		on := w.copied()
		d := &on.clients[i]
		if d.idle() {
			d.begin(i)
		}
		d.step(o.t, on.m)
		o.from(on)
	}
	if !w.keeper.idle() || w.keeper.done < len(o.keeps) {
		ended = false
		on := w.copied()
		if on.keeper.idle() {
			on.keeper.begin(o.keeps[on.keeper.done] == 'l')
		}
		on.keep(o.t)
		o.from(on)
	}
	if ended {
		o.ends++
	}
}

// copied: a world like it, apart from it.
func (w *world) copied() *world {
	c := *w
	c.m, c.clients, c.ends = memory(w.m.Words()...), slices.Clone(w.clients), map[end]int{}
	return &c
}

// P11.1 to P11.3: from each number of blocks on they come, one behind the other, till there are MaxBlocks, and then no more, and go till there is one, and then no more.
func TestUpAndDown(t *testing.T) {
	for blocks := 1; blocks <= api.MaxBlocks; blocks++ {
		for _, closed := range []bool{false, true} {
			w := newWorld(blocks, closed, 0)
			for range 3 {
				for range api.MaxBlocks - w.blocks {
					w.keeps(t, false, api.OK)
				}
				for range 3 {
					w.keeps(t, false, api.ErrFull)
				}
				for range api.MaxBlocks - 1 {
					w.keeps(t, true, api.OK)
				}
				for range 3 {
					w.keeps(t, true, api.ErrState)
				}
			}
		}
	}
}

// full: a world of blocks of which only the last one has nobody.
func full(block, clients int) *world {
	var others []int
	for thread := range 4 * block {
		others = append(others, thread)
	}
	return newWorld(block+1, false, clients, others...)
}

// P11.3: a block that goes, and comes again, is joined as before, each of its threads with its words wiped; meanwhile there is no room.
func TestComesAgain(t *testing.T) {
	for block := 1; block < api.MaxBlocks; block++ {
		w := full(block, 5)
		for range 4 {
			for i := range 4 {
				w.joins(t, i, 4*block+i)
				w.keeps(t, true, api.ErrBusy)
				for f := api.ThAck; f < api.ThHaz+api.Hazards; f++ {
					at := api.Addr{Kind: api.WdThread, At: 4*block + i, Field: f}
					if v := w.m.Load(at); v != 0 {
						t.Fatalf("thread %d has the word %d: %d", at.At, f, v)
					}
					w.m.Store(at, uint64(50+f)) // what it leaves there
				}
			}
			w.joins(t, 4, none)
			for i := range 4 {
				w.keeps(t, true, api.ErrBusy)
				w.joins(t, i, none)
			}
			w.keeps(t, true, api.OK)
			w.joins(t, 0, none)
			c := &w.clients[4]
			c.begin(4)
			c.step(t, w.m) // it counts the blocks ahead of the one that comes, and so does not see it
			w.keeps(t, false, api.OK)
			if c.finish(t, w); c.thread != none {
				t.Fatalf("of a block that came later the thread %d is joined", c.thread)
			}
		}
	}
}

// P11.3: beside one who stopped, at whatever step of a Join, or of a Leave, the block stays as long as that one has a thread of it, or joins, or leaves; who stopped goes on by what there is then.
func TestBesideStopped(t *testing.T) {
	for block := 1; block < api.MaxBlocks; block++ {
		counts := 1 + block + 2 // the step by which the last block counts it: it looks at all of them
		joined := counts + 1 + 9
		leaves := joined + 6
		for stop := range leaves + 1 {
			for _, comes := range []bool{false, true} {
				w := full(block, 1)
				c := &w.clients[0]
				for range stop {
					if c.idle() {
						c.begin(0)
					}
					c.step(t, w.m)
				}
				under, stays := !c.idle(), stop >= counts && stop < leaves
				want := api.OK
				if stays {
					want = api.ErrBusy
				}
				w.keeps(t, true, want)
				if !stays && comes {
					w.keeps(t, false, api.OK)
				}
				c.finish(t, w)
				has := stays && stop <= joined || under && stop < counts && comes
				if c.thread != none && !has || c.thread != 4*block && has {
					t.Fatalf("stopped behind %d steps (the block came again: %v) it has the thread %d", stop, comes, c.thread)
				}
			}
		}
	}
}
