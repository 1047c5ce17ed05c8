package orphans_test

import (
	"iter"
	"slices"
	"strconv"
	"testing"

	"ragpicker/api"
	"ragpicker/mems"
	"ragpicker/orphans"
)

// stopped: a telling that is not gone on with.
type stopped struct{}

// tale: an operation, told anew as what is done line by line, that waits ahead of each access.
type tale struct {
	by    map[api.Addr]uint64 // the words, which all tales share
	wait  func(struct{}) bool
	last  api.Access
	again int // how often its CAS did not
	got   []api.Entry
	next  func() (struct{}, bool)
	stop  func()
	over  bool
}

// tell a tale: it waits ahead of its first access.
func tell(by map[api.Addr]uint64, do func(*tale) []api.Entry) *tale {
	t := &tale{by: by}
	t.next, t.stop = iter.Pull(func(yield func(struct{}) bool) {
		defer func() {
			if x := recover(); x != nil {
				if _, ok := x.(stopped); !ok {
					panic(x)
				}
			}
		}()
		t.wait = yield
		got := do(t)
		t.over, t.got = true, got
	})
	t.next()
	return t
}

// step of it: the access.
func (t *tale) step() api.Access {
	t.next()
	return t.last
}

// pause till the next step.
func (t *tale) pause() {
	if !t.wait(struct{}{}) {
		panic(stopped{})
	}
}

func (t *tale) load(a api.Addr) uint64 {
	t.pause()
	t.last = ld(a, t.by[a])
	return t.by[a]
}

func (t *tale) store(a api.Addr, v uint64) {
	t.pause()
	t.last = st(a, t.by[a], v)
	t.by[a] = v
}

// cas of WdOrphan.
func (t *tale) cas(was, is uint64) bool {
	t.pause()
	if t.last = casNot(t.by[headAt]); t.by[headAt] != was {
		t.again++
		return false
	}
	t.last = cas(was, is)
	t.by[headAt] = is
	return true
}

// give slots.
func (t *tale) give(slots []int) {
	end := len(slots) - 1
	for i, s := range slots[:end] {
		t.store(linkAt(s), uint64(slots[i+1]+1))
	}
	for {
		h := t.load(headAt)
		t.store(linkAt(slots[end]), uint64(slotTold(h)+1))
		if t.cas(h, behind(h, slots[0])) {
			return
		}
	}
}

// take all entries.
func (t *tale) take() []api.Entry {
	var l []api.Entry
	s := none
	for {
		h := t.load(headAt)
		if s = slotTold(h); s < 0 {
			return nil
		}
		if t.cas(h, behind(h, none)) {
			break
		}
	}
	for s >= 0 && len(l) < 256 {
		e := api.Entry{Ref: api.Ref{Slot: s, Gen: uint32(t.load(wordAt(s, header)) >> 3 & 0xffffffff)}}
		e.Birth = t.load(wordAt(s, birth))
		e.Epoch = t.load(wordAt(s, epoch))
		e.Era = t.load(wordAt(s, era))
		l = append(l, e)
		s = slotTold(t.load(linkAt(s)))
	}
	return l
}

// P12.2: words of slots that others change: each is as it is at its own line.
func TestTakeReadsEachAtItsLine(t *testing.T) {
	for ahead := range 2 + 5*3 {
		for _, slot := range []int{7, 3, 0} {
			for _, field := range []int{header, birth, epoch, era, link} {
				for _, v := range []uint64{0, 2, 9<<3 | 3, hd(200, 9), hd(last, 0), hd(256, 0), maxWord} {
					c := course{name: "a word that is changed", at: full(2, 7, 3, 0), of: orphans.NewTake(), others: []meddling{{ahead, wordAt(slot, field), v}}}
					by := map[api.Addr]uint64{}
					for _, w := range c.at {
						by[w.Addr] = w.Value
					}
					k := tell(by, (*tale).take)
					for !k.over {
						if len(c.want) == ahead {
							by[wordAt(slot, field)] = v
						}
						c.want = append(c.want, k.step())
					}
					c.got = k.got
					c.held(t)
				}
			}
		}
	}
}

// both: an operation, and its tale.
type both struct {
	op operation
	k  *tale
}

// begun: a Give of some of the slots, or a Take.
func begun(x *numbers, by map[api.Addr]uint64, slots []int) both {
	if x.below(2) == 0 {
		return both{orphans.NewTake(), tell(by, (*tale).take)}
	}
	var of []int
	for _, i := range x.mixed(len(slots))[:1+x.below(len(slots))] {
		of = append(of, slots[i])
	}
	return both{orphans.NewGive(entries(of...)), tell(by, func(t *tale) []api.Entry { t.give(of); return nil })}
}

// counts of what came.
type counts struct{ gives, givesAgain, takes, takesAgain, nothing, many int }

// came: an operation came to its end, which got that, and whose CAS did not so often.
func (c *counts) came(o operation, got, again int) {
	if _, give := o.(*orphans.Give); give {
		c.gives++
		c.givesAgain += again
		return
	}
	c.takes++
	c.takesAgain += again
	if got == 0 {
		c.nothing++
	} else if got > 1 {
		c.many++
	}
}

// least of all that came.
func (c *counts) least() int {
	return min(c.gives, c.givesAgain, c.takes, c.takesAgain, c.nothing, c.many)
}

// alike: are a memory's words these?
func alike(t *testing.T, m *mems.Mem, by map[api.Addr]uint64) {
	t.Helper()
	for a, v := range by {
		if got := m.Load(a); got != v {
			t.Fatalf("the word %+v is %#x, want %#x", a, got, v)
		}
	}
	for _, w := range m.Words() {
		if w.Value != by[w.Addr] {
			t.Fatalf("the word %+v is %#x, want %#x", w.Addr, w.Value, by[w.Addr])
		}
	}
}

// P12.1, P12.2: many operations at one time, in many orders of steps, of whatever words, which others change between: each step is that of the lines.
func TestLinesAnyOrder(t *testing.T) {
	x := numbers(88172645463325252)
	slots := []int{0, 1, 2, 3, last}
	pick := func(l ...uint64) uint64 { return l[x.below(len(l))] }
	head := func() uint64 {
		return pick(0, 0, 0, 1, 2, 3, 4, 256, 257, 65535) | pick(0, 1, 2, maxTag)<<16
	}
	var all counts
	for range 300 {
		by := map[api.Addr]uint64{}
		m := mems.New()
		meddle := func() {
			a, v := headAt, head()
			if slot := slots[x.below(5)]; x.below(4) > 0 {
				a, v = wordAt(slot, x.below(8)), pick(0, 1, 26, 1<<34, 1<<35, maxWord)
				if a.Field == link {
					v = head()
				}
			}
			by[a] = v
			m.Store(a, v)
		}
		for range 40 {
			meddle()
		}
		under := make([]both, 5)
		often := 3 + x.below(60)
		for i := range 600 {
			b := &under[x.below(len(under))]
			if b.op == nil || b.k.over {
				*b = begun(&x, by, slots)
			}
			if x.below(often) == 0 {
				meddle()
			}
			if step(t, "any order", b.op, m, i, b.k.step(), b.k.over); b.k.over {
				tells(t, "any order", b.op, b.k.got)
				all.came(b.op, len(b.k.got), b.k.again)
			}
		}
		for _, b := range under {
			if b.op != nil {
				b.k.stop()
			}
		}
		alike(t, m, by)
	}
	t.Logf("%+v", all)
	if all.least() < 500 {
		t.Error("too few of some")
	}
}

// client: somebody who gives what is theirs, and takes, one operation behind the other.
type client struct {
	op     operation        // nil: none is under way
	made   func() operation // one like it, that begins
	past   accesses         // of it
	has    []api.Entry      // what is theirs, and not being given
	giving []api.Entry      // what is being given, and is not in the stack yet
	due    []api.Entry      // what was taken off the stack, and not told yet
	again  int              // how often its CAS did not
	done   int              // how many things it began
}

// copied: a client like it, apart from it. What an operation does next hangs on how it was made and on what it read, on nothing else.
func (c *client) copied() client {
	d := *c
	d.past, d.has = slices.Clone(c.past), slices.Clone(c.has)
	if c.op == nil {
		return d
	}
	d.op = c.made()
	m := mems.New()
	for _, a := range c.past {
		m.Store(a.Addr, a.Was)
		d.op.Step(m)
	}
	return d
}

// idle: has it nothing under way?
func (c *client) idle() bool { return c.op == nil }

// takes: is a Take under way?
func (c *client) takes() bool {
	_, ok := c.op.(*orphans.Take)
	return ok
}

// begin an operation.
func (c *client) begin(made func() operation) {
	c.made, c.op, c.past, c.again = made, made(), nil, 0
	c.done++
}

// take begins.
func (c *client) take() { c.begin(func() operation { return orphans.NewTake() }) }

// give of those of its entries that stand at these places, in this order, begins.
func (c *client) give(places []int) {
	var l, rest []api.Entry
	for _, p := range places {
		l = append(l, c.has[p])
	}
	for i, e := range c.has {
		if !slices.Contains(places, i) {
			rest = append(rest, e)
		}
	}
	c.giving, c.has = l, rest
	c.begin(func() operation { return orphans.NewGive(l) })
}

// giveAll that it has, in order.
func (c *client) giveAll() {
	var l []int
	for i := range c.has {
		l = append(l, i)
	}
	c.give(l)
}

// world of clients, a memory, and what the stack must be.
type world struct {
	m       *mems.Mem
	clients []client
	stack   []api.Entry
	tag     uint64
	slots   []int // all that are somebody's, or in the stack
}

// newWorld: whose clients have entries of these slots; the stack is empty, and has a tag.
func newWorld(tag uint64, has ...[]int) *world {
	w := &world{m: memory(stack(tag)...), tag: tag}
	for _, slots := range has {
		l := entries(slots...)
		for _, x := range said(l...) {
			w.m.Store(x.Addr, x.Value)
		}
		w.slots = append(w.slots, slots...)
		w.clients = append(w.clients, client{has: l})
	}
	slices.Sort(w.slots)
	return w
}

// step of what a client has under way; it must be such as may be.
func (w *world) step(t *testing.T, i int) {
	t.Helper()
	c := &w.clients[i]
	steps := w.m.Steps()
	over := c.op.Step(w.m)
	a := w.m.Last()
	if w.m.Steps() != steps+1 {
		t.Fatalf("a step makes %d accesses", w.m.Steps()-steps)
	}
	c.past = append(c.past, a)
	own := c.giving
	if c.takes() {
		own = c.due
	}
	theirs := a.Addr.Kind == api.WdSlot && slices.ContainsFunc(own, func(e api.Entry) bool { return e.Ref.Slot == a.Addr.At })
	switch {
	case a.Kind == api.AcLoad && a.Addr == headAt:
	case a.Kind == api.AcLoad && theirs && c.takes() && a.Addr.Field <= era:
	case a.Kind == api.AcStore && theirs && !c.takes() && a.Addr.Field == link:
	case a.Kind == api.AcCAS && a.Addr == headAt && !a.Done:
		c.again++
	case a.Kind == api.AcCAS && a.Addr == headAt && c.takes() && len(w.stack) > 0:
		c.due, w.stack = w.stack, nil
		w.tag++
	case a.Kind == api.AcCAS && a.Addr == headAt && !c.takes():
		w.stack, c.giving = slices.Concat(c.giving, w.stack), nil
		w.tag++
	default:
		t.Fatalf("client %d, who gives %+v, or took %+v, makes the access %+v", i, c.giving, c.due, a)
	}
	if over {
		w.ended(t, i, a)
	}
}

// ended: a client's operation is over by that access.
func (w *world) ended(t *testing.T, i int, a api.Access) {
	t.Helper()
	c := &w.clients[i]
	l := got(c.op)
	switch {
	case !slices.Equal(l, c.due):
		t.Fatalf("client %d is told %+v, and took %+v", i, l, c.due)
	case len(c.giving) > 0:
		t.Fatalf("client %d has not given %+v", i, c.giving)
	case c.takes() && len(l) == 0 && len(w.stack) > 0:
		t.Fatalf("client %d took nothing of %+v", i, w.stack)
	}
	c.has, c.due, c.op = append(c.has, l...), nil, nil
	if !slices.ContainsFunc(w.clients, func(c client) bool { return !c.idle() }) {
		w.rests(t)
	}
}

// holds: what P12.3 says of each moment: no entry is anybody's twice, or in the stack beside that; the stack is what was given, and not taken.
func (w *world) holds(t *testing.T) {
	t.Helper()
	var all []int
	add := func(l []api.Entry) {
		for _, e := range l {
			all = append(all, e.Ref.Slot)
		}
	}
	add(w.stack)
	for i := range w.clients {
		add(w.clients[i].has)
		add(w.clients[i].giving)
		add(w.clients[i].due)
	}
	if slices.Sort(all); !slices.Equal(all, w.slots) {
		t.Fatalf("in the stack, or somebody's, are %v, want %v", all, w.slots)
	}
	h := w.m.Load(headAt)
	if h>>16 != w.tag&maxTag {
		t.Fatalf("the tag is %d, want %d", h>>16, w.tag&maxTag)
	}
	s := slotTold(h)
	for i, e := range w.stack {
		if s != e.Ref.Slot {
			t.Fatalf("at place %d of the stack is %d, want %+v", i, s, e)
		}
		s = slotTold(w.m.Load(linkAt(s)))
	}
	if s != none {
		t.Fatalf("behind the stack %+v is %d", w.stack, s)
	}
}

// rests: when none is under way: each entry is in the stack, or somebody's, just once, with its words as they were.
func (w *world) rests(t *testing.T) {
	t.Helper()
	l := slices.Clone(w.stack)
	for i := range w.clients {
		l = append(l, w.clients[i].has...)
	}
	if len(l) != len(w.slots) {
		t.Fatalf("in the stack, or taken, are %+v, of the slots %v", l, w.slots)
	}
	for _, x := range said(l...) {
		if v := w.m.Load(x.Addr); v != x.Value {
			t.Fatalf("the word %+v is %#x, want %#x", x.Addr, v, x.Value)
		}
	}
	w.holds(t)
}

// finish what a client has under way, with nobody else: how many steps that takes.
func (w *world) finish(t *testing.T, i int) int {
	t.Helper()
	n := 0
	for c := &w.clients[i]; !c.idle(); n++ {
		if w.step(t, i); n > 6*api.MaxSlots {
			t.Fatal("an operation alone is not over")
		}
		w.holds(t)
	}
	return n
}

// takesAlone: a Take by a client, with nobody else: it has all that was in the stack behind that, behind what it had.
func (w *world) takesAlone(t *testing.T, i int) {
	t.Helper()
	c := &w.clients[i]
	want, n := slices.Concat(c.has, w.stack), 5*len(w.stack)+2
	if len(w.stack) == 0 {
		n = 1
	}
	c.take()
	if steps := w.finish(t, i); steps != n || !slices.Equal(c.has, want) {
		t.Fatalf("a Take alone takes %d steps, want %d; the client has %+v, want %+v", steps, n, c.has, want)
	}
}

// givesAlone: a Give by a client of what it has at these places, with nobody else.
func (w *world) givesAlone(t *testing.T, i int, places ...int) {
	t.Helper()
	c := &w.clients[i]
	was := w.stack
	c.give(places)
	l := c.giving
	if steps := w.finish(t, i); steps != len(places)+2 || !slices.Equal(w.stack, slices.Concat(l, was)) {
		t.Fatalf("a Give of %d alone takes %d steps; the stack is %+v", len(places), steps, w.stack)
	}
}

// spread slots over clients, as many to each as it comes.
func spread(x *numbers, slots []int, clients int) [][]int {
	l := make([][]int, clients)
	for _, s := range slots {
		i := x.below(clients)
		l[i] = append(l[i], s)
	}
	return l
}

// manner of a crowd of clients.
type manner struct {
	tied   int // steps that one takes, one behind the other
	giving int // of 6: how likely who has something gives, and does not take
	pieces int // how many entries a Give has at most
}

// manners of all kinds.
func manners(x *numbers, slots int) manner {
	return manner{x.below(12), 1 + x.below(5), 1 + x.below(slots)}
}

// goes: a client goes for a while; what it comes to an end with is counted.
func (w *world) goes(t *testing.T, x *numbers, i int, as manner, all *counts) {
	t.Helper()
	d := &w.clients[i]
	for range 1 + x.below(1+as.tied) {
		switch n := len(d.has); {
		case !d.idle():
		case n > 0 && x.below(6) < as.giving:
			w.renew(x, d)
			d.give(x.mixed(n)[:1+x.below(min(as.pieces, n))])
		case len(w.stack) > 0 || x.below(20) == 0:
			d.take()
		default:
			return
		}
		had, o := len(d.has), d.op
		w.step(t, i)
		w.holds(t)
		if d.idle() {
			all.came(o, len(d.has)-had, d.again)
		}
	}
}

// P12.3: many who give what is theirs, and take, in many orders of steps; now and then somebody is alone, while all others stand still, or all come to an end.
func TestManyClients(t *testing.T) {
	x := numbers(1234567890123456789)
	var all counts
	var alone, stops int
	for _, c := range []struct{ clients, slots, rounds, steps int }{
		{1, 3, 10, 300}, {2, 1, 50, 400}, {2, 2, 50, 400}, {2, 6, 50, 600}, {3, 2, 50, 600}, {3, 9, 50, 600}, {4, 5, 50, 800}, {5, 30, 20, 2000}, {8, 4, 20, 2000}, {16, 16, 10, 4000}, {16, 100, 4, 6000}, {4, 254, 2, 9000}, {30, 254, 2, 9000},
	} {
		for range c.rounds {
			slots := x.mixed(api.MaxSlots)
			tag := []uint64{0, 5, 1<<32 - 9, maxTag - 40, maxTag}[x.below(5)]
			w := newWorld(tag, append(spread(&x, slots[:c.slots], c.clients), slots[254:])...) // one beside them is alone at times
			as := manners(&x, c.slots)
			for range c.steps {
				w.goes(t, &x, x.below(c.clients), as, &all)
				if x.below(100) == 0 {
					w.oneAlone(t, &x)
					alone++
				}
				if x.below(200) == 0 {
					for i := range c.clients {
						w.finish(t, i)
					}
					w.rests(t)
					as = manners(&x, c.slots)
					stops++
				}
			}
		}
	}
	t.Logf("%+v; %d times one alone, %d stops", all, alone, stops)
	if all.least() < 2000 || alone < 500 || stops < 300 {
		t.Error("too few of some")
	}
}

// renew now and then what a client has: the slot was free, and was retired anew, with other words.
func (w *world) renew(x *numbers, d *client) {
	e := &d.has[x.below(len(d.has))]
	if x.below(3) > 0 {
		return
	}
	e.Ref.Gen++
	e.Birth += 3
	e.Epoch--
	e.Era += 1 << 50
	for _, v := range said(*e) {
		w.m.Store(v.Addr, v.Value)
	}
}

// oneAlone: the last client, or one that has something under way, goes on its own, while all others stand still.
func (w *world) oneAlone(t *testing.T, x *numbers) {
	t.Helper()
	end := len(w.clients) - 1
	if i := x.below(end); !w.clients[i].idle() {
		c := &w.clients[i]
		most := len(c.giving) + 2 + 3 // it may have to look again, once
		if c.takes() {
			most = 5*len(w.stack) + 2 + 1
			most = max(most, 5*len(c.due)+2)
		}
		if n := w.finish(t, i); n > most {
			t.Fatalf("alone it takes %d steps, want %d at most", n, most)
		}
	}
	d := &w.clients[end]
	if x.below(3) > 0 {
		w.takesAlone(t, end)
	}
	for range x.below(3) {
		if n := len(d.has); n > 0 {
			w.givesAlone(t, end, x.mixed(n)[:1+x.below(n)]...)
		}
	}
	for range x.below(3) {
		w.takesAlone(t, end)
	}
}

// P12.3: each order that there is of the steps of a few clients, each of which has a few things to do.
func TestEachOrder(t *testing.T) {
	for _, c := range []struct {
		name string
		has  [][]int
		does []string // by a client: g gives all that it has, o gives what it got last, b gives all, the last one first (if it has any), t takes
	}{
		{"two who give one, and take", [][]int{{7}, {5}}, []string{"gtg", "gtg"}},
		{"two who take, and give again", [][]int{{7, 3}, {5}}, []string{"gtb", "tgt"}},
		{"two who give many, and one by one", [][]int{{7, 3, 0}, {5, last}}, []string{"gtoo", "got"}},
		{"two of whom one has none", [][]int{{7, 3}, nil}, []string{"oogt", "tgt"}},
		{"three who give", [][]int{{7}, {5, 3}, {last, 0, 1}}, []string{"g", "g", "g"}},
		{"two who give, one who takes", [][]int{{7, 3}, {5}, nil}, []string{"g", "g", "tt"}},
		{"one who gives, two who take", [][]int{{7, 3}, nil, nil}, []string{"oo", "t", "t"}},
		{"one who gives again, two who take", [][]int{{7}, nil, nil}, []string{"gt", "tg", "t"}},
		{"three who take what none has", [][]int{nil, nil, nil}, []string{"ttg", "tt", "tb"}},
		{"three who give, and take", [][]int{{0}, {1}, {2}}, []string{"gt", "g", "gt"}},
	} {
		o := orders{t: t, does: c.does, seen: map[string]bool{}}
		o.from(newWorld(maxTag-1, c.has...))
		if o.ends == 0 {
			t.Errorf("%s: no end", c.name)
		}
		t.Logf("%s: %d moments, %d ends", c.name, len(o.seen), o.ends)
	}
}

// orders of steps, gone through from moment to moment.
type orders struct {
	t    *testing.T
	does []string
	seen map[string]bool // moments: from two that are alike the same things follow
	ends int
}

// moment: all words, and what each client is at.
func moment(w *world) string {
	var b []byte
	number := func(v uint64) { b = append(strconv.AppendUint(b, v, 36), ' ') }
	list := func(l []api.Entry) {
		number(uint64(len(l)))
		for _, e := range l {
			number(uint64(e.Ref.Slot))
		}
	}
	for _, s := range w.slots {
		number(w.m.Load(linkAt(s)))
	}
	number(w.m.Load(headAt))
	for i := range w.clients {
		c := &w.clients[i]
		number(uint64(c.done))
		list(c.has)
		list(c.giving)
		list(c.due)
		if c.idle() {
			continue
		}
		for _, a := range c.past {
			number(uint64(a.Kind)<<32 | uint64(a.Addr.Kind)<<16 | uint64(a.Addr.At)<<4 | uint64(a.Addr.Field))
			number(a.Was)
		}
	}
	return string(b)
}

// copied: a world like it, apart from it.
func (w *world) copied() *world {
	c := *w
	c.m, c.clients = memory(w.m.Words()...), nil
	for i := range w.clients {
		c.clients = append(c.clients, w.clients[i].copied())
	}
	return &c
}

// does: a client begins what that letter says; false: it has nothing to give.
func (c *client) does(letter byte) bool {
	if letter != 't' && len(c.has) == 0 {
		c.done++
		return false
	}
	switch letter {
	case 't':
		c.take()
	case 'o':
		c.give([]int{len(c.has) - 1})
	case 'b':
		slices.Reverse(c.has)
		c.giveAll()
	default:
		c.giveAll()
	}
	return true
}

// from a moment on: each client that has something to do goes next once.
func (o *orders) from(w *world) {
	k := moment(w)
	if o.seen[k] {
		return
	}
	o.seen[k] = true
	w.holds(o.t)
	ended := true
	for i := range w.clients {
		c := &w.clients[i]
		if c.idle() && c.done == len(o.does[i]) {
			continue
		}
		ended = false
		on := w.copied()
		if d := &on.clients[i]; !d.idle() || d.does(o.does[i][d.done]) {
			on.step(o.t, i)
		}
		o.from(on)
	}
	if ended {
		w.rests(o.t)
		o.ends++
	}
}

// P12.3: whoever is alone gives n in n and 2 steps, and takes n in 5 n and 2, of a stack of any number.
func TestAlone(t *testing.T) {
	x := numbers(362436069)
	for _, n := range []int{1, 2, 3, 4, 5, 16, 50, 100, 128, 200, 255, 256} { // beside all other slots
		slots := x.mixed(api.MaxSlots)
		w := newWorld(uint64(n), slots[:n], slots[n:])
		if n < api.MaxSlots {
			w.givesAlone(t, 1, x.mixed(api.MaxSlots-n)...)
		}
		w.givesAlone(t, 0, x.mixed(n)...)
		w.takesAlone(t, 1)
		w.takesAlone(t, 0)
		if l := w.clients[1].has; len(l) != api.MaxSlots {
			t.Fatalf("of %d, and %d, are taken %d", n, api.MaxSlots-n, len(l))
		}
	}
	for _, k := range []int{0, 1, 2, 8, 100} { // all of n, with nothing beside it, and onto k
		for _, n := range []int{1, 2, 3, 10, 100, 155, 156} {
			slots := x.mixed(api.MaxSlots)
			w := newWorld(maxTag, slots[:n], slots[n:n+k])
			if k > 0 {
				w.givesAlone(t, 1, x.mixed(k)...)
			}
			w.givesAlone(t, 0, x.mixed(n)...)
			w.takesAlone(t, 0)
			w.takesAlone(t, 0)
		}
	}
}

// P12.3: what is taken stands in the order in which it was given, the last ones given first; what was taken is given again, and taken again.
func TestGivenAgain(t *testing.T) {
	for _, tag := range tags() {
		w := newWorld(tag, []int{7, 3, 0}, []int{last}, []int{5, 4, 200, 9}, nil)
		w.givesAlone(t, 2, 0, 1, 2, 3)
		w.givesAlone(t, 0, 1, 2, 0)
		w.givesAlone(t, 1, 0)
		if want := entries(last, 3, 0, 7, 5, 4, 200, 9); !slices.Equal(w.stack, want) {
			t.Fatalf("the stack is %+v", w.stack)
		}
		w.takesAlone(t, 3)
		want := entries(last, 3, 0, 7, 5, 4, 200, 9)
		for i := range 20 {
			if !slices.Equal(w.clients[3].has, want) {
				t.Fatalf("taken are %+v, want %+v", w.clients[3].has, want)
			}
			cut := i % 8
			w.givesAlone(t, 3, []int{7, 0, 6, 1, 5, 2, 4, 3}[cut:]...)
			if cut > 0 {
				w.clients[3].giveAll()
				w.finish(t, 3)
			}
			want = slices.Clone(w.stack)
			w.takesAlone(t, 3)
		}
		if h := w.m.Load(headAt); slotTold(h) != none {
			t.Errorf("WdOrphan is %#x", h)
		}
	}
}

// P12.3: beside one who stopped, at whatever step of a Give, or of a Take, others give and take as if that one were not there; who stopped goes on by what there is then.
func TestBesideStopped(t *testing.T) {
	for n := 1; n <= 5; n++ {
		for _, takes := range []bool{false, true} {
			steps := n + 2
			if takes {
				steps = 5*n + 2
			}
			for stop := range steps {
				for does := range 1 << 4 {
					w := newWorld(0, []int{7, 3, 0, last, 100}[:n], []int{5, 4}, []int{9})
					c := &w.clients[0]
					if c.giveAll(); takes {
						w.finish(t, 0)
						c.take()
					}
					for range stop {
						w.step(t, 0)
					}
					for k := range 4 { // another one gives, or takes, each time
						if d := &w.clients[1]; does>>k&1 == 0 && len(d.has) > 0 {
							w.givesAlone(t, 1, len(d.has)-1)
						} else {
							w.takesAlone(t, 1)
						}
					}
					w.finish(t, 0)
					w.givesAlone(t, 2, 0)
					w.takesAlone(t, 2)
					w.rests(t)
				}
			}
		}
	}
}
