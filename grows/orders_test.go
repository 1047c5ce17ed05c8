package grows

import (
	"crypto/sha256"
	"iter"
	"reflect"
	"slices"
	"strconv"
	"testing"

	"ragpicker/allocs"
	"ragpicker/api"
	"ragpicker/mems"
)

// stopped: a telling that is not gone on with.
type stopped struct{}

// tale: an operation, told anew as what is done line by line, that waits ahead of each access.
type tale struct {
	by   map[api.Addr]uint64 // the words, which all tales share
	wait func(struct{}) bool
	last api.Access
	at   int // the line at which it ends
	got  api.Errno
	next func() (struct{}, bool)
	stop func()
	over bool
}

// tell a tale: it waits ahead of its first access.
func tell(by map[api.Addr]uint64, do func(*tale) api.Errno) *tale {
	t := &tale{by: by}
	t.next, t.stop = iter.Pull(func(yield func(struct{}) bool) {
		defer func() {
			if x := recover(); x != nil {
				if _, ok := x.(stopped); !ok {
					panic(x)
				}
			}
		}()
		t.wait = yield
		got := do(t)
		t.over, t.got = true, got
	})
	t.next()
	return t
}

// step of it: the access.
func (t *tale) step() api.Access {
	t.next()
	return t.last
}

// pause till the next step.
func (t *tale) pause() {
	if !t.wait(struct{}{}) {
		panic(stopped{})
	}
}

func (t *tale) load(a api.Addr) uint64 {
	t.pause()
	t.last = ld(a, t.by[a])
	return t.by[a]
}

func (t *tale) store(a api.Addr, v uint64) {
	t.pause()
	t.last = st(a, t.by[a], v)
	t.by[a] = v
}

func (t *tale) cas(a api.Addr, was, is uint64) bool {
	t.pause()
	if t.last = casNot(a, t.by[a]); t.by[a] != was {
		return false
	}
	t.last = cas(a, was, is)
	t.by[a] = is
	return true
}

// add to a word.
func (t *tale) add(a api.Addr, n uint64) {
	for {
		if w := t.load(a); t.cas(a, w, w+n) {
			return
		}
	}
}

// pop a slot of the list; none: -1.
func (t *tale) pop() int {
	for {
		h := t.load(freeAt)
		slot := slotTold(h)
		if slot < 0 {
			return none
		}
		if to := slotTold(t.load(linkAt(slot))); t.cas(freeAt, h, hd(to, h>>16+1)) {
			return slot
		}
	}
}

// push a slot onto the list.
func (t *tale) push(slot int) {
	for {
		h := t.load(freeAt)
		t.store(linkAt(slot), hd(slotTold(h), 0))
		if t.cas(freeAt, h, hd(slot, h>>16+1)) {
			return
		}
	}
}

// park a slot.
func (t *tale) park(slot int) {
	seg := slot / 8
	gen := genTold(t.load(headerAt(slot)))
	t.store(headerAt(slot), hw(api.StParked, gen))
	for {
		t.add(asideAt(seg), 1)
		if t.load(stateAt(seg)) != mapped {
			return
		}
		t.add(asideAt(seg), maxWord)
		if t.load(stateAt(seg)) == mapped {
			break
		}
	}
	if t.cas(headerAt(slot), hw(api.StParked, gen), hw(api.StFree, gen)) {
		t.push(slot)
	} else {
		t.add(asideAt(seg), 1)
	}
}

// turn a segment's slots.
func (t *tale) turn(seg int) {
	for slot := 8 * seg; slot < 8*seg+8; slot++ {
		w := t.load(headerAt(slot))
		if isParked(w) && t.cas(headerAt(slot), w, hw(api.StFree, genTold(w))) {
			t.add(asideAt(seg), maxWord)
			t.push(slot)
		}
	}
}

// ends at a line, with that.
func (t *tale) ends(at int, got api.Errno) api.Errno {
	t.at = at
	return got
}

// grow a segment.
func (t *tale) grow(seg int) api.Errno {
	switch t.load(stateAt(seg)) {
	case unmapped:
	case mapped:
		return t.ends(1, api.ErrSame)
	default:
		return t.ends(1, api.ErrBusy)
	}
	if !t.cas(stateAt(seg), unmapped, mapped) {
		return t.ends(2, api.ErrBusy)
	}
	t.turn(seg)
	return t.ends(2, api.OK)
}

// shrink a segment.
func (t *tale) shrink(seg, looks int) api.Errno {
	switch t.load(stateAt(seg)) {
	case mapped:
	case unmapped:
		return t.ends(1, api.ErrNone)
	default:
		return t.ends(1, api.ErrBusy)
	}
	if !t.cas(stateAt(seg), mapped, drains) {
		return t.ends(2, api.ErrBusy)
	}
	for ; ; looks-- {
		if t.load(asideAt(seg)) == 8 {
			if t.cas(stateAt(seg), drains, unmapped) {
				return t.ends(4, api.OK)
			}
			return t.ends(4, api.ErrBusy)
		}
		if looks <= 0 {
			break
		}
		t.seek(seg)
	}
	if !t.cas(stateAt(seg), drains, mapped) {
		return t.ends(8, api.ErrBusy)
	}
	t.turn(seg)
	return t.ends(8, api.ErrGone)
}

// seek a segment's slots in the list.
func (t *tale) seek(seg int) {
	var kept []int
	for len(kept) < 256 {
		slot := t.pop()
		if slot < 0 {
			break
		}
		if slot/8 == seg {
			t.park(slot)
		} else {
			kept = append(kept, slot)
		}
	}
	for _, slot := range slices.Backward(kept) {
		t.push(slot)
	}
}

// P9.1, P9.2: in many orders of steps, of whatever words, which others change between: each step is that of the lines.
func TestLinesAnyOrder(t *testing.T) {
	x := numbers(88172645463325252)
	type ending struct {
		shrink bool
		at     int
		got    api.Errno
	}
	ends := map[ending]int{}
	segments := []int{0, 1, 16, lastSeg}
	pick := func(l ...uint64) uint64 { return l[x.below(len(l))] }
	for round := range 300 {
		by := map[api.Addr]uint64{}
		m := mems.New()
		put := func(a api.Addr, v uint64) {
			by[a] = v
			m.Store(a, v)
		}
		headed := func() uint64 { return pick(0, 1, 2, 8, 9, 10, 256, 257, 65535) | pick(0, 1, maxTag)<<16 }
		meddle := func() {
			seg := segments[x.below(len(segments))]
			slot := 8*seg + x.below(8)
			switch x.below(8) {
			case 0:
				put(freeAt, headed())
			case 1:
				put(linkAt(slot), headed())
			case 2, 3:
				put(headerAt(slot), pick(0, 1, 2, 3, 3, 3, 4, 5, 7, maxWord)|pick(0, 1, 2, 3, uint64(maxGen), maxWord)<<3)
			case 4, 5:
				put(stateAt(seg), pick(mapped, drains, mapped, drains, unmapped, unmapped, 3, maxWord))
			case 6, 7:
				put(asideAt(seg), pick(0, 1, 7, 8, 8, 8, 9, maxWord))
			}
		}
		for range 80 {
			meddle()
		}
		ops, tales := make([]operation, 5), make([]*tale, 5)
		often := 3 + x.below(40)
		for i := range 800 {
			n := x.below(len(ops))
			if ops[n] == nil || tales[n].over {
				seg, looks := segments[x.below(len(segments))], x.below(5)-1
				if x.below(2) == 0 {
					ops[n], tales[n] = NewGrow(seg), tell(by, func(t *tale) api.Errno { return t.grow(seg) })
				} else {
					ops[n], tales[n] = NewShrink(seg, looks), tell(by, func(t *tale) api.Errno { return t.shrink(seg, looks) })
				}
			}
			if x.below(often) == 0 {
				meddle()
			}
			want := tales[n].step()
			step(t, "any order", ops[n], m, i, want, tales[n].over)
			if got := ops[n].Got(); got != tales[n].got {
				t.Errorf("Got is %d, want %d", got, tales[n].got)
			}
			if tales[n].over {
				_, shrink := ops[n].(*Shrink)
				ends[ending{shrink, tales[n].at, tales[n].got}]++
			}
			if t.Failed() {
				t.Fatalf("in round %d, at step %d", round, i)
			}
		}
		for _, o := range tales {
			if o != nil {
				o.stop()
			}
		}
		for _, w := range m.Words() {
			if by[w.Addr] != w.Value {
				t.Fatalf("round %d: the word %+v is %#x, want %#x", round, w.Addr, w.Value, by[w.Addr])
			}
			delete(by, w.Addr)
		}
		for a, v := range by {
			if v != 0 {
				t.Fatalf("round %d: the word %+v is 0, want %#x", round, a, v)
			}
		}
	}
	if len(ends) != 4+7 {
		t.Errorf("of 11 ends that there are came %v", ends)
	}
	for e, n := range ends {
		if n < 30 {
			t.Errorf("the end %+v came %d times alone", e, n)
		}
	}
}

// thread: somebody who allocs, and frees what they got, one operation behind the other.
type thread struct {
	op  part      // nil: it has nothing under way
	has []api.Ref // what it got, and did not begin to free yet
	of  api.Ref   // what it frees
}

// world of threads, one who grows and shrinks, and a memory.
type world struct {
	m       *mems.Mem
	most    uint32
	segs    []int
	threads []*thread
	grower  operation // nil: it has nothing under way
	ends    map[api.Errno]int
}

// newWorld: of each segment so many slots that are not gone; they are all parked, and their segments not mapped.
func newWorld(threads int, most, gen uint32, tag uint64, live int, segs ...int) *world {
	w := &world{m: memory(word(freeAt, tag<<16)), most: most, segs: segs, ends: map[api.Errno]int{}}
	for _, seg := range segs {
		w.m.Store(asideAt(seg), 8)
		for i := range 8 {
			h := hw(api.StParked, gen)
			if i >= live {
				h = hw(api.StGone, most)
			}
			w.m.Store(headerAt(8*seg+i), h)
		}
	}
	for range threads {
		w.threads = append(w.threads, &thread{})
	}
	return w
}

// mapped at first: segments that are grown ahead of all else.
func (w *world) mapped(segs ...int) *world {
	for _, seg := range segs {
		for o := NewGrow(seg); !o.Step(w.m); {
		}
	}
	return w
}

// free one of those that a thread has.
func (w *world) free(d *thread, which int) {
	d.of = d.has[which]
	d.has = slices.Delete(slices.Clone(d.has), which, which+1)
	d.op = allocs.NewFree(d.of.Slot, w.most)
}

// step of what a thread has under way; a ref that is got is its own from then on.
func (w *world) step(d *thread) {
	if !d.op.Step(w.m) {
		return
	}
	if o, ok := d.op.(*allocs.Alloc); ok {
		if r, ok := o.Got(); ok {
			d.has = append(slices.Clone(d.has), r)
		}
	}
	d.op = nil
}

// growerSteps: a step of the one who grows and shrinks.
func (w *world) growerSteps() {
	if w.grower.Step(w.m) {
		w.ends[w.grower.Got()]++
		w.grower = nil
	}
}

// idle: is nothing under way?
func (w *world) idle() bool {
	for _, d := range w.threads {
		if d.op != nil {
			return false
		}
	}
	return w.grower == nil
}

// listed slots, from the head on; false, if they go round.
func listed(by map[api.Addr]uint64) (map[int]bool, bool) {
	l := map[int]bool{}
	for s := slotTold(by[freeAt]); s >= 0; s = slotTold(by[linkAt(s)]) {
		if l[s] {
			return l, false
		}
		l[s] = true
	}
	return l, true
}

// holds: what P9.3 says of each moment, and, if nothing is under way, of that.
func (w *world) holds(t *testing.T) {
	t.Helper()
	by := map[api.Addr]uint64{}
	for _, x := range w.m.Words() {
		by[x.Addr] = x.Value
	}
	list, ok := listed(by)
	if !ok {
		t.Fatal("the list goes round")
	}
	live := map[int]bool{}
	for _, d := range w.threads {
		for _, r := range d.has {
			if is := by[headerAt(r.Slot)]; live[r.Slot] || is != hw(api.StLive, r.Gen) {
				t.Fatalf("%+v is live for another one, too: %v, or its header %#x", r, live[r.Slot], is)
			}
			live[r.Slot] = true
		}
	}
	idle := w.idle()
	for _, seg := range w.segs {
		aside := uint64(0)
		for slot := 8 * seg; slot < 8*seg+8; slot++ {
			state := api.State(by[headerAt(slot)] & 7)
			put := state == api.StParked || state == api.StGone
			if put {
				aside++
			}
			// on its way to be live, or to the list, a slot is not put aside
			if by[stateAt(seg)] == unmapped && (!put || list[slot] || live[slot]) {
				t.Fatalf("slot %d, of state %d, of a segment that is not mapped, is live: %v, in the list: %v", slot, state, live[slot], list[slot])
			}
			if idle && (list[slot] != (state == api.StFree) || live[slot] != (state == api.StLive) || (state == api.StParked) && by[stateAt(seg)] != unmapped) {
				t.Fatalf("slot %d, of state %d, of a segment of state %d, is live: %v, in the list: %v", slot, state, by[stateAt(seg)], live[slot], list[slot])
			}
		}
		if idle && by[asideAt(seg)] != aside {
			t.Fatalf("of segment %d, of state %d, %d slots are put aside, told are %d", seg, by[stateAt(seg)], aside, by[asideAt(seg)])
		}
		if state := by[stateAt(seg)]; idle && state != unmapped && state != mapped {
			t.Fatalf("segment %d is of state %d, when nothing is under way", seg, state)
		}
	}
}

// finish all that is under way, one behind the other, each alone.
func (w *world) finish(t *testing.T) {
	t.Helper()
	for _, d := range w.threads {
		for n := 0; d.op != nil; n++ {
			if w.step(d); n > 10000 {
				t.Fatalf("%T: not over alone", d.op)
			}
		}
	}
	for n := 0; w.grower != nil; n++ {
		if w.growerSteps(); n > 100000 {
			t.Fatalf("%T: not over alone", w.grower)
		}
	}
	w.holds(t)
}

// begin something, whatever the numbers say.
func (w *world) begin(x *numbers, d *thread) {
	if len(d.has) == 0 || x.below(9) < 5 {
		d.op = allocs.NewAlloc()
		return
	}
	w.free(d, x.below(len(d.has)))
}

// P9.3: many threads, in many orders of steps, while segments come and go, one at a time.
func TestManyThreads(t *testing.T) {
	x := numbers(1234567890123456789)
	ends := map[api.Errno]int{}
	var gone, stopped int
	for _, c := range []struct {
		threads, live, rounds, steps, many, looks int
		most, gen                                 uint32
		segs                                      []int
	}{
		{1, 1, 60, 400, 60, 3, 900, 0, []int{0}}, {2, 1, 60, 600, 60, 3, 900, 0, []int{lastSeg}}, {2, 2, 60, 600, 90, 4, 900, 0, []int{5}}, {3, 2, 60, 800, 90, 4, 900, 3, []int{5}},
		{2, 1, 60, 600, 60, 4, 900, 0, []int{1, 2}}, {3, 2, 60, 900, 90, 5, 900, 0, []int{0, lastSeg}}, {4, 8, 20, 1500, 150, 6, 900, 7, []int{3}}, {3, 3, 60, 900, 90, 5, 3, 0, []int{9, 10}},
		{8, 4, 20, 2000, 150, 8, maxGen, maxGen - 3, []int{4, 9, 16}}, {16, 8, 5, 4000, 300, 12, 40, 0, []int{0, 1, 2, 3}},
	} {
		for range c.rounds {
			w := newWorld(c.threads, c.most, c.gen, []uint64{0, 5, maxTag - 20, maxTag}[x.below(4)], c.live, c.segs...)
			quiet := 1 + x.below(c.many) // steps of the one who grows and shrinks that come one behind the other
			for range c.steps {
				if x.below(3) > 0 {
					if w.grower == nil {
						seg := c.segs[x.below(len(c.segs))]
						if w.grower = NewShrink(seg, x.below(c.looks)-1); x.below(5) < 2 {
							w.grower = NewGrow(seg)
						}
					}
					for range 1 + x.below(1+x.below(quiet)) {
						if w.grower != nil {
							w.growerSteps()
						}
					}
				}
				d := w.threads[x.below(c.threads)]
				for range 1 + x.below(1+x.below(9)) {
					if d.op == nil {
						w.begin(&x, d)
					}
					w.step(d)
				}
				w.holds(t)
				if x.below(200) == 0 {
					w.finish(t)
					stopped++
				}
			}
			w.finish(t)
			for e, n := range w.ends {
				ends[e] += n
			}
			for _, seg := range c.segs {
				for i := range c.live {
					if w.m.Load(headerAt(8*seg+i))&7 == 4 {
						gone++
					}
				}
			}
		}
	}
	t.Logf("ends %v, %d gone, %d stops", ends, gone, stopped)
	for _, e := range []api.Errno{api.OK, api.ErrNone, api.ErrSame, api.ErrGone} {
		if ends[e] < 1000 {
			t.Errorf("the end %d came %d times alone", e, ends[e])
		}
	}
	if ends[api.ErrBusy] != 0 { // each is alone, so nobody turns a segment meanwhile
		t.Errorf("busy %d times", ends[api.ErrBusy])
	}
	if gone < 100 || stopped < 500 {
		t.Errorf("%d slots gone, %d stops", gone, stopped)
	}
}

// P9.3: each order that there is of the steps of one or two threads, and of one who grows and shrinks, each of which has a few things to do.
func TestEachOrder(t *testing.T) {
	for _, c := range []struct {
		name string
		live int
		segs []int
		most uint32
		does []string // by a thread, and at last the one who grows and shrinks; a: alloc, f: free what was got last, if something was; g: grow the first segment, s: shrink it with a look, z: with none; S: shrink the second one
	}{
		{"one slot, one thread", 1, []int{0}, 9, []string{"afaf", "sgz"}},
		{"one slot, which is gone", 1, []int{0}, 0, []string{"afa", "zsg"}},
		{"one slot, two threads", 1, []int{lastSeg}, 9, []string{"af", "a", "z"}},
		{"one slot, two threads, that goes and comes", 1, []int{2}, 9, []string{"a", "a", "sg"}},
		{"two slots, one thread", 2, []int{3}, 9, []string{"aaf", "sg"}},
		{"two segments, two threads", 1, []int{0, 1}, 9, []string{"a", "a", "s"}},
		{"two segments, one thread", 1, []int{0, 1}, 9, []string{"afa", "sSg"}},
	} {
		o := orders{t: t, does: c.does, seen: map[[sha256.Size]byte]bool{}}
		w := newWorld(len(c.does)-1, c.most, 0, 0, c.live, c.segs...).mapped(c.segs...)
		o.from(w, make([]int, len(c.does)))
		if o.ends == 0 {
			t.Errorf("%s: no end", c.name)
		}
		t.Logf("%s: %d moments, %d ends", c.name, len(o.seen), o.ends)
	}
}

// orders of steps, gone through from moment to moment.
type orders struct {
	t    *testing.T
	does []string
	seen map[[sha256.Size]byte]bool // moments: from two that are alike the same things follow
	ends int
}

// from a moment on: each one that has something to do goes next once.
func (o *orders) from(w *world, done []int) {
	k := w.moment(done)
	if o.seen[k] {
		return
	}
	o.seen[k] = true
	w.holds(o.t)
	idle := true
	for i := range o.does {
		grower := i == len(w.threads)
		under := grower && w.grower != nil || !grower && w.threads[i].op != nil
		if !under && done[i] == len(o.does[i]) {
			continue
		}
		idle = false
		on, after := w.copied(i), slices.Clone(done)
		if !under {
			after[i]++
			if !on.begins(i, rune(o.does[i][done[i]])) {
				o.from(on, after)
				continue
			}
		}
		if grower {
			on.growerSteps()
		} else {
			on.step(on.threads[i])
		}
		o.from(on, after)
	}
	if idle {
		o.ends++
	}
}

// begins: one of them begins with what it has to do; false, if there is nothing to be freed.
func (w *world) begins(i int, what rune) bool {
	switch what {
	case 'g':
		w.grower = NewGrow(w.segs[0])
	case 's':
		w.grower = NewShrink(w.segs[0], 1)
	case 'z':
		w.grower = NewShrink(w.segs[0], 0)
	case 'S':
		w.grower = NewShrink(w.segs[1], 1)
	case 'a':
		w.threads[i].op = allocs.NewAlloc()
	case 'f':
		d := w.threads[i]
		if len(d.has) == 0 {
			return false
		}
		w.free(d, len(d.has)-1)
	}
	return true
}

// copied: a world like it, apart from it, as far as one of them changes it by a step.
func (w *world) copied(who int) *world {
	c := *w
	c.m, c.ends = memory(w.m.Words()...), map[api.Errno]int{}
	if c.threads = slices.Clone(w.threads); who == len(c.threads) {
		c.grower = copied(w.grower)
	} else {
		c.threads[who] = copied(w.threads[who])
	}
	return &c
}

// copied: what is like it, apart from it, down to whatever it points to.
func copied[T any](v T) T {
	parted(reflect.ValueOf(&v).Elem())
	return v
}

// parted: what a value points to becomes its own.
func parted(v reflect.Value) {
	v = reflect.NewAt(v.Type(), v.Addr().UnsafePointer()).Elem() // by this, fields that are not exported can be set, too
	switch v.Kind() {
	case reflect.Interface:
		if !v.IsNil() {
			c := reflect.New(v.Elem().Type()).Elem()
			c.Set(v.Elem())
			parted(c)
			v.Set(c)
		}
	case reflect.Pointer:
		if !v.IsNil() {
			c := reflect.New(v.Type().Elem())
			c.Elem().Set(v.Elem())
			parted(c.Elem())
			v.Set(c)
		}
	case reflect.Struct:
		for i := range v.NumField() {
			parted(v.Field(i))
		}
	case reflect.Slice: // of numbers
		v.Set(reflect.AppendSlice(reflect.MakeSlice(v.Type(), 0, v.Len()), v))
	}
}

// moment: all words, and what each one is at.
func (w *world) moment(done []int) [sha256.Size]byte {
	var b []byte
	for _, x := range w.m.Words() {
		b = written(b, reflect.ValueOf(x))
	}
	for _, d := range w.threads {
		b = written(b, reflect.ValueOf(*d))
	}
	return sha256.Sum256(written(written(b, reflect.ValueOf(&w.grower)), reflect.ValueOf(done)))
}

// written: a value, down to whatever it points to, behind what was written.
func written(b []byte, v reflect.Value) []byte {
	switch v.Kind() {
	case reflect.Interface, reflect.Pointer:
		if v.IsNil() {
			return append(b, 'n')
		}
		return written(append(b, v.Elem().Type().String()...), v.Elem())
	case reflect.Struct:
		for i := range v.NumField() {
			b = written(b, v.Field(i))
		}
		return b
	case reflect.Slice:
		b = strconv.AppendInt(b, int64(v.Len()), 10)
		for i := range v.Len() {
			b = written(append(b, ','), v.Index(i))
		}
		return b
	case reflect.Bool:
		return strconv.AppendBool(b, v.Bool())
	}
	if v.CanUint() {
		return append(strconv.AppendUint(b, v.Uint(), 16), '.')
	}
	return append(strconv.AppendInt(b, v.Int(), 16), '.')
}
