package retires_test

import (
	"math"
	"slices"
	"testing"

	"ragpicker/api"
	"ragpicker/retires"
)

const (
	minInt  = math.MinInt
	maxInt  = math.MaxInt
	maxWord = uint64(math.MaxUint64)
	maxGen  = uint32(math.MaxUint32)
	last    = api.MaxSlots - 1
	yes     = true
	no      = false
)

// Errors' numbers, told anew.
const (
	ok      = api.Errno(0)
	errArg  = api.Errno(1)
	errNil  = api.Errno(2)
	errSame = api.Errno(8)
)

// ref without mark.
func ref(slot int, gen uint32) api.Ref { return api.Ref{Slot: slot, Gen: gen} }

// entry of a slot, all of whose words are unlike those of each other one.
func entry(slot int) api.Entry {
	n := uint64(slot) + 1
	return api.Entry{Ref: ref(slot, uint32(n)*16777215), Birth: n << 20, Epoch: maxWord - n, Era: n<<40 + 5}
}

// entries of slots.
func entries(slots ...int) []api.Entry {
	var l []api.Entry
	for _, s := range slots {
		l = append(l, entry(s))
	}
	return l
}

// born: entries of these births, each of a slot of its own.
func born(births ...uint64) []api.Entry {
	var l []api.Entry
	for i, b := range births {
		l = append(l, api.Entry{Ref: ref(i, 9), Birth: b, Epoch: maxWord, Era: maxWord})
	}
	return l
}

// wrongSlots: those next to the ones that may be, those far away, and those whose last bits are of one that may be.
func wrongSlots() []int {
	l := []int{
		-1, -2, -3, -4, -127, -128, -255, -256, -257, -65536, minInt, minInt + 1, minInt + 7, -1 << 32, -1<<32 + 5, -1 << 62,
		256, 257, 258, 259, 511, 512, 65535, 65536, 65541, 1<<31 - 1, 1 << 31, 1<<31 + 5, 1<<32 - 1, 1 << 32, 1<<32 + 5, 1 << 62, maxInt - 1, maxInt,
	}
	for k := 9; k < 63; k++ {
		l = append(l, 1<<k, 1<<k+3, -1<<k, -1<<k+3)
	}
	return l
}

// gens of refs, the last ones among them.
func gens() []uint32 {
	return []uint32{0, 1, 2, 255, 256, 65535, 65536, 1<<31 - 1, 1 << 31, maxGen - 1, maxGen}
}

// numbers in some order that hangs on nothing but where it began.
type numbers uint64

func (x *numbers) below(n int) int {
	*x = *x*6364136223846793005 + 1442695040888963407
	return int(uint64(*x) >> 33 % uint64(n))
}

// masks: all lists of n bools that there are.
func masks(n int) [][]bool {
	var all [][]bool
	for bits := range 1 << n {
		l := make([]bool, n)
		for i := range l {
			l[i] = bits>>i&1 == 1
		}
		all = append(all, l)
	}
	return all
}

// upTo n bools: all lists of them, none at all and nothing ahead.
func upTo(n int) [][]bool {
	all := [][]bool{nil}
	for i := range n + 1 {
		all = append(all, masks(i)...)
	}
	return all
}

// each of n bools is that one.
func each(n int, is bool) []bool {
	l := make([]bool, n)
	for i := range l {
		l[i] = is
	}
	return l
}

// tale of a list, told anew: each thing is looked for from the first entry to the last one.
type tale struct{ has []api.Entry }

func (x *tale) add(e api.Entry) api.Errno {
	if e.Ref.Slot < 0 || e.Ref.Slot > 255 || e.Ref.Mark {
		return errArg
	}
	for _, h := range x.has {
		if h.Ref.Slot == e.Ref.Slot && h.Ref.Gen == e.Ref.Gen {
			return errSame
		}
	}
	x.has = append(slices.Clone(x.has), e)
	return ok
}

func (x *tale) sweep(gone []bool) []api.Entry {
	var swept, stay []api.Entry
	for i, e := range x.has {
		if i < len(gone) && gone[i] {
			swept = append(swept, e)
		} else {
			stay = append(stay, e)
		}
	}
	x.has = stay
	return swept
}

func (x *tale) born(before uint64) int {
	n := 0
	for _, e := range x.has {
		if e.Birth < before {
			n++
		}
	}
	return n
}

// list with entries, all of which may be.
func list(t *testing.T, l ...api.Entry) *retires.List {
	t.Helper()
	r := retires.New()
	if r == nil {
		t.Fatal("New answers nothing")
	}
	adds(t, r, l...)
	return r
}

// adds entries, one behind the other.
func adds(t *testing.T, r *retires.List, l ...api.Entry) {
	t.Helper()
	for _, e := range l {
		if err := r.Add(e); err != ok {
			t.Errorf("Add of %v: %v", e, err)
		}
	}
}

// answers: is that what was awaited, with no room behind?
func answers(t *testing.T, name string, got, want []api.Entry) {
	t.Helper()
	if !slices.Equal(got, want) {
		t.Errorf("%s: %v, want %v", name, got, want)
	}
	if cap(got) != len(got) {
		t.Errorf("%s: %d entries, but room for %d", name, len(got), cap(got))
	}
}

// has: what all calls that change nothing tell of a list.
func has(t *testing.T, name string, r *retires.List, want ...api.Entry) {
	t.Helper()
	if n := r.Len(); n != len(want) {
		t.Errorf("%s: Len is %d, want %d", name, n, len(want))
	}
	answers(t, name+": All", r.All(), want)
	x := tale{want}
	for _, b := range []uint64{0, 1, 5, 1 << 21, 1<<21 + 1, 1 << 28, maxWord} {
		if n := r.Born(b); n != x.born(b) {
			t.Errorf("%s: Born(%d) is %d, want %d", name, b, n, x.born(b))
		}
	}
}

// unlike: are all refs of a list?
func unlike(t *testing.T, name string, r *retires.List) {
	t.Helper()
	l := r.All()
	for i := range l {
		for j := range i {
			if l[i].Ref == l[j].Ref {
				t.Errorf("%s: %v stands at %d and at %d", name, l[i].Ref, j, i)
			}
		}
	}
}

// P13.1, P13.2, P13.3: chapter 13's examples.
func TestExamples(t *testing.T) {
	r := list(t, entries(1, 2, 3)...)
	answers(t, "Sweep", r.Sweep([]bool{yes, no, yes, yes}), entries(1, 3))
	has(t, "swept", r, entry(2))
	same := api.Entry{Ref: entry(2).Ref}
	if err := r.Add(same); err != errSame {
		t.Errorf("Add of slot 2, the same generation: %v", err)
	}
	other := same
	other.Ref.Gen++
	if err := r.Add(other); err != ok {
		t.Errorf("Add of slot 2, another generation: %v", err)
	}
	has(t, "added", r, entry(2), other)
}

// P13.1: New has no entries, each time anew.
func TestNew(t *testing.T) {
	a, b := retires.New(), retires.New()
	if a == nil || b == nil || a == b {
		t.Fatal("New answers nothing, or the same list again")
	}
	has(t, "first", a)
	has(t, "second", b)
}

// P13.1: Add of each slot that may be, alone, and behind all slots ahead of it.
func TestAddEachSlot(t *testing.T) {
	all := retires.New()
	var want []api.Entry
	for s := range api.MaxSlots {
		has(t, "alone", list(t, entry(s)), entry(s))
		adds(t, all, entry(s))
		want = append(want, entry(s))
		has(t, "all", all, want...)
	}
	if all.Len() != 256 {
		t.Errorf("Len of all slots is %d", all.Len())
	}
	down := retires.New()
	for s := last; s >= 0; s-- {
		adds(t, down, entry(s))
	}
	slices.Reverse(want)
	has(t, "down", down, want...)
}

// P13.1: Add of a slot that may not be, which changes nothing.
func TestAddWrongSlots(t *testing.T) {
	empty, some := retires.New(), list(t, entries(0, 3, 5, last)...)
	for _, s := range wrongSlots() {
		for _, mark := range []bool{no, yes} {
			for _, g := range []uint32{0, 5, maxGen} {
				e := api.Entry{Ref: api.Ref{Slot: s, Gen: g, Mark: mark}, Birth: 1, Epoch: 2, Era: 3}
				for _, r := range []*retires.List{empty, some} {
					if err := r.Add(e); err != errArg {
						t.Errorf("Add of %v: %v", e.Ref, err)
					}
				}
			}
		}
	}
	if err := empty.Add(api.Entry{Ref: api.Ref{Slot: -1}}); err != errArg {
		t.Errorf("Add of no ref: %v", err)
	}
	has(t, "empty", empty)
	has(t, "some", some, entries(0, 3, 5, last)...)
}

// P13.1: Add of a mark, which changes nothing: the same ref without it goes in behind that.
func TestAddMarks(t *testing.T) {
	for s := range api.MaxSlots {
		r := list(t, entry((s+1)%api.MaxSlots))
		for _, g := range gens() {
			e := api.Entry{Ref: api.Ref{Slot: s, Gen: g, Mark: true}}
			if err := r.Add(e); err != errArg {
				t.Errorf("Add of %v: %v", e.Ref, err)
			}
		}
		has(t, "marks", r, entry((s+1)%api.MaxSlots))
		e := entry(s)
		e.Ref.Mark = true
		if err := r.Add(e); err != errArg {
			t.Errorf("Add of %v: %v", e.Ref, err)
		}
		adds(t, r, entry(s))
		has(t, "behind a mark", r, entry((s+1)%api.MaxSlots), entry(s))
	}
}

// P13.1: Add of a ref that is in it, at whatever place, with the same words or with others: those that were added first stay.
func TestAddSame(t *testing.T) {
	l := entries(7, 0, 200, last, 1)
	for n := range len(l) + 1 {
		r := list(t, l[:n]...)
		for _, e := range l[:n] {
			for _, o := range []api.Entry{
				e, {Ref: e.Ref}, {Ref: e.Ref, Birth: e.Birth + 1, Epoch: e.Epoch, Era: e.Era}, {Ref: e.Ref, Birth: e.Birth, Epoch: e.Epoch + 1, Era: e.Era},
				{Ref: e.Ref, Birth: e.Birth, Epoch: e.Epoch, Era: e.Era + 1}, {Ref: e.Ref, Birth: maxWord, Epoch: maxWord, Era: maxWord},
			} {
				if err := r.Add(o); err != errSame {
					t.Errorf("Add of %v, which is in it: %v", o, err)
				}
			}
		}
		has(t, "same", r, l[:n]...)
	}
}

// P13.1: Add of the same slot with other generations, and of the same words by another ref.
func TestAddGenerations(t *testing.T) {
	for _, s := range []int{0, 1, 127, 128, last} {
		r := retires.New()
		var want []api.Entry
		for _, g := range gens() {
			e := api.Entry{Ref: ref(s, g), Birth: 4, Epoch: 5, Era: 6}
			adds(t, r, e)
			want = append(want, e)
			for _, w := range want {
				if err := r.Add(w); err != errSame {
					t.Errorf("Add of %v, which is in it: %v", w.Ref, err)
				}
			}
			has(t, "generations", r, want...)
		}
	}
}

// P13.1: refs whose slots and generations are one another's, or make up the same number, are unlike.
func TestAddAcross(t *testing.T) {
	r := retires.New()
	var want []api.Entry
	for s := range 24 {
		for g := range uint32(24) {
			want = append(want, api.Entry{Ref: ref(s, g)})
		}
	}
	for k := range 32 {
		want = append(want, api.Entry{Ref: ref(100, 1<<k)}, api.Entry{Ref: ref(101, 1<<k+1)})
	}
	adds(t, r, want...)
	has(t, "across", r, want...)
	unlike(t, "across", r)
}

// P13.1, P13.3: Add of a ref that was swept out: it is the last one, with the words that it has now.
func TestAddSwept(t *testing.T) {
	l := entries(4, 0, last)
	for i := range l {
		r := list(t, l...)
		gone := make([]bool, 3)
		gone[i] = true
		answers(t, "Sweep", r.Sweep(gone), l[i:i+1])
		again := api.Entry{Ref: l[i].Ref, Birth: 1, Epoch: 2, Era: 3}
		adds(t, r, again)
		want := append(slices.Delete(slices.Clone(l), i, i+1), again)
		has(t, "again", r, want...)
		for _, e := range l {
			if err := r.Add(e); err != errSame {
				t.Errorf("Add of %v, which is in it: %v", e.Ref, err)
			}
		}
		has(t, "and no more", r, want...)
		answers(t, "Sweep of what came again", r.Sweep([]bool{no, no, yes}), want[2:])
		adds(t, r, l[i])
		has(t, "a third time", r, append(want[:2:2], l[i])...)
	}
}

// P13.1: which error is told, where more than one could be.
func TestWhichError(t *testing.T) {
	var none *retires.List
	in := entry(3)
	marked := in
	marked.Ref.Mark = true
	for _, c := range []struct {
		name string
		to   *retires.List
		e    api.Entry
		want api.Errno
	}{
		{"no list, one that may be", none, in, errNil},
		{"no list, a mark", none, marked, errNil},
		{"no list, no slot", none, api.Entry{Ref: api.Ref{Slot: -1}}, errNil},
		{"no list, a slot too many", none, api.Entry{Ref: ref(256, 0)}, errNil},
		{"no list, a mark of no slot", none, api.Entry{Ref: api.Ref{Slot: -1, Mark: true}}, errNil},
		{"no list, nothing", none, api.Entry{}, errNil},
		{"the mark of one that is in it", list(t, in), marked, errArg},
		{"a mark of no slot", list(t, in), api.Entry{Ref: api.Ref{Slot: -1, Mark: true}}, errArg},
		{"one that is in it", list(t, in), in, errSame},
		{"nothing, which is of slot 0", list(t, in), api.Entry{}, ok},
		{"nothing, which is in it", list(t, in, api.Entry{}), api.Entry{}, errSame},
	} {
		if err := c.to.Add(c.e); err != c.want {
			t.Errorf("%s: %v, want %v", c.name, err, c.want)
		}
	}
}

// P13.2: Len and All of no entries, of one, of many, in the order in which they were added.
func TestLenAll(t *testing.T) {
	has(t, "none", retires.New())
	has(t, "one", list(t, entry(9)), entry(9))
	has(t, "one of noughts", list(t, api.Entry{}), api.Entry{})
	has(t, "up", list(t, entries(1, 2, 3)...), entries(1, 2, 3)...)
	has(t, "down", list(t, entries(3, 2, 1)...), entries(3, 2, 1)...)
	has(t, "mixed", list(t, entries(200, 3, last, 0, 77)...), entries(200, 3, last, 0, 77)...)
	r := retires.New()
	var want []api.Entry
	for i := range 5000 { // each slot in many generations
		e := api.Entry{Ref: ref(i*77%api.MaxSlots, uint32(i*31)), Birth: uint64(i)}
		adds(t, r, e)
		want = append(want, e)
	}
	has(t, "many", r, want...)
}

// P13.3: by hand, at the edges.
func TestSweepByHand(t *testing.T) {
	for _, c := range []struct {
		name string
		has  []int
		gone []bool
		want []int
		stay []int
	}{
		{"of none, with nothing", nil, nil, nil, nil},
		{"of none, with no bools", nil, []bool{}, nil, nil},
		{"of none, with more", nil, []bool{yes, yes}, nil, nil},
		{"of one, with nothing", []int{5}, nil, nil, []int{5}},
		{"of one, with no bools", []int{5}, []bool{}, nil, []int{5}},
		{"of one, that stays", []int{5}, []bool{no}, nil, []int{5}},
		{"of one, that goes", []int{5}, []bool{yes}, []int{5}, nil},
		{"of one, that stays, with more", []int{5}, []bool{no, yes, yes}, nil, []int{5}},
		{"of one, that goes, with more", []int{5}, []bool{yes, no, yes}, []int{5}, nil},
		{"of some, with nothing", []int{9, 2, 4, 0}, nil, nil, []int{9, 2, 4, 0}},
		{"all", []int{9, 2, 4, 0}, []bool{yes, yes, yes, yes}, []int{9, 2, 4, 0}, nil},
		{"none", []int{9, 2, 4, 0}, []bool{no, no, no, no}, nil, []int{9, 2, 4, 0}},
		{"the first", []int{9, 2, 4, 0}, []bool{yes, no, no, no}, []int{9}, []int{2, 4, 0}},
		{"the last", []int{9, 2, 4, 0}, []bool{no, no, no, yes}, []int{0}, []int{9, 2, 4}},
		{"between", []int{9, 2, 4, 0}, []bool{no, yes, yes, no}, []int{2, 4}, []int{9, 0}},
		{"around", []int{9, 2, 4, 0}, []bool{yes, no, no, yes}, []int{9, 0}, []int{2, 4}},
		{"each second", []int{9, 2, 4, 0}, []bool{no, yes, no, yes}, []int{2, 0}, []int{9, 4}},
		{"fewer bools: the first", []int{9, 2, 4, 0}, []bool{yes}, []int{9}, []int{2, 4, 0}},
		{"fewer bools: two of three", []int{9, 2, 4, 0}, []bool{yes, no, yes}, []int{9, 4}, []int{2, 0}},
		{"fewer bools: none", []int{9, 2, 4, 0}, []bool{no, no}, nil, []int{9, 2, 4, 0}},
		{"more bools: all", []int{9, 2, 4, 0}, []bool{yes, yes, yes, yes, yes, yes}, []int{9, 2, 4, 0}, nil},
		{"more bools: those behind alone", []int{9, 2, 4, 0}, []bool{no, no, no, no, yes, yes}, nil, []int{9, 2, 4, 0}},
		{"more bools: some", []int{9, 2, 4, 0}, []bool{no, yes, no, no, yes}, []int{2}, []int{9, 4, 0}},
	} {
		r := list(t, entries(c.has...)...)
		answers(t, c.name, r.Sweep(c.gone), entries(c.want...))
		has(t, c.name, r, entries(c.stay...)...)
	}
}

// P13.3, P13.5: of up to five entries, with all lists of up to seven bools.
func TestSweepAll(t *testing.T) {
	for n := range 6 {
		l := entries(40, 3, last, 0, 17)[:n]
		for _, gone := range upTo(7) {
			r, x := list(t, l...), tale{l}
			want := x.sweep(gone)
			answers(t, "Sweep", r.Sweep(gone), want)
			has(t, "swept", r, x.has...)
			together(t, l, want, r.All())
			comesAgain(t, r, l, gone)
		}
	}
}

// together: what is swept, and what stays, are what was there, each entry once, in order.
func together(t *testing.T, was, swept, stay []api.Entry) {
	t.Helper()
	if len(swept)+len(stay) != len(was) {
		t.Errorf("%d swept and %d that stay of %d", len(swept), len(stay), len(was))
	}
	i, j := 0, 0
	for _, e := range was {
		switch {
		case i < len(swept) && swept[i] == e:
			i++
		case j < len(stay) && stay[j] == e:
			j++
		default:
			t.Errorf("%v is neither swept nor does it stay, in order", e)
		}
	}
}

// comesAgain: those that went may be added again, those that stay may not.
func comesAgain(t *testing.T, r *retires.List, l []api.Entry, gone []bool) {
	t.Helper()
	want := r.All()
	for i, e := range l {
		err := errSame
		if i < len(gone) && gone[i] {
			err = ok
			want = append(want, e)
		}
		if got := r.Add(e); got != err {
			t.Errorf("%v: Add of %v: %v, want %v", gone, e.Ref, got, err)
		}
	}
	has(t, "come again", r, want...)
	unlike(t, "come again", r)
}

// P13.3: sweeps one behind the other, with adds between: all lists of bools that there are, with as many bools as entries, or one more.
func TestSweepBehindSweep(t *testing.T) {
	for _, first := range masks(4) {
		for _, second := range masks(5) {
			for _, add := range [][]int{nil, {8}, {30, 8}, {1, 2}, {3, 4, 8}} {
				r, x := list(t, entries(1, 2, 3, 4)...), tale{entries(1, 2, 3, 4)}
				answers(t, "first", r.Sweep(first), x.sweep(first))
				for _, s := range add {
					if err, want := r.Add(entry(s)), x.add(entry(s)); err != want {
						t.Errorf("%v: Add of slot %d: %v, want %v", first, s, err, want)
					}
				}
				has(t, "between", r, x.has...)
				answers(t, "second", r.Sweep(second), x.sweep(second))
				has(t, "behind", r, x.has...)
				unlike(t, "behind", r)
			}
		}
	}
}

// P13.3: a list that was swept out whole is as a new one, again and again.
func TestSweepWhole(t *testing.T) {
	r := retires.New()
	for i := range 50 {
		var l []api.Entry
		for s := range i + 1 {
			l = append(l, entry(s*3))
		}
		adds(t, r, l...)
		has(t, "full", r, l...)
		answers(t, "Sweep", r.Sweep(each(i+5, yes)), l)
		has(t, "empty", r)
		answers(t, "Sweep of none", r.Sweep(each(i+5, yes)), nil)
	}
}

// P13.2, P13.3: what All and Sweep told being changed behind that changes nothing of the list, nor of what was told.
func TestToldIsOwn(t *testing.T) {
	l := entries(6, 1, 90, last, 4)
	r := list(t, l...)
	one, two := r.All(), r.All()
	spoil(one)
	has(t, "All spoilt", r, l...)
	answers(t, "the other All", two, l)
	_ = append(two[:2], entry(33))
	has(t, "All appended to", r, l...)
	kept := r.All()
	swept := r.Sweep([]bool{no, yes, no, yes})
	answers(t, "All told ahead of a Sweep", kept, l)
	want := []api.Entry{l[0], l[2], l[4]}
	spoil(kept)
	has(t, "spoilt, what All told ahead of a Sweep", r, want...)
	spoil(swept)
	has(t, "Sweep spoilt", r, want...)
	for _, e := range want {
		if err := r.Add(e); err != errSame {
			t.Errorf("Add of %v, which is in it: %v", e.Ref, err)
		}
	}
	adds(t, r, l[1])
	next := r.Sweep([]bool{yes, no, yes, yes})
	adds(t, r, entries(50, 51, 52)...)
	answers(t, "Sweep told ahead of adds", next, []api.Entry{l[0], l[4], l[1]})
	answers(t, "a later Sweep", r.Sweep(each(4, yes)), append(l[2:3:3], entries(50, 51, 52)...))
	answers(t, "Sweep told ahead of a Sweep", next, []api.Entry{l[0], l[4], l[1]})
}

// spoil entries: all of them are others behind that.
func spoil(l []api.Entry) {
	for i := range l {
		l[i] = api.Entry{Ref: api.Ref{Slot: -5, Gen: 7, Mark: true}, Birth: 1, Epoch: 1, Era: 1}
	}
}

// P13.3: the bools that are handed in are neither changed nor kept.
func TestBoolsHandedIn(t *testing.T) {
	for _, n := range []int{0, 1, 3, 4, 5, 9} {
		for _, is := range []bool{no, yes} {
			r, x := list(t, entries(9, 2, 4, 0)...), tale{entries(9, 2, 4, 0)}
			gone := each(n, is)
			answers(t, "Sweep", r.Sweep(gone), x.sweep(gone))
			if !slices.Equal(gone, each(n, is)) {
				t.Errorf("%d bools, each %v, are %v behind Sweep", n, is, gone)
			}
			for i := range gone {
				gone[i] = !is
			}
			has(t, "bools changed", r, x.has...)
			answers(t, "Sweep with nothing", r.Sweep(nil), nil)
			has(t, "bools changed, and swept", r, x.has...)
		}
	}
	within := []bool{yes, no, yes, no, yes, yes} // room behind what is handed in does not count
	r := list(t, entries(9, 2, 4, 0)...)
	answers(t, "a piece of bools", r.Sweep(within[1:2]), nil)
	answers(t, "a piece of bools, with room", r.Sweep(within[:2]), entries(9))
	has(t, "a piece of bools", r, entries(2, 4, 0)...)
	if !slices.Equal(within, []bool{yes, no, yes, no, yes, yes}) {
		t.Errorf("bools are %v behind Sweep", within)
	}
}

// P13.4: by hand, at the edges.
func TestBorn(t *testing.T) {
	for _, c := range []struct {
		name   string
		births []uint64
		before uint64
		want   int
	}{
		{"none, 0", nil, 0, 0},
		{"none, last", nil, maxWord, 0},
		{"one of 0, 0", []uint64{0}, 0, 0},
		{"one of 0, 1", []uint64{0}, 1, 1},
		{"one of 0, last", []uint64{0}, maxWord, 1},
		{"one, below", []uint64{7}, 6, 0},
		{"one, at it", []uint64{7}, 7, 0},
		{"one, above", []uint64{7}, 8, 1},
		{"one of the last, last", []uint64{maxWord}, maxWord, 0},
		{"one of the last but one, last", []uint64{maxWord - 1}, maxWord, 1},
		{"one of the last, 0", []uint64{maxWord}, 0, 0},
		{"the same, below", []uint64{5, 5, 5}, 4, 0},
		{"the same, at it", []uint64{5, 5, 5}, 5, 0},
		{"the same, above", []uint64{5, 5, 5}, 6, 3},
		{"some, 0", []uint64{0, 1, 2, 3}, 0, 0},
		{"some, between", []uint64{0, 1, 2, 3}, 2, 2},
		{"some, above", []uint64{0, 1, 2, 3}, 4, 4},
		{"down", []uint64{9, 8, 3, 2, 3}, 3, 1},
		{"mixed", []uint64{9, 2, 8, 3, 7, 3, 0}, 4, 4},
		{"those first that are not", []uint64{9, 9, 1}, 5, 1},
		{"those last that are not", []uint64{1, 9, 9}, 5, 1},
		{"of 32 bits and more", []uint64{1 << 32, 1<<32 + 5, 5, 1<<31 + 1}, 1 << 32, 2},
		{"of 63 bits and more", []uint64{1 << 63, 1<<63 - 1, 1<<63 + 1, 0}, 1 << 63, 2},
		{"all of the last", []uint64{maxWord, maxWord, 0, maxWord}, maxWord, 1},
	} {
		r := list(t, born(c.births...)...)
		if n := r.Born(c.before); n != c.want {
			t.Errorf("%s: Born(%d) of %v is %d, want %d", c.name, c.before, c.births, n, c.want)
		}
		has(t, c.name, r, born(c.births...)...)
	}
}

// P13.4: Born looks at births alone, at each number around them, and rises with what is added, and falls with what is swept.
func TestBornMany(t *testing.T) {
	var births []uint64
	for i := range uint64(40) {
		births = append(births, i*i%23)
	}
	l := born(births...)
	for i := range l { // eras and epochs that are below all births and above them
		l[i].Epoch, l[i].Era = uint64(i%2)*maxWord, uint64((i+1)%2)*maxWord
	}
	r, x := retires.New(), tale{}
	counts := func() {
		t.Helper()
		for b := range uint64(25) {
			if n := r.Born(b); n != x.born(b) {
				t.Errorf("Born(%d) is %d, want %d", b, n, x.born(b))
			}
		}
	}
	for _, e := range l {
		adds(t, r, e)
		x.add(e)
		counts()
	}
	for r.Len() > 0 {
		gone := []bool{no, yes, no, no, yes}
		if r.Len() < 5 {
			gone = each(5, yes)
		}
		answers(t, "Sweep", r.Sweep(gone), x.sweep(gone))
		counts()
	}
}

// R3: of no list there is nothing, and it takes nothing.
func TestNoList(t *testing.T) {
	var r *retires.List
	for range 3 {
		has(t, "no list", r)
		if err := r.Add(entry(2)); err != errNil {
			t.Errorf("Add: %v", err)
		}
		for _, gone := range [][]bool{nil, {}, {yes}, {no, yes}} {
			answers(t, "Sweep", r.Sweep(gone), nil)
		}
	}
	if r.All() != nil || r.Sweep([]bool{yes}) != nil {
		t.Error("All or Sweep of no list is something")
	}
}

// P13.1, R3: a list that no call made is one without entries, and takes some, whichever call comes first.
func TestNotMade(t *testing.T) {
	for first := range 5 {
		var l retires.List
		r := &l
		switch first {
		case 0:
			has(t, "not made", r)
		case 1:
			answers(t, "All", r.All(), nil)
		case 2:
			answers(t, "Sweep", r.Sweep([]bool{yes, yes}), nil)
		case 3:
			if err := r.Add(api.Entry{Ref: api.Ref{Slot: -1}}); err != errArg {
				t.Errorf("Add of no ref: %v", err)
			}
		}
		adds(t, r, entries(4, 1, 3)...)
		if err := r.Add(entry(1)); err != errSame {
			t.Errorf("Add of one that is in it: %v", err)
		}
		has(t, "not made", r, entries(4, 1, 3)...)
		answers(t, "Sweep", r.Sweep([]bool{no, yes}), entries(1))
		adds(t, r, entry(1))
		has(t, "not made", r, entries(4, 3, 1)...)
	}
}

// P13.1: what one list has, another one need not have.
func TestApart(t *testing.T) {
	var unmade retires.List
	all := []*retires.List{retires.New(), retires.New(), &unmade}
	for i, r := range all {
		adds(t, r, entries(3, 7, i)...)
		has(t, "added", r, entries(3, 7, i)...)
	}
	answers(t, "Sweep", all[1].Sweep([]bool{yes, yes, no}), entries(3, 7))
	has(t, "first", all[0], entries(3, 7, 0)...)
	has(t, "second", all[1], entries(1)...)
	has(t, "third", all[2], entries(3, 7, 2)...)
	if err := all[0].Add(entry(7)); err != errSame {
		t.Errorf("Add of one that another list lost: %v", err)
	}
	adds(t, all[1], entry(7))
}

// command of a short tale: an Add of a ref, or a Sweep.
type command struct {
	add  api.Entry
	gone []bool
	is   bool // it is a Sweep
}

// commands of short tales: three refs, two of them of one slot, a mark, and sweeps.
func commands() []command {
	return []command{
		{add: api.Entry{Ref: ref(2, 1), Birth: 1}}, {add: api.Entry{Ref: ref(2, 2), Birth: 2}}, {add: api.Entry{Ref: ref(1, 2), Birth: 3}}, {add: api.Entry{Ref: api.Ref{Slot: 2, Gen: 1, Mark: true}}},
		{is: true, gone: []bool{yes}}, {is: true, gone: []bool{no, yes}}, {is: true, gone: []bool{yes, no, yes}}, {is: true, gone: []bool{yes, yes, yes, yes}},
	}
}

// P13.1 to P13.5: each order of up to six commands that there is.
func TestShortTales(t *testing.T) {
	all := commands()
	for n := range 7 {
		for code := range 1 << (3 * n) {
			r, x := retires.New(), tale{}
			for i := range n {
				follow(t, r, &x, all[code>>(3*i)&7])
			}
			if t.Failed() {
				t.Fatalf("tale %o of %d commands", code, n)
			}
		}
	}
}

// follow a command in a list, and in its tale.
func follow(t *testing.T, r *retires.List, x *tale, c command) {
	t.Helper()
	if !c.is {
		if err, want := r.Add(c.add), x.add(c.add); err != want {
			t.Errorf("Add of %v: %v, want %v", c.add, err, want)
		}
	} else if got, want := r.Sweep(c.gone), x.sweep(c.gone); !slices.Equal(got, want) || cap(got) != len(got) {
		t.Errorf("Sweep(%v): %v, want %v", c.gone, got, want)
	}
	if l := r.All(); !slices.Equal(l, x.has) || r.Len() != len(x.has) || r.Born(2) != x.born(2) {
		t.Errorf("All %v, Len %d, Born(2) %d, want %v", l, r.Len(), r.Born(2), x.has)
	}
}

// P13.5: many adds and sweeps in many orders, by tales told anew: all refs are unlike, and nothing is lost or comes twice.
func TestLongTales(t *testing.T) {
	for seed := range 300 {
		from := numbers(seed)
		slots, top, many := 1+from.below(20), 1+from.below(6), 1+from.below(60)
		r, x := retires.New(), tale{}
		added, swept := 0, 0
		for range 150 {
			if from.below(3) > 0 {
				e := api.Entry{Ref: ref(from.below(slots), uint32(from.below(top))), Birth: uint64(from.below(9)), Epoch: uint64(from.below(1000)), Era: uint64(from.below(1000))}
				err, want := r.Add(e), x.add(e)
				if err != want {
					t.Errorf("seed %d: Add of %v: %v, want %v", seed, e, err, want)
				}
				if err == ok {
					added++
				}
			} else {
				gone := make([]bool, from.below(many))
				for i := range gone {
					gone[i] = from.below(4) == 0
				}
				was := r.All()
				got := r.Sweep(gone)
				answers(t, "Sweep", got, x.sweep(gone))
				together(t, was, got, r.All())
				swept += len(got)
			}
			has(t, "long tale", r, x.has...)
			unlike(t, "long tale", r)
			if r.Len() != added-swept {
				t.Errorf("seed %d: Len is %d behind %d that were added and %d that were swept", seed, r.Len(), added, swept)
			}
			if t.Failed() {
				t.Fatalf("seed %d", seed)
			}
		}
	}
}
