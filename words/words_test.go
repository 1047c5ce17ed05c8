package words

import (
	"math"
	"testing"

	"ragpicker/api"
)

// all bits: a variable, since a constant may not lose bits when it is shifted.
var all = uint64(math.MaxUint64)

const (
	top    = uint64(1) << 63
	minInt = math.MinInt
	maxInt = math.MaxInt
	maxGen = uint32(api.MaxGen)
)

// samples of words: none of them need be one that a call puts together.
func samples() []uint64 {
	l := []uint64{0, 1, 255, 256, 257, 65535, 65536, 65537, 0x5555555555555555, 0xaaaaaaaaaaaaaaaa, 0x0123456789abcdef}
	for i := range 64 {
		bit := uint64(1) << i
		l = append(l, bit, bit-1, ^bit, all<<i)
	}
	x := uint64(88172645463325252)
	for range 2000 { // xorshift: always the same ones
		x ^= x << 13
		x ^= x >> 7
		x ^= x << 17
		l = append(l, x)
	}
	return l
}

// bitsOf a word, from one to another one, told anew, so that the program's own table is held against something.
func bitsOf(w uint64, from, to int) uint64 { return w << (63 - to) >> (63 - to + from) }

func TestBitsOf(t *testing.T) {
	if bitsOf(all, 16, 63) != 1<<48-1 || bitsOf(0x1234, 4, 7) != 3 || bitsOf(top, 63, 63) != 1 || bitsOf(26, 0, 2) != 2 {
		t.Error("the tests' own look at bits is wrong")
	}
}

// P1.1: Ref.
func TestRefWord(t *testing.T) {
	for _, c := range []struct {
		name string
		r    api.Ref
		want uint64
	}{
		{"example", api.Ref{Slot: 2, Gen: 5}, 327683},
		{"example, marked", api.Ref{Slot: 2, Gen: 5, Mark: true}, 9223372036855103491},
		{"none", api.Ref{Slot: -1}, 0},
		{"none, marked", api.Ref{Slot: -1, Mark: true}, top},
		{"none of a generation", api.Ref{Slot: -1, Gen: 9}, 0},
		{"none of a generation, marked", api.Ref{Slot: -1, Gen: 9, Mark: true}, top},
		{"first slot", api.Ref{}, 1},
		{"first slot, marked", api.Ref{Mark: true}, top + 1},
		{"last slot", api.Ref{Slot: 255}, 256},
		{"last slot, last generation", api.Ref{Slot: 255, Gen: maxGen}, 1<<48 - 65536 + 256},
		{"behind the last slot", api.Ref{Slot: 256, Gen: 9}, 0},
		{"behind the last slot, marked", api.Ref{Slot: 256, Gen: 9, Mark: true}, top},
		{"a slot that would go round to one of 16 bits", api.Ref{Slot: 65536, Gen: 9}, 0},
		{"a slot that would go round to one of 32 bits", api.Ref{Slot: 1 << 32, Gen: 9}, 0},
		{"least slot", api.Ref{Slot: minInt, Gen: 9, Mark: true}, top},
		{"greatest slot", api.Ref{Slot: maxInt, Gen: 9}, 0},
	} {
		if got := Ref(c.r); got != c.want {
			t.Errorf("%s: Ref(%+v) = %d, want %d", c.name, c.r, got, c.want)
		}
	}
}

// P1.1: AsRef.
func TestAsRef(t *testing.T) {
	for _, c := range []struct {
		name string
		w    uint64
		want api.Ref
	}{
		{"nought", 0, api.Ref{Slot: -1}},
		{"example", 327683, api.Ref{Slot: 2, Gen: 5}},
		{"example, marked", 9223372036855103491, api.Ref{Slot: 2, Gen: 5, Mark: true}},
		{"example: no slot 256", 257, api.Ref{Slot: -1}},
		{"last slot", 256, api.Ref{Slot: 255}},
		{"no slot 256, of a generation", 257 + 7<<16, api.Ref{Slot: -1}},
		{"no such slot, marked", top + 7<<16 + 65535, api.Ref{Slot: -1, Mark: true}},
		{"none of a generation", 7 << 16, api.Ref{Slot: -1}},
		{"none, marked", top, api.Ref{Slot: -1, Mark: true}},
		{"last generation", 1 + 0xffffffff<<16, api.Ref{Gen: maxGen}},
		{"bits that do not count", 0x7fff<<48 + 3, api.Ref{Slot: 2}},
		{"all bits", all, api.Ref{Slot: -1, Mark: true}},
		{"all bits, of the last slot", all - 65535 + 256, api.Ref{Slot: 255, Gen: maxGen, Mark: true}},
	} {
		if got := AsRef(c.w); got != c.want {
			t.Errorf("%s: AsRef(%#x) = %+v, want %+v", c.name, c.w, got, c.want)
		}
	}
}

// P1.1: Head.
func TestHeadWord(t *testing.T) {
	for _, c := range []struct {
		name string
		slot int
		tag  uint64
		want uint64
	}{
		{"example", 0, 1, 65537},
		{"none", -1, 0, 0},
		{"none of a tag", -1, 5, 5 << 16},
		{"last slot", 255, 3, 3<<16 + 256},
		{"behind the last slot", 256, 3, 3 << 16},
		{"least slot", minInt, 3, 3 << 16},
		{"greatest slot", maxInt, 3, 3 << 16},
		{"a slot that would go round", 65536 + 4, 3, 3 << 16},
		{"greatest tag", 4, 1<<48 - 1, all - 65535 + 5},
		{"tag behind the greatest one", 4, 1 << 48, 5},
		{"tag two behind that", 4, 1<<48 + 2, 2<<16 + 5},
		{"all of a tag", 4, all, all - 65535 + 5},
		{"none, all of a tag", -1, all, all - 65535},
	} {
		if got := Head(c.slot, c.tag); got != c.want {
			t.Errorf("%s: Head(%d, %d) = %#x, want %#x", c.name, c.slot, c.tag, got, c.want)
		}
	}
}

// P1.1: AsHead.
func TestAsHead(t *testing.T) {
	for _, c := range []struct {
		name string
		w    uint64
		slot int
		tag  uint64
	}{
		{"nought", 0, -1, 0},
		{"example", 65537, 0, 1},
		{"last slot", 256, 255, 0},
		{"behind the last slot", 257, -1, 0},
		{"behind the last slot, of a tag", 9<<16 + 257, -1, 9},
		{"no such slot", 9<<16 + 65535, -1, 9},
		{"none of a tag", 9 << 16, -1, 9},
		{"greatest tag", all - 65535 + 1, 0, 1<<48 - 1},
		{"bit 63 is the tag's", top + 1, 0, 1 << 47},
		{"all bits", all, -1, 1<<48 - 1},
	} {
		if slot, tag := AsHead(c.w); slot != c.slot || tag != c.tag {
			t.Errorf("%s: AsHead(%#x) = %d, %d, want %d, %d", c.name, c.w, slot, tag, c.slot, c.tag)
		}
	}
}

// P1.2: Header.
func TestHeaderWord(t *testing.T) {
	for _, c := range []struct {
		s    api.State
		gen  uint32
		want uint64
	}{
		{api.StFree, 0, 0},
		{api.StLive, 0, 1},
		{api.StRetired, 3, 26},
		{api.StParked, 1, 11},
		{api.StGone, 0, 4},
		{api.StGone, maxGen, 0xffffffff<<3 + 4},
		{api.StFree, maxGen, 0xffffffff << 3},
		{api.StGone + 1, 1, 12},
		{7, 1, 12},
		{8, 1, 12}, // its three bits would be StFree
		{9, 1, 12}, // and these StLive
		{255, maxGen, 0xffffffff<<3 + 4},
	} {
		if got := Header(c.s, c.gen); got != c.want {
			t.Errorf("Header(%d, %d) = %d, want %d", c.s, c.gen, got, c.want)
		}
	}
}

// P1.2: AsHeader.
func TestAsHeader(t *testing.T) {
	for _, c := range []struct {
		w   uint64
		s   api.State
		gen uint32
	}{
		{0, api.StFree, 0},
		{1, api.StLive, 0},
		{26, api.StRetired, 3},
		{11, api.StParked, 1},
		{12, api.StGone, 1},
		{13, api.StGone, 1},
		{14, api.StGone, 1},
		{15, api.StGone, 1},
		{0xffffffff << 3, api.StFree, maxGen},
		{1 << 34, api.StFree, 1 << 31},
		{all << 35, api.StFree, 0},
		{all<<35 + 26, api.StRetired, 3},
		{all, api.StGone, maxGen},
	} {
		if s, gen := AsHeader(c.w); s != c.s || gen != c.gen {
			t.Errorf("AsHeader(%#x) = %d, %d, want %d, %d", c.w, s, gen, c.s, c.gen)
		}
	}
}

// P1.3: Phase.
func TestPhaseWord(t *testing.T) {
	for _, c := range []struct {
		p    api.PhaseWord
		want uint64
	}{
		{api.PhaseWord{}, 0},
		{api.PhaseWord{Phase: api.PhDual, Old: api.ScHP, New: api.ScIBR, Number: 7}, 459026},
		{api.PhaseWord{Phase: api.PhAnnounce}, 1},
		{api.PhaseWord{Phase: api.PhDrain}, 3},
		{api.PhaseWord{Phase: api.PhDrain + 1}, 0},
		{api.PhaseWord{Phase: 7}, 0},
		{api.PhaseWord{Phase: 9}, 0},   // its three bits would be PhAnnounce
		{api.PhaseWord{Phase: 255}, 0}, // and these none that there is
		{api.PhaseWord{Phase: 4, Old: 1, New: 2, Number: 3}, 3<<16 + 2<<6 + 1<<3},
		{api.PhaseWord{Old: 7}, 7 << 3},
		{api.PhaseWord{Old: 8}, 0},
		{api.PhaseWord{Old: 9}, 1 << 3},
		{api.PhaseWord{New: 7}, 7 << 6},
		{api.PhaseWord{New: 8}, 0},
		{api.PhaseWord{New: 15}, 7 << 6},
		{api.PhaseWord{Old: 255, New: 255}, 63 << 3},
		{api.PhaseWord{Number: 1<<48 - 1}, all - 65535},
		{api.PhaseWord{Number: 1 << 48}, 0},
		{api.PhaseWord{Number: 1<<48 + 5}, 5 << 16},
		{api.PhaseWord{Phase: 255, Old: 255, New: 255, Number: all}, all - 65535 + 63<<3},
	} {
		if got := Phase(c.p); got != c.want {
			t.Errorf("Phase(%+v) = %#x, want %#x", c.p, got, c.want)
		}
	}
}

// P1.3: AsPhase.
func TestAsPhase(t *testing.T) {
	for _, c := range []struct {
		w    uint64
		want api.PhaseWord
	}{
		{0, api.PhaseWord{}},
		{459026, api.PhaseWord{Phase: api.PhDual, Old: api.ScHP, New: api.ScIBR, Number: 7}},
		{1, api.PhaseWord{Phase: api.PhAnnounce}},
		{3, api.PhaseWord{Phase: api.PhDrain}},
		{4, api.PhaseWord{}},
		{5, api.PhaseWord{}},
		{6, api.PhaseWord{}},
		{7, api.PhaseWord{}},
		{7 << 3, api.PhaseWord{Old: 7}},
		{7 << 6, api.PhaseWord{New: 7}},
		{0x7f << 9, api.PhaseWord{}},
		{0x7f<<9 + 459026, api.PhaseWord{Phase: api.PhDual, Old: api.ScHP, New: api.ScIBR, Number: 7}},
		{1 << 16, api.PhaseWord{Number: 1}},
		{top, api.PhaseWord{Number: 1 << 47}},
		{all, api.PhaseWord{Old: 7, New: 7, Number: 1<<48 - 1}},
	} {
		if got := AsPhase(c.w); got != c.want {
			t.Errorf("AsPhase(%#x) = %+v, want %+v", c.w, got, c.want)
		}
	}
}

// P1.4: Block, AsBlock.
func TestBlock(t *testing.T) {
	for _, c := range []struct {
		joined uint32
		closed bool
		want   uint64
	}{
		{0, false, 0},
		{0, true, 1 << 32},
		{3, true, 4294967299},
		{3, false, 3},
		{math.MaxUint32, false, 1<<32 - 1},
		{math.MaxUint32, true, 1<<33 - 1},
	} {
		if got := Block(c.joined, c.closed); got != c.want {
			t.Errorf("Block(%d, %v) = %d, want %d", c.joined, c.closed, got, c.want)
		}
		for _, rest := range []uint64{0, 1 << 33, top, all << 33} {
			if joined, closed := AsBlock(c.want | rest); joined != c.joined || closed != c.closed {
				t.Errorf("AsBlock(%#x) = %d, %v, want %d, %v", c.want|rest, joined, closed, c.joined, c.closed)
			}
		}
	}
}

// P1.5: Mark, Unmark, Marked.
func TestMark(t *testing.T) {
	for _, c := range []struct {
		w, marked, unmarked uint64
		is                  bool
	}{
		{0, top, 0, false},
		{5, top + 5, 5, false},
		{top, top, 0, true},
		{top + 5, top + 5, 5, true},
		{top - 1, all, top - 1, false},
		{all, all, top - 1, true},
		{1 << 62, top + 1<<62, 1 << 62, false},
	} {
		if m, u, is := Mark(c.w), Unmark(c.w), Marked(c.w); m != c.marked || u != c.unmarked || is != c.is {
			t.Errorf("of %#x: Mark %#x, Unmark %#x, Marked %v", c.w, m, u, is)
		}
	}
	for _, w := range samples() {
		if Mark(w) != w|top || Unmark(w) != w&(top-1) || Marked(w) != (w >= top) {
			t.Errorf("of %#x: Mark %#x, Unmark %#x, Marked %v", w, Mark(w), Unmark(w), Marked(w))
		}
	}
}

// P1.5: a ref's mark is the word's.
func TestMarkOfRef(t *testing.T) {
	for slot := -1; slot < api.MaxSlots; slot++ {
		r, marked := api.Ref{Slot: slot}, api.Ref{Slot: slot, Mark: true}
		if Mark(Ref(r)) != Ref(marked) || Unmark(Ref(marked)) != Ref(r) || Marked(Ref(r)) || !Marked(Ref(marked)) {
			t.Errorf("slot %d: mark of the ref is not the word's", slot)
		}
	}
}

// P1.1 to P1.4: of whatever word, each field is by the table.
func TestTable(t *testing.T) {
	for _, w := range samples() {
		slot, gen := int(bitsOf(w, 0, 15))-1, uint32(bitsOf(w, 16, 47))
		if slot >= api.MaxSlots {
			slot = -1
		}
		if slot == -1 {
			gen = 0
		}
		if got, want := AsRef(w), (api.Ref{Slot: slot, Gen: gen, Mark: bitsOf(w, 63, 63) == 1}); got != want {
			t.Errorf("AsRef(%#x) = %+v, want %+v", w, got, want)
		}
		if s, tag := AsHead(w); s != slot || tag != bitsOf(w, 16, 63) {
			t.Errorf("AsHead(%#x) = %d, %d", w, s, tag)
		}
		if s, g := AsHeader(w); s != min(api.State(bitsOf(w, 0, 2)), api.StGone) || g != uint32(bitsOf(w, 3, 34)) {
			t.Errorf("AsHeader(%#x) = %d, %d", w, s, g)
		}
		p := api.PhaseWord{Phase: api.Phase(bitsOf(w, 0, 2)), Old: api.Scheme(bitsOf(w, 3, 5)), New: api.Scheme(bitsOf(w, 6, 8)), Number: bitsOf(w, 16, 63)}
		if p.Phase > api.PhDrain {
			p.Phase = api.PhStable
		}
		if got := AsPhase(w); got != p {
			t.Errorf("AsPhase(%#x) = %+v, want %+v", w, got, p)
		}
		if joined, closed := AsBlock(w); uint64(joined) != bitsOf(w, 0, 31) || closed != (bitsOf(w, 32, 32) == 1) {
			t.Errorf("AsBlock(%#x) = %d, %v", w, joined, closed)
		}
	}
}

var (
	gens    = []uint32{0, 1, 2, 255, 256, 65535, 65536, 1 << 31, maxGen - 1, maxGen}
	numbers = []uint64{0, 1, 2, 65535, 65536, 1 << 32, 1 << 47, 1<<48 - 2, 1<<48 - 1}
)

// P1.6: what may be comes back as it was, and refs that are unlike have unlike words.
func TestRefBack(t *testing.T) {
	seen := map[uint64]api.Ref{}
	hold := func(r api.Ref) {
		w := Ref(r)
		if got := AsRef(w); got != r {
			t.Errorf("AsRef(Ref(%+v)) = %+v", r, got)
		}
		if other, ok := seen[w]; ok {
			t.Errorf("%+v and %+v have one word", other, r)
		}
		seen[w] = r
	}
	for _, mark := range []bool{false, true} {
		hold(api.Ref{Slot: -1, Mark: mark})
		for slot := range api.MaxSlots {
			for _, gen := range gens {
				hold(api.Ref{Slot: slot, Gen: gen, Mark: mark})
			}
		}
	}
}

// P1.6: likewise heads.
func TestHeadBack(t *testing.T) {
	type head struct {
		slot int
		tag  uint64
	}
	seen := map[uint64]head{}
	for slot := -1; slot < api.MaxSlots; slot++ {
		for _, tag := range numbers {
			w := Head(slot, tag)
			if s, g := AsHead(w); s != slot || g != tag {
				t.Errorf("AsHead(Head(%d, %d)) = %d, %d", slot, tag, s, g)
			}
			if other, ok := seen[w]; ok {
				t.Errorf("%v and %v have one word", other, head{slot, tag})
			}
			seen[w] = head{slot, tag}
		}
	}
}

// P1.6: likewise headers, phases and blocks.
func TestOthersBack(t *testing.T) {
	for s := api.StFree; s <= api.StGone; s++ {
		for _, gen := range gens {
			if a, b := AsHeader(Header(s, gen)); a != s || b != gen {
				t.Errorf("AsHeader(Header(%d, %d)) = %d, %d", s, gen, a, b)
			}
		}
	}
	for p := api.PhStable; p <= api.PhDrain; p++ {
		for schemes := range 64 {
			for _, n := range numbers {
				want := api.PhaseWord{Phase: p, Old: api.Scheme(schemes & 7), New: api.Scheme(schemes >> 3), Number: n}
				if got := AsPhase(Phase(want)); got != want {
					t.Errorf("AsPhase(Phase(%+v)) = %+v", want, got)
				}
			}
		}
	}
	for _, joined := range gens {
		for _, closed := range []bool{false, true} {
			if a, b := AsBlock(Block(joined, closed)); a != joined || b != closed {
				t.Errorf("AsBlock(Block(%d, %v)) = %d, %v", joined, closed, a, b)
			}
		}
	}
}

// P1.6: what is taken apart, and put together again, is taken apart likewise; bits that are no field's are 0 then.
func TestTakenApartTwice(t *testing.T) {
	for _, w := range samples() {
		r := AsRef(w)
		if again := Ref(r); AsRef(again) != r || again&(0x7fff<<48) != 0 {
			t.Errorf("ref of %#x: %+v, then %#x", w, r, again)
		}
		slot, tag := AsHead(w)
		if s, g := AsHead(Head(slot, tag)); s != slot || g != tag {
			t.Errorf("head of %#x: %d, %d, then %d, %d", w, slot, tag, s, g)
		}
		state, gen := AsHeader(w)
		again := Header(state, gen)
		if s, g := AsHeader(again); s != state || g != gen || again>>35 != 0 {
			t.Errorf("header of %#x: %d, %d, then %#x", w, state, gen, again)
		}
		p := AsPhase(w)
		if again := Phase(p); AsPhase(again) != p || again&(0x7f<<9) != 0 {
			t.Errorf("phase of %#x: %+v, then %#x", w, p, again)
		}
		joined, closed := AsBlock(w)
		again = Block(joined, closed)
		if j, c := AsBlock(again); j != joined || c != closed || again>>33 != 0 {
			t.Errorf("block of %#x: %d, %v, then %#x", w, joined, closed, again)
		}
	}
}
