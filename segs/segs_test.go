package segs

import (
	"math"
	"slices"
	"testing"

	"ragpicker/api"
	"ragpicker/words"
)

const (
	free    = api.StFree
	live    = api.StLive
	retired = api.StRetired
	parked  = api.StParked
	gone    = api.StGone

	none   = api.SegNone
	mapped = api.SegMapped
	drains = api.SegDrains

	minInt  = math.MinInt
	maxInt  = math.MaxInt
	maxWord = uint64(math.MaxUint64)
)

// h: the word of a header, told anew: the state in bits 0 to 2, the generation behind it. A state behind StGone, or a
// generation of more than 32 bits, makes a word that Header puts not together.
func h(s api.State, gen uint64) uint64 { return gen<<3 | uint64(s) }

// wrong numbers of what there is so many of: such as are below 0, or behind the last one.
func wrong(many int) []int {
	return []int{minInt, minInt + 1, -1 << 32, -many - 1, -many, -many + 1, -9, -8, -7, -2, -1, many, many + 1, many + 7, many + 8, 2 * many, 1 << 16, 1 << 31, 1 << 32, 1<<32 + 1, maxInt - 8, maxInt - 1, maxInt}
}

// numbers of whatever: below 0, those that there may be, above all limits.
func numbers() []int {
	l := append(wrong(api.MaxSlots), wrong(api.MaxSegs)...)
	for n := range api.MaxSlots {
		l = append(l, n)
	}
	slices.Sort(l)
	return slices.Compact(l)
}

// states of a segment, and what is none.
func states() []uint64 {
	return []uint64{none, mapped, drains, 3, 4, 5, 7, 8, 9, 255, 256, 257, 258, 1 << 32, 1<<32 + 1, 1<<32 + 2, 1 << 63, 1<<63 + 1, 1<<63 + 2, maxWord - 1, maxWord}
}

// asides: how many slots are put aside, too many of them too.
func asides() []uint64 {
	return []uint64{0, 1, 2, 3, 4, 5, 6, 7, 8, 9, 10, 15, 16, 17, 255, 256, 257, 264, 1 << 32, 1<<32 + 7, 1<<32 + 8, 1 << 63, 1<<63 + 7, 1<<63 + 8, maxWord - 8, maxWord - 7, maxWord - 1, maxWord}
}

// mayTold: May, told anew.
func mayTold(state, aside uint64) bool {
	return state == 0 && aside == 8 || (state == 1 || state == 2) && aside < 9
}

// turnsTold: Turns, told anew.
func turnsTold(state, aside, to uint64) bool {
	switch {
	case aside == 8 && state == 0:
		return to == 1
	case aside < 9 && state == 1:
		return to == 2
	case aside == 8 && state == 2:
		return to < 2
	case aside < 8 && state == 2:
		return to == 1
	}
	return false
}

// countTold: Count, told anew.
func countTold(l []uint64) Counts {
	var by [8]int
	for _, w := range l {
		by[w%8]++
	}
	return Counts{Free: by[0], Live: by[1], Retired: by[2], Parked: by[3], Gone: by[4] + by[5] + by[6] + by[7]}
}

// sum of all counts.
func sum(c Counts) int { return c.Free + c.Live + c.Retired + c.Parked + c.Gone }

// samples of words that are, or are not, such as Header puts together; the same ones each time.
func samples(many int) []uint64 {
	l := make([]uint64, many)
	x := uint64(88172645463325252)
	for i := range l {
		x ^= x << 13
		x ^= x >> 7
		x ^= x << 17
		l[i] = x
		if i%2 == 0 {
			l[i] = h(api.State(x>>40%5), x>>50)
		}
	}
	return l
}

// P6.1, P6.3, P6.4: chapter 6's examples.
func TestExamples(t *testing.T) {
	if got := Of(17); got != 2 {
		t.Errorf("Of(17) is %d", got)
	}
	if from, to := Slots(2); from != 16 || to != 24 {
		t.Errorf("Slots(2) are %d, %d", from, to)
	}
	if !Turns(drains, 8, none) || Turns(drains, 7, none) {
		t.Errorf("Turns from SegDrains to SegNone is %v with 8, %v with 7", Turns(drains, 8, none), Turns(drains, 7, none))
	}
	if May(none, 7) {
		t.Error("May(SegNone, 7)")
	}
	c := Count([]uint64{words.Header(free, 2), words.Header(gone, 9), words.Header(live, 0)})
	if want := (Counts{Free: 1, Live: 1, Gone: 1}); c != want {
		t.Errorf("Count is %+v, want %+v", c, want)
	}
	if got := Aside(c); got != 1 {
		t.Errorf("Aside is %d", got)
	}
}

// P6.1: Of, by hand.
func TestOfByHand(t *testing.T) {
	for _, c := range []struct{ slot, want int }{
		{0, 0},
		{1, 0},
		{7, 0},
		{8, 1},
		{15, 1},
		{16, 2},
		{23, 2},
		{24, 3},
		{127, 15},
		{128, 16},
		{247, 30},
		{248, 31},
		{api.MaxSlots - 1, 31},
		{api.MaxSlots, -1},
		{api.MaxSlots + 1, -1},
		{-1, -1},
		{-7, -1},
		{-8, -1},
		{-9, -1},
		{minInt, -1},
		{maxInt, -1},
	} {
		if got := Of(c.slot); got != c.want {
			t.Errorf("Of(%d) is %d, want %d", c.slot, got, c.want)
		}
	}
}

// P6.1: Of, of each slot, and of what is none.
func TestOfAll(t *testing.T) {
	slot := 0
	for seg := range 32 {
		for range 8 {
			if got := Of(slot); got != seg {
				t.Errorf("Of(%d) is %d, want %d", slot, got, seg)
			}
			slot++
		}
	}
	for _, slot := range wrong(api.MaxSlots) {
		if got := Of(slot); got != -1 {
			t.Errorf("Of(%d) is %d, want -1", slot, got)
		}
	}
}

// P6.1: Slots, by hand.
func TestSlotsByHand(t *testing.T) {
	for _, c := range []struct{ seg, from, to int }{
		{0, 0, 8},
		{1, 8, 16},
		{2, 16, 24},
		{15, 120, 128},
		{16, 128, 136},
		{30, 240, 248},
		{api.MaxSegs - 1, 248, api.MaxSlots},
		{api.MaxSegs, 0, 0},
		{api.MaxSegs + 1, 0, 0},
		{-1, 0, 0},
		{-2, 0, 0},
		{minInt, 0, 0},
		{minInt + 1, 0, 0},
		{maxInt, 0, 0},
		{1 << 61, 0, 0},   // its slots would go round to those of segment 0
		{1<<61 + 2, 0, 0}, // and these to those of segment 2
	} {
		if from, to := Slots(c.seg); from != c.from || to != c.to {
			t.Errorf("Slots(%d) are %d, %d, want %d, %d", c.seg, from, to, c.from, c.to)
		}
	}
}

// P6.1: Slots, of each segment, and of what is none.
func TestSlotsAll(t *testing.T) {
	ahead := 0
	for seg := range 32 {
		from, to := Slots(seg)
		if from != ahead || to != ahead+8 {
			t.Errorf("Slots(%d) are %d, %d, want %d, %d", seg, from, to, ahead, ahead+8)
		}
		ahead += 8
	}
	for _, seg := range wrong(api.MaxSegs) {
		if from, to := Slots(seg); from != 0 || to != 0 {
			t.Errorf("Slots(%d) are %d, %d, want 0, 0", seg, from, to)
		}
	}
}

// P6.2: Word and Slot, of fields that may be, and of such as may not, of whatever number.
func TestAddresses(t *testing.T) {
	fields := []int{api.SgState, api.SgParked, 2, api.SlHeader, api.SlBirth, api.SlLink, api.SlEpoch, api.SlEra, api.SlKey, api.SlValue, api.SlNext, api.SlNext + 1, 100, 256, -1, -2, minInt, maxInt}
	for _, n := range numbers() {
		for _, field := range fields {
			if got, want := Word(n, field), (api.Addr{Kind: 6, At: n, Field: field}); got != want {
				t.Errorf("Word(%d, %d) is %+v, want %+v", n, field, got, want)
			}
			if got, want := Slot(n, field), (api.Addr{Kind: 9, At: n, Field: field}); got != want {
				t.Errorf("Slot(%d, %d) is %+v, want %+v", n, field, got, want)
			}
		}
	}
}

// P6.3: May, by hand.
func TestMayByHand(t *testing.T) {
	for _, c := range []struct {
		name         string
		state, aside uint64
		want         bool
	}{
		{"none, nothing put aside", none, 0, false},
		{"none, one put aside", none, 1, false},
		{"none, all but one", none, 7, false},
		{"none, all", none, api.SegSlots, true},
		{"none, one too many", none, 9, false},
		{"none, far too many", none, maxWord, false},
		{"mapped, nothing put aside", mapped, 0, true},
		{"mapped, one", mapped, 1, true},
		{"mapped, all but one", mapped, 7, true},
		{"mapped, all", mapped, api.SegSlots, true},
		{"mapped, one too many", mapped, 9, false},
		{"mapped, far too many", mapped, maxWord, false},
		{"drains, nothing put aside", drains, 0, true},
		{"drains, one", drains, 1, true},
		{"drains, all but one", drains, 7, true},
		{"drains, all", drains, api.SegSlots, true},
		{"drains, one too many", drains, 9, false},
		{"drains, far too many", drains, maxWord, false},
		{"no state, nothing put aside", 3, 0, false},
		{"no state, all but one", 3, 7, false},
		{"no state, all", 3, api.SegSlots, false},
		{"no state, one too many", 3, 9, false},
		{"no state, far too many", 3, maxWord, false},
		{"the greatest, nothing put aside", maxWord, 0, false},
		{"the greatest, all but one", maxWord, 7, false},
		{"the greatest, all", maxWord, api.SegSlots, false},
		{"the greatest, one too many", maxWord, 9, false},
		{"the greatest, far too many", maxWord, maxWord, false},
		{"no state, the least bits of mapped", 257, 8, false},
		{"no state, the least bits of none", 1 << 32, 8, false},
		{"mapped, too many, with the least bits of none", mapped, 1 << 32, false},
		{"drains, too many, the first bit of all", drains, 1 << 63, false},
	} {
		if got := May(c.state, c.aside); got != c.want {
			t.Errorf("%s: May(%d, %d) is %v", c.name, c.state, c.aside, got)
		}
	}
}

// P6.3: May, of all states with all numbers.
func TestMayAll(t *testing.T) {
	for _, state := range states() {
		for _, aside := range asides() {
			if got, want := May(state, aside), mayTold(state, aside); got != want {
				t.Errorf("May(%d, %d) is %v, want %v", state, aside, got, want)
			}
		}
	}
}

// P6.3: Turns, by hand: from each state to each state, and from and to what is none.
func TestTurnsByHand(t *testing.T) {
	const odd = 3 // no state
	for _, c := range []struct {
		state, to uint64
		want      [5]bool // with none put aside, with all but one, with all, with one too many, with far too many
	}{
		{none, none, [5]bool{}},
		{none, mapped, [5]bool{false, false, true, false, false}},
		{none, drains, [5]bool{}},
		{none, odd, [5]bool{}},
		{none, maxWord, [5]bool{}},
		{mapped, none, [5]bool{}},
		{mapped, mapped, [5]bool{}},
		{mapped, drains, [5]bool{true, true, true, false, false}},
		{mapped, odd, [5]bool{}},
		{mapped, maxWord, [5]bool{}},
		{drains, none, [5]bool{false, false, true, false, false}},
		{drains, mapped, [5]bool{true, true, true, false, false}},
		{drains, drains, [5]bool{}},
		{drains, odd, [5]bool{}},
		{drains, maxWord, [5]bool{}},
		{odd, none, [5]bool{}},
		{odd, mapped, [5]bool{}},
		{odd, drains, [5]bool{}},
		{odd, odd, [5]bool{}},
		{odd, maxWord, [5]bool{}},
		{maxWord, none, [5]bool{}},
		{maxWord, mapped, [5]bool{}},
		{maxWord, drains, [5]bool{}},
		{maxWord, odd, [5]bool{}},
		{maxWord, maxWord, [5]bool{}},
	} {
		for i, aside := range []uint64{0, api.SegSlots - 1, api.SegSlots, api.SegSlots + 1, maxWord} {
			if got := Turns(c.state, aside, c.to); got != c.want[i] {
				t.Errorf("Turns(%d, %d, %d) is %v", c.state, aside, c.to, got)
			}
		}
	}
}

// P6.3: Turns, from all to all, with all numbers; the words ahead may be, and those behind.
func TestTurnsAll(t *testing.T) {
	for _, state := range states() {
		for _, to := range states() {
			for _, aside := range asides() {
				got := Turns(state, aside, to)
				if want := turnsTold(state, aside, to); got != want {
					t.Errorf("Turns(%d, %d, %d) is %v, want %v", state, aside, to, got, want)
				}
				if got && (!May(state, aside) || !May(to, aside)) {
					t.Errorf("Turns(%d, %d, %d), with words that may not be", state, aside, to)
				}
			}
		}
	}
}

// P6.4: Count, by hand.
func TestCountByHand(t *testing.T) {
	const (
		most   = api.MaxGen
		behind = maxWord &^ (1<<35 - 1) // all bits that no header has
	)
	for _, c := range []struct {
		name string
		l    []uint64
		want Counts
	}{
		{"nil", nil, Counts{}},
		{"empty", []uint64{}, Counts{}},
		{"the word 0", []uint64{0}, Counts{Free: 1}},
		{"free", []uint64{h(free, 5)}, Counts{Free: 1}},
		{"live", []uint64{h(live, 5)}, Counts{Live: 1}},
		{"retired", []uint64{h(retired, 5)}, Counts{Retired: 1}},
		{"parked", []uint64{h(parked, 5)}, Counts{Parked: 1}},
		{"gone", []uint64{h(gone, 5)}, Counts{Gone: 1}},
		{"of the last generation", []uint64{h(free, most), h(live, most), h(retired, most), h(parked, most), h(gone, most)}, Counts{1, 1, 1, 1, 1}},
		{"one of each", []uint64{h(gone, 0), h(parked, 1), h(retired, 2), h(live, 3), h(free, 4)}, Counts{1, 1, 1, 1, 1}},
		{"more and more of each", []uint64{0, 1, 1, 2, 2, 2, 3, 3, 3, 3, 4, 4, 4, 4, 4}, Counts{1, 2, 3, 4, 5}},
		{"of no state", []uint64{h(5, 0), h(6, 1), h(7, most)}, Counts{Gone: 3}},
		{"of no state, and gone", []uint64{h(5, 2), h(gone, 2)}, Counts{Gone: 2}},
		{"all bits", []uint64{maxWord}, Counts{Gone: 1}},
		{"with a bit that no header has", []uint64{1<<35 | h(free, 1), 1<<40 | h(live, 1), 1<<50 | h(retired, 1), 1<<62 | h(parked, 1), 1<<63 | h(gone, 1)}, Counts{1, 1, 1, 1, 1}},
		{"with all bits that no header has", []uint64{behind | h(live, 2), behind}, Counts{Free: 1, Live: 1}},
		{"of no state, with a bit that no header has", []uint64{1<<35 | 5, 1<<63 | 6}, Counts{Gone: 2}},
		{"two generations of a state", []uint64{h(parked, 0), h(parked, 9)}, Counts{Parked: 2}},
	} {
		if got := Count(c.l); got != c.want {
			t.Errorf("%s: Count(%v) is %+v, want %+v", c.name, c.l, got, c.want)
		}
	}
}

// P6.4: Count, of the same header many times.
func TestCountMany(t *testing.T) {
	for w := range uint64(16) {
		for _, many := range []int{1, 2, 7, 8, 9, 255, 256, 257, 65536, 70000} {
			l := slices.Repeat([]uint64{w}, many)
			want := [8]Counts{{Free: many}, {Live: many}, {Retired: many}, {Parked: many}, {Gone: many}, {Gone: many}, {Gone: many}, {Gone: many}}
			if got := Count(l); got != want[w%8] {
				t.Errorf("Count of %d times %d is %+v", many, w, got)
			}
		}
	}
}

// P6.4: Count, of many words, whatever they are: as AsHeader reads them, each once, in whatever order.
func TestCountAll(t *testing.T) {
	for many := range 300 {
		l := samples(many)
		got := Count(l)
		if want := countTold(l); got != want {
			t.Errorf("Count of %d words is %+v, want %+v", many, got, want)
		}
		var by [5]int
		for _, w := range l {
			s, _ := words.AsHeader(w)
			by[s]++
		}
		if want := (Counts{by[free], by[live], by[retired], by[parked], by[gone]}); got != want {
			t.Errorf("Count of %d words is %+v, by AsHeader %+v", many, got, want)
		}
		if sum(got) != many {
			t.Errorf("Count of %d words has %d", many, sum(got))
		}
		slices.Reverse(l)
		if back := Count(l); back != got {
			t.Errorf("Count of %d words is %+v, from behind %+v", many, got, back)
		}
	}
}

// P6.4: Aside, of counts of which each one in turn is other than 0, and of some of several.
func TestAside(t *testing.T) {
	for _, n := range []int{1, 7, 8, 256, maxInt, -1, minInt} {
		for _, c := range []struct {
			c    Counts
			want int
		}{
			{Counts{Free: n}, 0},
			{Counts{Live: n}, 0},
			{Counts{Retired: n}, 0},
			{Counts{Parked: n}, n},
			{Counts{Gone: n}, n},
			{Counts{n, n, n, 0, 0}, 0},
			{Counts{n, n, n, 2, 0}, 2},
			{Counts{n, n, n, 0, 3}, 3},
		} {
			if got := Aside(c.c); got != c.want {
				t.Errorf("Aside(%+v) is %d, want %d", c.c, got, c.want)
			}
		}
	}
	if got := Aside(Counts{}); got != 0 {
		t.Errorf("Aside of nothing is %d", got)
	}
	if got := Aside(Counts{1, 2, 4, 8, 16}); got != 24 {
		t.Errorf("Aside of 8 parked and 16 gone is %d", got)
	}
	if got := Aside(Counts{1, 1, 1, 3, 3}); got != 6 {
		t.Errorf("Aside of 3 parked and 3 gone is %d", got)
	}
}

// R5: Aside goes round.
func TestAsideRound(t *testing.T) {
	if got := Aside(Counts{Parked: maxInt, Gone: 1}); got != minInt {
		t.Errorf("one more than the greatest number is %d", got)
	}
	if got := Aside(Counts{Parked: minInt, Gone: -1}); got != maxInt {
		t.Errorf("one less than the least number is %d", got)
	}
}

// P6.5: each slot is one of its segment's, and of no other one's.
func TestSlotOfItsSegment(t *testing.T) {
	for slot := range api.MaxSlots {
		for seg := range api.MaxSegs {
			from, to := Slots(seg)
			if within := slot >= from && slot < to; within != (Of(slot) == seg) {
				t.Errorf("slot %d is of segment %d, whose slots are %d to %d: %v", slot, Of(slot), from, to, within)
			}
		}
	}
}

// P6.5: segments' slots are all slots, one behind the other, as many of each.
func TestSlotsAreAll(t *testing.T) {
	behind := 0
	for seg := range api.MaxSegs {
		from, to := Slots(seg)
		if from != behind || to-from != api.SegSlots {
			t.Errorf("Slots(%d) are %d, %d, behind %d", seg, from, to, behind)
		}
		for slot := from; slot < to; slot++ {
			if Of(slot) != seg {
				t.Errorf("Of(%d), a slot of segment %d, is %d", slot, seg, Of(slot))
			}
		}
		behind = to
	}
	if behind != api.MaxSlots {
		t.Errorf("segments' slots end at %d", behind)
	}
	if Of(behind-1) != api.MaxSegs-1 || Of(behind) != -1 {
		t.Errorf("the last slot is of segment %d, that behind it of %d", Of(behind-1), Of(behind))
	}
}

// P6.5: no two slots, or segments, have one word, nor have two fields of one of them.
func TestWordsOfTheirOwn(t *testing.T) {
	type word struct {
		slot      bool
		at, field int
	}
	seen := map[api.Addr]word{}
	hold := func(a api.Addr, w word) {
		if other, ok := seen[a]; ok {
			t.Errorf("%+v and %+v have the word %+v", other, w, a)
		}
		seen[a] = w
	}
	for _, n := range numbers() {
		for field := -2; field < 12; field++ {
			hold(Word(n, field), word{false, n, field})
			hold(Slot(n, field), word{true, n, field})
		}
	}
	if want := len(numbers()) * 14 * 2; len(seen) != want {
		t.Errorf("there are %d words, not %d", len(seen), want)
	}
}

// P6.5: whatever its slots' headers are, a segment turns to SegNone just when all of them are put aside; it drains then.
func TestNoneWhenAllAside(t *testing.T) {
	l := make([]uint64, api.SegSlots)
	for n := range 5 * 5 * 5 * 5 * 5 * 5 * 5 * 5 {
		left, all := n, true
		for i := range l {
			s := api.State(left % 5)
			l[i], left = h(s, uint64(n)), left/5
			all = all && (s == parked || s == gone)
		}
		aside := uint64(Aside(Count(l)))
		if (aside == api.SegSlots) != all {
			t.Errorf("of %v %d are put aside", l, aside)
		}
		for _, state := range []uint64{none, mapped, drains, 3} {
			if want := all && state == drains; Turns(state, aside, none) != want {
				t.Errorf("of %v, from %d, Turns to SegNone is %v", l, state, !want)
			}
		}
	}
}

// P6.5: by turns, from SegNone on, all states are come to, and each one of them leads on.
func TestTurnsLeadRound(t *testing.T) {
	for _, c := range []struct {
		aside uint64
		from  uint64
		want  []uint64 // the states that are come to, in the order in which they are come to first
	}{
		{8, none, []uint64{mapped, drains, none}},
		{8, mapped, []uint64{drains, none, mapped}},
		{8, drains, []uint64{none, mapped, drains}},
		{7, none, nil},
		{7, mapped, []uint64{drains, mapped}},
		{7, drains, []uint64{mapped, drains}},
		{0, mapped, []uint64{drains, mapped}},
		{9, none, nil},
		{9, mapped, nil},
		{9, drains, nil},
	} {
		var got []uint64
		for todo := []uint64{c.from}; len(todo) > 0; todo = todo[1:] {
			for _, to := range states() {
				if Turns(todo[0], c.aside, to) && !slices.Contains(got, to) {
					got, todo = append(got, to), append(todo, to)
				}
			}
		}
		if !slices.Equal(got, c.want) {
			t.Errorf("from %d, with %d put aside, turns lead to %v, want %v", c.from, c.aside, got, c.want)
		}
	}
}

// R1: the list that is handed in stays, what lies behind it too, and what lies there is not counted.
func TestHandedInStays(t *testing.T) {
	for many := range 60 {
		room := append(samples(many), h(live, 1), h(gone, 2), maxWord)
		was := slices.Clone(room)
		if got, want := Count(room[:many]), countTold(room[:many]); got != want {
			t.Errorf("Count of %d words, with room behind, is %+v, want %+v", many, got, want)
		}
		if !slices.Equal(room, was) {
			t.Errorf("%v became %v", was, room)
		}
	}
}

// R1: nothing is kept from call to call: a list that became another one is answered as that one is, each time.
func TestNothingIsKept(t *testing.T) {
	l := samples(9)
	for i := range 200 {
		l[i%9] = uint64(i * 7)
		for range 2 {
			if got, want := Count(l), countTold(l); got != want {
				t.Errorf("Count(%v) is %+v, want %+v", l, got, want)
			}
		}
	}
}

// R1: Counts are a value: one that was answered is not changed by the next call, nor the next one by a change of it.
func TestCountsAreOwn(t *testing.T) {
	one := Count([]uint64{h(live, 1), h(parked, 1)})
	two := Count([]uint64{h(gone, 1)})
	if want := (Counts{Live: 1, Parked: 1}); one != want {
		t.Errorf("the first counts became %+v", one)
	}
	two.Gone, two.Free = 9, 9
	if got, want := Count([]uint64{h(gone, 1)}), (Counts{Gone: 1}); got != want {
		t.Errorf("Count, once an answer was changed, is %+v", got)
	}
}
