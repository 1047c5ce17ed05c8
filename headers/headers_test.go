package headers

import (
	"math"
	"slices"
	"testing"

	"ragpicker/api"
	"ragpicker/words"
)

const (
	free    = api.StFree
	live    = api.StLive
	retired = api.StRetired
	parked  = api.StParked
	gone    = api.StGone
	maxGen  = uint32(api.MaxGen)
	maxWord = uint64(math.MaxUint64)
)

// h: the word of a header, told anew: the state in bits 0 to 2, the generation in bits 3 to 34. A state behind StGone, or a
// generation that has no room, makes a word that Header puts not together.
func h(s api.State, gen uint64) uint64 { return gen<<3 | uint64(s) }

// apart: a word's state, and all that stands behind it.
func apart(w uint64) (api.State, uint64) { return api.State(w & 7), w >> 3 }

// mosts are last generations: the least ones, some amid, where bits begin, the greatest ones.
func mosts() []uint32 {
	return []uint32{0, 1, 2, 3, 4, 255, 256, 65535, 1 << 31, maxGen - 1, maxGen}
}

// samples of words, round the last generation, round 0 and round the greatest number; those that Header puts not together too.
func samples(most uint32) []uint64 {
	var l []uint64
	last := uint64(most)
	for _, gen := range []uint64{0, 1, 2, 3, last - 2, last - 1, last, last + 1, last + 2, 1<<31 - 1, 1 << 31, 1<<32 - 2, 1<<32 - 1, 1 << 32, 1<<32 + 1, last + 1<<32, 1<<61 - 1} {
		for s := range api.State(8) {
			l = append(l, h(s, gen))
		}
	}
	for bit := 35; bit < 64; bit++ {
		l = append(l, 1<<bit|h(live, last))
	}
	slices.Sort(l)
	return slices.Compact(append(l, maxWord))
}

// mayTold: May, told anew.
func mayTold(w uint64, most uint32) bool {
	s, gen := apart(w)
	switch s {
	case free, live, retired, parked:
		return gen <= uint64(most)
	case gone:
		return gen == uint64(most)
	}
	return false
}

// ofTold: Of, told anew.
func ofTold(from, to uint64, most uint32) Change {
	if !mayTold(from, most) || !mayTold(to, most) {
		return ChNone
	}
	type ends struct{ from, to api.State }
	a, old := apart(from)
	b, gen := apart(to)
	switch e := (ends{a, b}); {
	case gen == old && e == ends{free, live}:
		return ChAlloc
	case gen == old && e == ends{live, retired}:
		return ChRetire
	case gen == old+1 && e == ends{retired, free}:
		return ChFree
	case gen == old+1 && e == ends{live, free}:
		return ChDrop
	case gen == old && (e == ends{live, gone} || e == ends{retired, gone}):
		return ChEnd
	case gen == old && e == ends{free, parked}:
		return ChPark
	case gen == old && e == ends{parked, free}:
		return ChUnpark
	}
	return ChNone
}

// doneTold: Done, told anew.
func doneTold(w uint64, c Change, most uint32) (uint64, bool) {
	if !mayTold(w, most) {
		return 0, false
	}
	s, gen := apart(w)
	below := gen < uint64(most)
	switch {
	case c == ChAlloc && s == free:
		return h(live, gen), true
	case c == ChRetire && s == live:
		return h(retired, gen), true
	case c == ChFree && s == retired && below:
		return h(free, gen+1), true
	case c == ChDrop && s == live && below:
		return h(free, gen+1), true
	case c == ChEnd && (s == live || s == retired) && !below:
		return h(gone, gen), true
	case c == ChPark && s == free:
		return h(parked, gen), true
	case c == ChUnpark && s == parked:
		return h(free, gen), true
	}
	return 0, false
}

// allTold: All, told anew.
func allTold(w uint64, most uint32) []Change {
	if !mayTold(w, most) {
		return nil
	}
	s, gen := apart(w)
	below := gen < uint64(most)
	switch {
	case s == free:
		return []Change{1, 6}
	case s == live && below:
		return []Change{2, 4}
	case s == live:
		return []Change{2, 5}
	case s == retired && below:
		return []Change{3}
	case s == retired:
		return []Change{5}
	case s == parked:
		return []Change{7}
	}
	return nil
}

// pastTold: Past, told anew, from behind: the least place that may not be is found last.
func pastTold(l []uint64, most uint32) int {
	at := len(l)
	for i := len(l) - 1; i > 0; i-- {
		if ofTold(l[i-1], l[i], most) == ChNone {
			at = i
		}
	}
	if len(l) > 0 && !mayTold(l[0], most) {
		return 0
	}
	return at
}

// lists of n of these words, all that there are.
func lists(n int, of []uint64) [][]uint64 {
	all := [][]uint64{{}}
	for range n {
		var longer [][]uint64
		for _, l := range all {
			for _, w := range of {
				longer = append(longer, append(slices.Clone(l), w))
			}
		}
		all = longer
	}
	return all
}

// small words: each state's, StGone's and none's, of the generations 0 to 2.
func small() []uint64 {
	var l []uint64
	for gen := range uint64(3) {
		for s := range api.State(6) {
			l = append(l, h(s, gen))
		}
	}
	return l
}

// walks yields the pasts of that many headers at most that begin with a header, as All and Done lead. What is yielded is
// changed behind it.
func walks(w uint64, many int, most uint32, each func([]uint64)) {
	l := []uint64{w}
	var on func()
	on = func() {
		each(l)
		if len(l) == many {
			return
		}
		for _, c := range All(l[len(l)-1], most) {
			to, ok := Done(l[len(l)-1], c, most)
			if !ok {
				continue
			}
			l = append(l, to)
			on()
			l = l[:len(l)-1]
		}
	}
	on()
}

// The numbers of the changes, which a chapter of the document gives.
func TestNumbers(t *testing.T) {
	for i, c := range []Change{ChNone, ChAlloc, ChRetire, ChFree, ChDrop, ChEnd, ChPark, ChUnpark} {
		if int(c) != i {
			t.Errorf("change %d has the number %d", i, c)
		}
	}
}

// P5.1, P5.3: chapter 5's examples.
func TestExamples(t *testing.T) {
	const most = 3
	for _, c := range []struct {
		from, to uint64
		want     Change
	}{
		{words.Header(free, 2), words.Header(live, 2), ChAlloc},
		{words.Header(retired, 2), words.Header(free, 3), ChFree},
		{words.Header(retired, 3), words.Header(gone, 3), ChEnd},
		{words.Header(live, 2), words.Header(free, 2), ChNone},
	} {
		if got := Of(c.from, c.to, most); got != c.want {
			t.Errorf("Of(%d, %d) is %d, want %d", c.from, c.to, got, c.want)
		}
	}
	for _, c := range []struct {
		w    uint64
		want []Change
	}{
		{words.Header(live, 2), []Change{ChRetire, ChDrop}},
		{words.Header(live, 3), []Change{ChRetire, ChEnd}},
		{words.Header(gone, 3), nil},
	} {
		if got := All(c.w, most); !slices.Equal(got, c.want) {
			t.Errorf("All(%d) is %v, want %v", c.w, got, c.want)
		}
	}
}

// P5.1: May, by hand, at the edges.
func TestMayByHand(t *testing.T) {
	for _, c := range []struct {
		name string
		w    uint64
		most uint32
		want bool
	}{
		{"free, of generation 0", h(free, 0), 3, true},
		{"live, of generation 0", h(live, 0), 3, true},
		{"retired, of generation 0", h(retired, 0), 3, true},
		{"parked, of generation 0", h(parked, 0), 3, true},
		{"gone, of generation 0", h(gone, 0), 3, false},
		{"free, one below most", h(free, 2), 3, true},
		{"live, one below most", h(live, 2), 3, true},
		{"retired, one below most", h(retired, 2), 3, true},
		{"parked, one below most", h(parked, 2), 3, true},
		{"gone, one below most", h(gone, 2), 3, false},
		{"free, at most", h(free, 3), 3, true},
		{"live, at most", h(live, 3), 3, true},
		{"retired, at most", h(retired, 3), 3, true},
		{"parked, at most", h(parked, 3), 3, true},
		{"gone, at most", h(gone, 3), 3, true},
		{"free, one above", h(free, 4), 3, false},
		{"live, one above", h(live, 4), 3, false},
		{"retired, one above", h(retired, 4), 3, false},
		{"parked, one above", h(parked, 4), 3, false},
		{"gone, one above", h(gone, 4), 3, false},
		{"most 0: free", h(free, 0), 0, true},
		{"most 0: live", h(live, 0), 0, true},
		{"most 0: retired", h(retired, 0), 0, true},
		{"most 0: parked", h(parked, 0), 0, true},
		{"most 0: gone", h(gone, 0), 0, true},
		{"most 0: free, one above", h(free, 1), 0, false},
		{"most 0: gone, one above", h(gone, 1), 0, false},
		{"greatest most: free, of generation 0", h(free, 0), maxGen, true},
		{"greatest most: free", h(free, 1<<32-1), maxGen, true},
		{"greatest most: live", h(live, 1<<32-1), maxGen, true},
		{"greatest most: gone", h(gone, 1<<32-1), maxGen, true},
		{"greatest most: gone, one below", h(gone, 1<<32-2), maxGen, false},
		{"greatest most: gone, of generation 0", h(gone, 0), maxGen, false},
		{"greatest most: one above has no room", h(free, 1<<32), maxGen, false},
		{"greatest most: gone, of one above", h(gone, 1<<32), maxGen, false},
		{"one below the greatest: greatest generation", h(live, 1<<32-1), maxGen - 1, false},
		{"half of all", h(live, 1<<31), 1 << 31, true},
		{"half of all, one above", h(live, 1<<31+1), 1 << 31, false},
		{"a state behind StGone, at most", h(5, 3), 3, false},
		{"the state behind it, at most", h(6, 3), 3, false},
		{"the last state of three bits, at most", h(7, 3), 3, false},
		{"a state behind StGone, below most", h(5, 1), 3, false},
		{"bit 35", 1<<35 | h(live, 1), 3, false},
		{"bit 63", 1<<63 | h(live, 1), 3, false},
		{"bit 63 alone", 1 << 63, 3, false},
		{"bit 35, of one that is gone", 1<<35 | h(gone, 3), 3, false},
		{"all bits", maxWord, maxGen, false},
		{"all bits, most 0", maxWord, 0, false},
	} {
		if got := May(c.w, c.most); got != c.want {
			t.Errorf("%s: May(%#x, %d) is %v", c.name, c.w, c.most, got)
		}
	}
}

// P5.1: May, of many words, and of what Header puts together.
func TestMayAll(t *testing.T) {
	for _, most := range mosts() {
		for _, w := range samples(most) {
			if got, want := May(w, most), mayTold(w, most); got != want {
				t.Errorf("May(%#x, %d) is %v", w, most, got)
			}
			s, gen := words.AsHeader(w)
			whole := words.Header(s, gen) == w
			if got := May(w, most); got && !whole {
				t.Errorf("May(%#x, %d), which Header puts not together", w, most)
			}
		}
		for s := range api.State(9) { // a state behind StGone is put together as StGone
			for _, gen := range []uint32{0, most, maxGen} {
				want := gen <= most && (s < gone || gen == most)
				if got := May(words.Header(s, gen), most); got != want {
					t.Errorf("May of state %d, generation %d, most %d is %v", s, gen, most, got)
				}
			}
		}
	}
}

// P5.1: Of, by hand: each line of the table, just below most and at most, and what is near it.
func TestOfByHand(t *testing.T) {
	const most = 5
	for _, c := range []struct {
		name     string
		from, to uint64
		want     Change
	}{
		{"alloc, of generation 0", h(free, 0), h(live, 0), ChAlloc},
		{"alloc, just below most", h(free, 4), h(live, 4), ChAlloc},
		{"alloc, at most", h(free, 5), h(live, 5), ChAlloc},
		{"alloc, of the generation behind", h(free, 3), h(live, 4), ChNone},
		{"alloc, of the generation ahead", h(free, 4), h(live, 3), ChNone},
		{"retire, of generation 0", h(live, 0), h(retired, 0), ChRetire},
		{"retire, just below most", h(live, 4), h(retired, 4), ChRetire},
		{"retire, at most", h(live, 5), h(retired, 5), ChRetire},
		{"retire, of the generation behind", h(live, 4), h(retired, 5), ChNone},
		{"free, of generation 0", h(retired, 0), h(free, 1), ChFree},
		{"free, just below most", h(retired, 4), h(free, 5), ChFree},
		{"free, at most", h(retired, 5), h(free, 6), ChNone},
		{"free, at most, of the same generation", h(retired, 5), h(free, 5), ChNone},
		{"free, at most, round to 0", h(retired, 5), h(free, 0), ChNone},
		{"free, of the same generation", h(retired, 3), h(free, 3), ChNone},
		{"free, two on", h(retired, 3), h(free, 5), ChNone},
		{"free, one back", h(retired, 3), h(free, 2), ChNone},
		{"drop, of generation 0", h(live, 0), h(free, 1), ChDrop},
		{"drop, just below most", h(live, 4), h(free, 5), ChDrop},
		{"drop, at most", h(live, 5), h(free, 6), ChNone},
		{"drop, at most, of the same generation", h(live, 5), h(free, 5), ChNone},
		{"drop, two on", h(live, 2), h(free, 4), ChNone},
		{"end of one that is live, at most", h(live, 5), h(gone, 5), ChEnd},
		{"end of one that is retired, at most", h(retired, 5), h(gone, 5), ChEnd},
		{"end of one that is live, just below most", h(live, 4), h(gone, 4), ChNone},
		{"end of one that is retired, just below most", h(retired, 4), h(gone, 4), ChNone},
		{"end of one that is live, to most", h(live, 4), h(gone, 5), ChNone},
		{"end of one that is retired, to most", h(retired, 4), h(gone, 5), ChNone},
		{"end of one that is free, at most", h(free, 5), h(gone, 5), ChNone},
		{"end of one that is parked, at most", h(parked, 5), h(gone, 5), ChNone},
		{"park, of generation 0", h(free, 0), h(parked, 0), ChPark},
		{"park, just below most", h(free, 4), h(parked, 4), ChPark},
		{"park, at most", h(free, 5), h(parked, 5), ChPark},
		{"park, of the generation behind", h(free, 4), h(parked, 5), ChNone},
		{"park of one that is live", h(live, 4), h(parked, 4), ChNone},
		{"park of one that is retired", h(retired, 4), h(parked, 4), ChNone},
		{"unpark, of generation 0", h(parked, 0), h(free, 0), ChUnpark},
		{"unpark, just below most", h(parked, 4), h(free, 4), ChUnpark},
		{"unpark, at most", h(parked, 5), h(free, 5), ChUnpark},
		{"unpark, of the generation behind", h(parked, 4), h(free, 5), ChNone},
		{"unpark to one that is live", h(parked, 4), h(live, 4), ChNone},
		{"back from live", h(live, 4), h(free, 4), ChNone},
		{"back from retired", h(retired, 4), h(live, 4), ChNone},
		{"from free to retired", h(free, 4), h(retired, 4), ChNone},
		{"from gone to free", h(gone, 5), h(free, 5), ChNone},
		{"from gone to live", h(gone, 5), h(live, 5), ChNone},
		{"twice free", h(free, 4), h(free, 4), ChNone},
		{"twice live", h(live, 4), h(live, 4), ChNone},
		{"twice retired", h(retired, 4), h(retired, 4), ChNone},
		{"twice parked", h(parked, 4), h(parked, 4), ChNone},
		{"twice gone", h(gone, 5), h(gone, 5), ChNone},
		{"twice free, one generation on", h(free, 3), h(free, 4), ChNone},
		{"the one ahead above most", h(free, 6), h(live, 6), ChNone},
		{"both above most", h(live, 7), h(retired, 7), ChNone},
		{"the one ahead has bits that no header has", 1<<35 | h(free, 4), h(live, 4), ChNone},
		{"the one behind has bits that no header has", h(free, 4), 1<<35 | h(live, 4), ChNone},
		{"both have bits that no header has", 1<<63 | h(free, 4), 1<<63 | h(live, 4), ChNone},
		{"the one behind is of no state", h(live, 5), h(5, 5), ChNone},
		{"the one ahead is of no state", h(5, 4), h(free, 4), ChNone},
		{"the one ahead is gone below most", h(gone, 4), h(free, 5), ChNone},
	} {
		if got := Of(c.from, c.to, most); got != c.want {
			t.Errorf("%s: Of(%#x, %#x) is %d, want %d", c.name, c.from, c.to, got, c.want)
		}
	}
}

// P5.1: Of, by hand, where most is 0, or the greatest number.
func TestOfLeastAndGreatest(t *testing.T) {
	const last = 1<<32 - 1
	for _, c := range []struct {
		name     string
		from, to uint64
		most     uint32
		want     Change
	}{
		{"most 0: alloc", h(free, 0), h(live, 0), 0, ChAlloc},
		{"most 0: retire", h(live, 0), h(retired, 0), 0, ChRetire},
		{"most 0: end of one that is live", h(live, 0), h(gone, 0), 0, ChEnd},
		{"most 0: end of one that is retired", h(retired, 0), h(gone, 0), 0, ChEnd},
		{"most 0: free", h(retired, 0), h(free, 1), 0, ChNone},
		{"most 0: drop", h(live, 0), h(free, 1), 0, ChNone},
		{"most 0: park", h(free, 0), h(parked, 0), 0, ChPark},
		{"most 0: unpark", h(parked, 0), h(free, 0), 0, ChUnpark},
		{"greatest most: alloc", h(free, last), h(live, last), maxGen, ChAlloc},
		{"greatest most: free, one below", h(retired, last-1), h(free, last), maxGen, ChFree},
		{"greatest most: drop, one below", h(live, last-1), h(free, last), maxGen, ChDrop},
		{"greatest most: free, round to 0", h(retired, last), h(free, 0), maxGen, ChNone},
		{"greatest most: drop, round to 0", h(live, last), h(free, 0), maxGen, ChNone},
		{"greatest most: free, where no room is", h(retired, last), h(free, last+1), maxGen, ChNone},
		{"greatest most: drop, where no room is", h(live, last), h(free, last+1), maxGen, ChNone},
		{"greatest most: end", h(retired, last), h(gone, last), maxGen, ChEnd},
		{"greatest most: end, one below", h(retired, last-1), h(gone, last-1), maxGen, ChNone},
		{"greatest most: free, amid", h(retired, 1<<31-1), h(free, 1<<31), maxGen, ChFree},
		{"of 32 bits alike: alloc", h(free, 1), h(live, 1<<32|1), maxGen, ChNone},
	} {
		if got := Of(c.from, c.to, c.most); got != c.want {
			t.Errorf("%s: Of(%#x, %#x, %d) is %d, want %d", c.name, c.from, c.to, c.most, got, c.want)
		}
	}
}

// P5.1: Of, of all pairs of many words.
func TestOfAll(t *testing.T) {
	for _, most := range mosts() {
		l := samples(most)
		for _, from := range l {
			for _, to := range l {
				if got, want := Of(from, to, most), ofTold(from, to, most); got != want {
					t.Errorf("Of(%#x, %#x, %d) is %d, want %d", from, to, most, got, want)
				}
			}
		}
	}
}

// P5.2: Done, by hand: each change from each state, below most and at most.
func TestDoneByHand(t *testing.T) {
	const no = maxWord // of what may not be done: no header is that
	for _, c := range []struct {
		name string
		w    uint64
		want [9]uint64 // by the changes' numbers; what is no change behind them
	}{
		{"free, below most", h(free, 4), [9]uint64{no, h(live, 4), no, no, no, no, h(parked, 4), no, no}},
		{"free, at most", h(free, 5), [9]uint64{no, h(live, 5), no, no, no, no, h(parked, 5), no, no}},
		{"live, of generation 0", h(live, 0), [9]uint64{no, no, h(retired, 0), no, h(free, 1), no, no, no, no}},
		{"live, below most", h(live, 4), [9]uint64{no, no, h(retired, 4), no, h(free, 5), no, no, no, no}},
		{"live, at most", h(live, 5), [9]uint64{no, no, h(retired, 5), no, no, h(gone, 5), no, no, no}},
		{"retired, of generation 0", h(retired, 0), [9]uint64{no, no, no, h(free, 1), no, no, no, no, no}},
		{"retired, below most", h(retired, 4), [9]uint64{no, no, no, h(free, 5), no, no, no, no, no}},
		{"retired, at most", h(retired, 5), [9]uint64{no, no, no, no, no, h(gone, 5), no, no, no}},
		{"parked, below most", h(parked, 4), [9]uint64{no, no, no, no, no, no, no, h(free, 4), no}},
		{"parked, at most", h(parked, 5), [9]uint64{no, no, no, no, no, no, no, h(free, 5), no}},
		{"gone", h(gone, 5), [9]uint64{no, no, no, no, no, no, no, no, no}},
		{"gone, below most", h(gone, 4), [9]uint64{no, no, no, no, no, no, no, no, no}},
		{"free, above most", h(free, 6), [9]uint64{no, no, no, no, no, no, no, no, no}},
		{"live, above most", h(live, 6), [9]uint64{no, no, no, no, no, no, no, no, no}},
		{"of no state", h(5, 4), [9]uint64{no, no, no, no, no, no, no, no, no}},
		{"free, with a bit that no header has", 1<<35 | h(free, 4), [9]uint64{no, no, no, no, no, no, no, no, no}},
	} {
		for n, want := range c.want {
			got, ok := Done(c.w, Change(n), 5)
			if want == no && (ok || got != 0) || want != no && (!ok || got != want) {
				t.Errorf("%s: Done of change %d is %#x, %v, want %#x", c.name, n, got, ok, want)
			}
		}
	}
}

// P5.2: Done, of what is no change: none that there is by its low bits either.
func TestDoneNoChange(t *testing.T) {
	for _, most := range mosts() {
		for _, w := range samples(most) {
			for c := int(ChUnpark) + 1; c <= math.MaxUint8; c++ {
				if got, ok := Done(w, Change(c), most); got != 0 || ok {
					t.Errorf("Done(%#x, %d, %d) is %#x, %v", w, c, most, got, ok)
				}
			}
			if got, ok := Done(w, ChNone, most); got != 0 || ok {
				t.Errorf("Done(%#x, ChNone, %d) is %#x, %v", w, most, got, ok)
			}
		}
	}
}

// P5.2: Done, of many words; it is what Of tells of both headers.
func TestDoneAll(t *testing.T) {
	for _, most := range mosts() {
		for _, w := range samples(most) {
			for c := ChNone; c <= ChUnpark; c++ {
				got, ok := Done(w, c, most)
				want, is := doneTold(w, c, most)
				if got != want || ok != is {
					t.Errorf("Done(%#x, %d, %d) is %#x, %v, want %#x, %v", w, c, most, got, ok, want, is)
				}
				if ok && Of(w, got, most) != c {
					t.Errorf("Done(%#x, %d, %d) is %#x, of which Of is %d", w, c, most, got, Of(w, got, most))
				}
			}
		}
	}
}

// P5.3: All, by hand.
func TestAllByHand(t *testing.T) {
	for _, c := range []struct {
		name string
		w    uint64
		most uint32
		want []Change
	}{
		{"free, of generation 0", h(free, 0), 5, []Change{ChAlloc, ChPark}},
		{"free, at most", h(free, 5), 5, []Change{ChAlloc, ChPark}},
		{"live, of generation 0", h(live, 0), 5, []Change{ChRetire, ChDrop}},
		{"live, just below most", h(live, 4), 5, []Change{ChRetire, ChDrop}},
		{"live, at most", h(live, 5), 5, []Change{ChRetire, ChEnd}},
		{"retired, just below most", h(retired, 4), 5, []Change{ChFree}},
		{"retired, at most", h(retired, 5), 5, []Change{ChEnd}},
		{"parked, below most", h(parked, 1), 5, []Change{ChUnpark}},
		{"parked, at most", h(parked, 5), 5, []Change{ChUnpark}},
		{"gone", h(gone, 5), 5, nil},
		{"gone, below most", h(gone, 4), 5, nil},
		{"free, above most", h(free, 6), 5, nil},
		{"live, above most", h(live, 6), 5, nil},
		{"of no state", h(5, 5), 5, nil},
		{"of no state, below most", h(7, 1), 5, nil},
		{"live, with a bit that no header has", 1<<35 | h(live, 4), 5, nil},
		{"all bits", maxWord, maxGen, nil},
		{"most 0: free", h(free, 0), 0, []Change{ChAlloc, ChPark}},
		{"most 0: live", h(live, 0), 0, []Change{ChRetire, ChEnd}},
		{"most 0: retired", h(retired, 0), 0, []Change{ChEnd}},
		{"most 0: parked", h(parked, 0), 0, []Change{ChUnpark}},
		{"most 0: gone", h(gone, 0), 0, nil},
		{"greatest most: live", h(live, 1<<32-1), maxGen, []Change{ChRetire, ChEnd}},
		{"greatest most: live, one below", h(live, 1<<32-2), maxGen, []Change{ChRetire, ChDrop}},
		{"greatest most: retired", h(retired, 1<<32-1), maxGen, []Change{ChEnd}},
		{"greatest most: retired, one below", h(retired, 1<<32-2), maxGen, []Change{ChFree}},
		{"greatest most: gone", h(gone, 1<<32-1), maxGen, nil},
	} {
		if got := All(c.w, c.most); !slices.Equal(got, c.want) {
			t.Errorf("%s: All(%#x, %d) is %v, want %v", c.name, c.w, c.most, got, c.want)
		}
	}
}

// P5.3: All, of many words; it has just those that Done does.
func TestAllAll(t *testing.T) {
	for _, most := range mosts() {
		for _, w := range samples(most) {
			got := All(w, most)
			if want := allTold(w, most); !slices.Equal(got, want) {
				t.Errorf("All(%#x, %d) is %v, want %v", w, most, got, want)
			}
			for c := range Change(20) {
				if _, ok := Done(w, c, most); ok != slices.Contains(got, c) {
					t.Errorf("All(%#x, %d) is %v, but Done of %d is %v", w, most, got, c, ok)
				}
			}
		}
	}
}

// R4: what All answers is memory of its own, with no room behind.
func TestAllOwn(t *testing.T) {
	for _, most := range mosts() {
		for _, w := range samples(most) {
			one := All(w, most)
			if cap(one) != len(one) {
				t.Errorf("All(%#x, %d) is %v, with room for %d", w, most, one, cap(one))
			}
			for i := range one {
				one[i] = 99
			}
			if two, want := All(w, most), allTold(w, most); !slices.Equal(two, want) {
				t.Errorf("All(%#x, %d), once an answer was changed, is %v, want %v", w, most, two, want)
			}
		}
	}
}

// P5.4: Past, by hand.
func TestPastByHand(t *testing.T) {
	whole := []uint64{h(free, 1), h(live, 1), h(retired, 1), h(free, 2), h(parked, 2), h(free, 2), h(live, 2), h(free, 3), h(live, 3), h(gone, 3)}
	with := func(at int, w uint64) []uint64 {
		l := slices.Clone(whole)
		l[at] = w
		return l
	}
	for _, c := range []struct {
		name string
		l    []uint64
		most uint32
		want int
	}{
		{"nil", nil, 3, 0},
		{"empty", []uint64{}, 3, 0},
		{"nil, most 0", nil, 0, 0},
		{"one alone", []uint64{h(live, 2)}, 3, 1},
		{"one alone that is gone", []uint64{h(gone, 3)}, 3, 1},
		{"one alone that is gone below most", []uint64{h(gone, 2)}, 3, 0},
		{"one alone above most", []uint64{h(free, 4)}, 3, 0},
		{"one alone, with a bit that no header has", []uint64{1 << 35}, 3, 0},
		{"none such", whole, 3, 10},
		{"none such, ended in the midst", whole[:6], 3, 6},
		{"none such, begun in the midst", whole[2:], 3, 8},
		{"the first one may not be", with(0, h(free, 4)), 3, 0},
		{"the first one may not be, and the next is behind it", []uint64{h(free, 4), h(live, 4)}, 3, 0},
		{"the first one is of no state", with(0, h(6, 1)), 3, 0},
		{"the first one may be, and leads nowhere", with(0, h(parked, 1)), 3, 1},
		{"the second one may not be", with(1, 1<<40|h(live, 1)), 3, 1},
		{"the second one again is the first", with(1, h(free, 1)), 3, 1},
		{"amid, of another generation", with(4, h(parked, 1)), 3, 4},
		{"amid, may not be", with(5, h(free, 9)), 3, 5},
		{"the last one but one", with(8, h(retired, 3)), 3, 8},
		{"the last one", with(9, h(free, 3)), 3, 9},
		{"the last one may not be", with(9, h(gone, 4)), 3, 9},
		{"two such: the first of them", []uint64{h(free, 1), h(live, 1), h(live, 1), h(live, 1), h(retired, 1)}, 3, 2},
		{"behind one that is gone", append(slices.Clone(whole), h(free, 3)), 3, 10},
		{"behind one that is gone, gone", append(slices.Clone(whole), h(gone, 3)), 3, 10},
		{"gone, then as it was", []uint64{h(gone, 3), h(free, 3), h(live, 3)}, 3, 1},
		{"most one more: it is not gone then", whole, 4, 9},
		{"most one less: it is gone sooner", whole, 2, 7},
		{"most 0", []uint64{h(parked, 0), h(free, 0), h(live, 0), h(retired, 0), h(gone, 0)}, 0, 5},
		{"most 0: no more than one generation", []uint64{h(live, 0), h(free, 1)}, 0, 1},
		{"greatest most", []uint64{h(live, 1<<32-2), h(free, 1<<32-1), h(live, 1<<32-1), h(gone, 1<<32-1)}, maxGen, 4},
		{"greatest most: not round to 0", []uint64{h(live, 1<<32-1), h(free, 0), h(live, 0)}, maxGen, 1},
	} {
		if got := Past(c.l, c.most); got != c.want {
			t.Errorf("%s: Past(%v, %d) is %d, want %d", c.name, c.l, c.most, got, c.want)
		}
	}
}

// P5.4: Past, of all short lists of small words.
func TestPastAll(t *testing.T) {
	for many := range 5 {
		for _, l := range lists(many, small()) {
			for most := range uint32(3) {
				if got, want := Past(l, most), pastTold(l, most); got != want {
					t.Errorf("Past(%v, %d) is %d, want %d", l, most, got, want)
				}
			}
		}
	}
}

// P5.4: Past, of a long list, whole and with one header that breaks it.
func TestPastLong(t *testing.T) {
	const many = 30000
	var l []uint64
	for gen := range uint64(many) {
		l = append(l, h(free, gen), h(live, gen), h(retired, gen))
	}
	if got := Past(l, many); got != 3*many {
		t.Errorf("of a past of %d headers, Past is %d", 3*many, got)
	}
	if got := Past(l, many-1); got != 3*many {
		t.Errorf("of a past up to the last generation, Past is %d", got)
	}
	if got := Past(l, many-2); got != 3*(many-1) {
		t.Errorf("of a past past the last generation, Past is %d", got)
	}
	for _, at := range []int{0, 1, 2, 100, 3*many - 2, 3*many - 1} {
		was := l[at]
		l[at] = h(gone, 7)
		if got := Past(l, many); got != at {
			t.Errorf("broken at %d, Past is %d", at, got)
		}
		l[at] = was
	}
}

// P5.5: generations never fall, and rise by ChFree and ChDrop alone, by 1; behind StGone nothing comes.
func TestGenerations(t *testing.T) {
	for _, most := range mosts() {
		l := samples(most)
		for _, from := range l {
			for _, to := range l {
				c := Of(from, to, most)
				a, old := words.AsHeader(from)
				_, gen := words.AsHeader(to)
				if c != ChNone && a == gone {
					t.Errorf("most %d: %#x comes behind %#x, which is gone", most, to, from)
				}
				rise := uint64(0)
				if c == ChFree || c == ChDrop {
					rise = 1
				}
				if c != ChNone && uint64(gen) != uint64(old)+rise {
					t.Errorf("most %d: the generation goes from %d to %d by change %d", most, old, gen, c)
				}
			}
		}
	}
}

// P5.5: the same of all that is done; of one that is gone nothing is.
func TestGenerationsDone(t *testing.T) {
	for _, most := range mosts() {
		for _, w := range samples(most) {
			s, old := words.AsHeader(w)
			for c := range Change(12) {
				to, ok := Done(w, c, most)
				_, gen := words.AsHeader(to)
				switch {
				case !ok:
				case s == gone:
					t.Errorf("most %d: change %d is done from %#x, which is gone", most, c, w)
				case c == ChFree || c == ChDrop:
					if uint64(gen) != uint64(old)+1 {
						t.Errorf("most %d: the generation goes from %d to %d by change %d", most, old, gen, c)
					}
				case gen != old:
					t.Errorf("most %d: the generation goes from %d to %d by change %d", most, old, gen, c)
				}
			}
			if l := All(w, most); s == gone && len(l) > 0 {
				t.Errorf("most %d: %v may be done from %#x, which is gone", most, l, w)
			}
		}
	}
}

// P5.5: where All and Done lead is a past, with each header such as may be; in it each generation is StLive at most once
// behind something else.
func TestWalks(t *testing.T) {
	for most := range uint32(4) {
		for _, w := range small() {
			if !May(w, most) {
				continue
			}
			walks(w, 10, most, func(l []uint64) {
				if got := Past(l, most); got != len(l) {
					t.Errorf("most %d: Past of the walk %v is %d", most, l, got)
				}
				lived := map[uint32]int{}
				for i, w := range l {
					s, gen := words.AsHeader(w)
					if !May(w, most) {
						t.Errorf("most %d: the walk %v has %#x, which may not be", most, l, w)
					}
					if i > 0 && s == live {
						lived[gen]++
					}
				}
				for gen, times := range lived {
					if times > 1 {
						t.Errorf("most %d: generation %d is live %d times in the walk %v", most, gen, times, l)
					}
				}
			})
		}
	}
}

// P5.5: walks reach all headers that may be, so that what holds of them holds of all.
func TestWalksReach(t *testing.T) {
	const most = 2
	reached := map[uint64]int{}
	walks(h(free, 0), 12, most, func(l []uint64) { reached[l[len(l)-1]]++ })
	for _, w := range small() {
		if May(w, most) != (reached[w] > 0) {
			t.Errorf("%#x is reached %d times from the first header", w, reached[w])
		}
	}
	if len(reached) != 4*3+1 {
		t.Errorf("%d headers are reached", len(reached))
	}
}

// R1: the list that is handed in stays, what lies behind it too, and what lies there is not looked at.
func TestHandedInStays(t *testing.T) {
	for many := range 4 {
		for _, l := range lists(many, small()) {
			room := append(slices.Clone(l), h(live, 1), h(7, 2), maxWord)
			was := slices.Clone(room)
			for most := range uint32(3) {
				if got, want := Past(room[:many], most), pastTold(l, most); got != want {
					t.Errorf("Past(%v, %d), with room behind, is %d, want %d", l, most, got, want)
				}
			}
			if !slices.Equal(room, was) {
				t.Errorf("%v became %v", was, room)
			}
		}
	}
}

// R1: nothing is kept from call to call: the same list, become another one, is answered as that one is.
func TestNothingIsKept(t *testing.T) {
	l, of := make([]uint64, 3), small()
	for i := range 5 * len(of) {
		l[i%3] = of[i*7%len(of)]
		most := uint32(i % 3)
		for range 2 {
			if got, want := Past(l, most), pastTold(l, most); got != want {
				t.Errorf("Past(%v, %d) is %d, want %d", l, most, got, want)
			}
			if got, want := Of(l[0], l[1], most), ofTold(l[0], l[1], most); got != want {
				t.Errorf("Of(%#x, %#x, %d) is %d, want %d", l[0], l[1], most, got, want)
			}
			if got, want := All(l[2], most), allTold(l[2], most); !slices.Equal(got, want) {
				t.Errorf("All(%#x, %d) is %v, want %v", l[2], most, got, want)
			}
		}
	}
}
