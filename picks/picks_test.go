package picks

import (
	"math"
	"slices"
	"testing"
)

const (
	minInt = math.MinInt
	maxInt = math.MaxInt
	yes    = true
	no     = false
)

// lists of n bools, all that there are.
func lists(n int) [][]bool {
	var all [][]bool
	for bits := range 1 << n {
		l := make([]bool, n)
		for i := range l {
			l[i] = bits>>i&1 == 1
		}
		all = append(all, l)
	}
	return all
}

// upTo n bools: all lists of them, the empty one and nil ahead.
func upTo(n int) [][]bool {
	all := [][]bool{nil}
	for i := range n + 1 {
		all = append(all, lists(i)...)
	}
	return all
}

// rows of n numbers from -1 to 3, all that there are.
func rows(n int) [][]int {
	all := [][]int{{}}
	for range n {
		var longer [][]int
		for _, l := range all {
			for p := -1; p <= 3; p++ {
				longer = append(longer, append(slices.Clone(l), p))
			}
		}
		all = longer
	}
	return all
}

// places of the bools that are true.
func places(l []bool) []int {
	var at []int
	for i, is := range l {
		if is {
			at = append(at, i)
		}
	}
	return at
}

// long list, of which each third one may go.
func long() []bool {
	l := make([]bool, 999)
	for i := 1; i < len(l); i += 3 {
		l[i] = true
	}
	return l
}

// pickTold: who is picked, by going from one to the next one n times, each time from the last one to the first one.
func pickTold(n int, may []bool) int {
	at := places(may)
	if len(at) == 0 {
		return -1
	}
	i := 0
	for ; n > 0; n-- {
		if i++; i == len(at) {
			i = 0
		}
	}
	return at[i]
}

// turnTold: whose turn it is, by going round from the place behind last, last itself being looked at in the end.
func turnTold(last int, may []bool) int {
	if last < 0 || last >= len(may) {
		last = -1
	}
	for i := 1; i <= len(may); i++ {
		if at := (last + i) % len(may); may[at] {
			return at
		}
	}
	return -1
}

// without that number: does it lack in each place of the picks?
func without(picks []int, n int) bool { return !slices.Contains(picks, n) }

// restTold: the longest piece of the picks that is without that number, of all pieces that there are.
func restTold(picks []int, n int) int {
	longest := 0
	for from := range picks {
		for to := from + 1; to <= len(picks); to++ {
			if without(picks[from:to], n) && to-from > longest {
				longest = to - from
			}
		}
	}
	return longest
}

// fairTold: is there no piece of so many picks that is without a number that counts?
func fairTold(picks []int, who []bool, within int) bool {
	for _, n := range places(who) {
		if within <= 0 {
			return false
		}
		for from := 0; from+within <= len(picks); from++ {
			if without(picks[from:from+within], n) {
				return false
			}
		}
	}
	return true
}

// P4.1, P4.2, P4.3: chapter 4's examples.
func TestExamples(t *testing.T) {
	if n := Pick(5, []bool{yes, no, yes, yes}); n != 3 {
		t.Errorf("Pick is %d", n)
	}
	if n := Turn(2, []bool{yes, no, yes, no}); n != 0 {
		t.Errorf("Turn is %d", n)
	}
	if n := Rest([]int{1, 2, 2, 1, 3}, 1); n != 2 {
		t.Errorf("Rest is %d", n)
	}
	who := []bool{no, yes, yes}
	if !Fair([]int{1, 2, 2, 1, 3}, who, 3) {
		t.Error("not fair within 3")
	}
	if Fair([]int{1, 2, 2, 1, 3}, who, 2) {
		t.Error("fair within 2")
	}
}

// P4.1: by hand, at the edges.
func TestPickByHand(t *testing.T) {
	for _, c := range []struct {
		name string
		n    int
		may  []bool
		want int
	}{
		{"nil", 0, nil, -1},
		{"nil, below 0", -1, nil, -1},
		{"nil, more", 7, nil, -1},
		{"nil, greatest", maxInt, nil, -1},
		{"nil, least", minInt, nil, -1},
		{"empty", 0, []bool{}, -1},
		{"empty, more", 3, []bool{}, -1},
		{"none may", 0, []bool{no, no, no}, -1},
		{"none may, below 0", -2, []bool{no, no, no}, -1},
		{"none may, more", 4, []bool{no, no, no}, -1},
		{"one, who may not", 0, []bool{no}, -1},
		{"one, who may", 0, []bool{yes}, 0},
		{"one, who may, by more", 1, []bool{yes}, 0},
		{"one, who may, below 0", -1, []bool{yes}, 0},
		{"one, who may, greatest", maxInt, []bool{yes}, 0},
		{"one of some", 0, []bool{no, no, yes, no}, 2},
		{"one of some, by more", 9, []bool{no, no, yes, no}, 2},
		{"some: first", 0, []bool{no, yes, no, yes, yes, no}, 1},
		{"some: second", 1, []bool{no, yes, no, yes, yes, no}, 3},
		{"some: one less than many", 2, []bool{no, yes, no, yes, yes, no}, 4},
		{"some: as many", 3, []bool{no, yes, no, yes, yes, no}, 1},
		{"some: one more", 4, []bool{no, yes, no, yes, yes, no}, 3},
		{"some: twice as many", 6, []bool{no, yes, no, yes, yes, no}, 1},
		{"some: as many as the list has", 5, []bool{no, yes, yes, no, no}, 2},
		{"some: -1", -1, []bool{no, yes, no, yes, yes, no}, 1},
		{"some: -2", -2, []bool{no, yes, no, yes, yes, no}, 1},
		{"some: -3", -3, []bool{no, yes, no, yes, yes, no}, 1},
		{"some: least", minInt, []bool{no, yes, no, yes, yes, no}, 1},
		{"some: least and 1", minInt + 1, []bool{no, yes, no, yes, yes, no}, 1},
		{"some: greatest, which is 1 modulo 3", maxInt, []bool{no, yes, no, yes, yes, no}, 3},
		{"some: greatest less 1", maxInt - 1, []bool{no, yes, no, yes, yes, no}, 1},
		{"some: more than 32 bits, 1 modulo 3", 1 << 32, []bool{no, yes, no, yes, yes, no}, 3},
		{"all: first", 0, []bool{yes, yes, yes, yes}, 0},
		{"all: one less than many", 3, []bool{yes, yes, yes, yes}, 3},
		{"all: as many", 4, []bool{yes, yes, yes, yes}, 0},
		{"all: one more", 5, []bool{yes, yes, yes, yes}, 1},
		{"all: greatest, which is 3 modulo 4", maxInt, []bool{yes, yes, yes, yes}, 3},
		{"all: below 0", -1, []bool{yes, yes, yes, yes}, 0},
	} {
		if got := Pick(c.n, c.may); got != c.want {
			t.Errorf("%s: Pick(%d, %v) is %d, want %d", c.name, c.n, c.may, got, c.want)
		}
	}
}

// P4.1: all short lists, by numbers below 0, up to more than twice as many as there are.
func TestPickAll(t *testing.T) {
	for _, may := range upTo(8) {
		for n := -10; n <= 20; n++ {
			if got, want := Pick(n, may), pickTold(n, may); got != want {
				t.Errorf("Pick(%d, %v) is %d, want %d", n, may, got, want)
			}
		}
	}
}

// P4.1: a list that is long.
func TestPickLong(t *testing.T) {
	may := long() // 333 may: 1, 4, 7, up to 997
	for _, c := range []struct{ n, want int }{{0, 1}, {1, 4}, {127, 382}, {332, 997}, {333, 1}, {334, 4}, {665, 997}, {666, 1}, {-1, 1}, {minInt, 1}} {
		if got := Pick(c.n, may); got != c.want {
			t.Errorf("Pick by %d is %d, want %d", c.n, got, c.want)
		}
	}
}

// P4.2: by hand, at the edges.
func TestTurnByHand(t *testing.T) {
	for _, c := range []struct {
		name string
		last int
		may  []bool
		want int
	}{
		{"nil", 0, nil, -1},
		{"nil, -1", -1, nil, -1},
		{"nil, least", minInt, nil, -1},
		{"nil, greatest", maxInt, nil, -1},
		{"empty", 0, []bool{}, -1},
		{"empty, -1", -1, []bool{}, -1},
		{"none may", 1, []bool{no, no, no}, -1},
		{"none may, -1", -1, []bool{no, no, no}, -1},
		{"none may, behind the end", 3, []bool{no, no, no}, -1},
		{"one, who may not", 0, []bool{no}, -1},
		{"one, who may, behind himself", 0, []bool{yes}, 0},
		{"one, who may, behind -1", -1, []bool{yes}, 0},
		{"one, who may, behind the end", 1, []bool{yes}, 0},
		{"one of some, behind himself", 2, []bool{no, no, yes, no}, 2},
		{"one of some, behind one ahead of him", 1, []bool{no, no, yes, no}, 2},
		{"one of some, behind one behind him", 3, []bool{no, no, yes, no}, 2},
		{"some: behind the first, who may not", 0, []bool{no, yes, no, yes, yes, no}, 1},
		{"some: behind one who may, the next one may not", 1, []bool{no, yes, no, yes, yes, no}, 3},
		{"some: behind one who may not", 2, []bool{no, yes, no, yes, yes, no}, 3},
		{"some: behind one who may, the next one may", 3, []bool{no, yes, no, yes, yes, no}, 4},
		{"some: behind the last one who may", 4, []bool{no, yes, no, yes, yes, no}, 1},
		{"some: behind the last of the list, who may not", 5, []bool{no, yes, no, yes, yes, no}, 1},
		{"some: behind the end", 6, []bool{no, yes, no, yes, yes, no}, 1},
		{"some: behind more than the end", 7, []bool{no, yes, no, yes, yes, no}, 1}, // not behind 1, to which it would go round
		{"some: greatest", maxInt, []bool{no, yes, no, yes, yes, no}, 1},
		{"some: -1", -1, []bool{no, yes, no, yes, yes, no}, 1},
		{"some: -2", -2, []bool{no, yes, no, yes, yes, no}, 1},
		{"some: -3, not as counted from the end", -3, []bool{no, yes, no, yes, yes, no}, 1},
		{"some: least", minInt, []bool{no, yes, no, yes, yes, no}, 1},
		{"all: behind the first", 0, []bool{yes, yes, yes, yes}, 1},
		{"all: behind one amid", 2, []bool{yes, yes, yes, yes}, 3},
		{"all: behind the last of the list", 3, []bool{yes, yes, yes, yes}, 0},
		{"all: behind the end", 4, []bool{yes, yes, yes, yes}, 0},
		{"all: behind more than the end", 5, []bool{yes, yes, yes, yes}, 0},
		{"all: -1", -1, []bool{yes, yes, yes, yes}, 0},
		{"all: -2", -2, []bool{yes, yes, yes, yes}, 0},
		{"all: more than 32 bits", 1<<32 + 1, []bool{yes, yes, yes, yes}, 0},
		{"all: less than 32 bits", 1 - 1<<32, []bool{yes, yes, yes, yes}, 0},
		{"all: greatest", maxInt, []bool{yes, yes, yes, yes}, 0},
		{"all: least", minInt, []bool{yes, yes, yes, yes}, 0},
		{"first and last: behind the first", 0, []bool{yes, no, no, yes}, 3},
		{"first and last: behind the last", 3, []bool{yes, no, no, yes}, 0},
	} {
		if got := Turn(c.last, c.may); got != c.want {
			t.Errorf("%s: Turn(%d, %v) is %d, want %d", c.name, c.last, c.may, got, c.want)
		}
	}
}

// P4.2: all short lists, behind each number of them, and behind such as are none of theirs.
func TestTurnAll(t *testing.T) {
	for _, may := range upTo(8) {
		for last := -10; last <= 20; last++ {
			if got, want := Turn(last, may), turnTold(last, may); got != want {
				t.Errorf("Turn(%d, %v) is %d, want %d", last, may, got, want)
			}
		}
	}
}

// P4.2: a list that is long.
func TestTurnLong(t *testing.T) {
	may := long() // 333 may: 1, 4, 7, up to 997
	for _, c := range []struct{ last, want int }{{-1, 1}, {0, 1}, {1, 4}, {3, 4}, {499, 502}, {500, 502}, {994, 997}, {997, 1}, {998, 1}, {999, 1}} {
		if got := Turn(c.last, may); got != c.want {
			t.Errorf("Turn behind %d is %d, want %d", c.last, got, c.want)
		}
	}
}

// P4.3: Rest, by hand, at the edges.
func TestRestByHand(t *testing.T) {
	for _, c := range []struct {
		name  string
		picks []int
		n     int
		want  int
	}{
		{"nil", nil, 0, 0},
		{"nil, below 0", nil, -1, 0},
		{"empty", []int{}, 5, 0},
		{"not there", []int{1, 2, 2, 1, 3}, 4, 5},
		{"not there, 0", []int{1, 2, 2, 1, 3}, 0, 5},
		{"not there, below 0", []int{1, 2, 2, 1, 3}, -1, 5},
		{"not there, least", []int{1, 2, 2, 1, 3}, minInt, 5},
		{"not there, greatest", []int{1, 2, 2, 1, 3}, maxInt, 5},
		{"not there, of 32 bits alike", []int{1, 1, 1}, 1<<32 + 1, 3},
		{"alone", []int{6}, 6, 0},
		{"another one alone", []int{6}, 7, 1},
		{"twice, and nobody else", []int{6, 6}, 6, 0},
		{"first", []int{6, 1, 2}, 6, 2},
		{"last", []int{1, 2, 6}, 6, 2},
		{"amid", []int{1, 6, 2}, 6, 1},
		{"first and last", []int{6, 1, 2, 3, 6}, 6, 3},
		{"twice in a row", []int{1, 6, 6, 2}, 6, 1},
		{"twice in a row, first", []int{6, 6, 1, 1}, 6, 2},
		{"twice in a row, last", []int{1, 1, 6, 6}, 6, 2},
		{"ahead of its first pick", []int{1, 2, 3, 6, 1, 6, 2, 3}, 6, 3},
		{"between two", []int{1, 6, 2, 3, 1, 6, 2, 3}, 6, 3},
		{"between the first two of three", []int{6, 1, 2, 6, 1, 6}, 6, 2},
		{"between the last two of three", []int{6, 1, 6, 1, 2, 6}, 6, 2},
		{"behind its last one", []int{1, 6, 2, 6, 2, 3, 1}, 6, 3},
		{"not all of them together", []int{1, 6, 1, 6, 1}, 6, 1},
		{"two others by turns are one rest", []int{6, 1, 2, 1, 2, 6}, 6, 4},
		{"of 0", []int{0, 1, 1, 0}, 0, 2},
		{"below 0 is a number as others", []int{-1, 4, 4, -1, 4}, -1, 2},
		{"least is a number as others", []int{minInt, 4, 4, minInt, 4}, minInt, 2},
		{"greatest is a number as others", []int{maxInt, 4, 4, maxInt, 4}, maxInt, 2},
	} {
		if got := Rest(c.picks, c.n); got != c.want {
			t.Errorf("%s: Rest(%v, %d) is %d, want %d", c.name, c.picks, c.n, got, c.want)
		}
	}
}

// P4.3: Rest, of all short rows of picks.
func TestRestAll(t *testing.T) {
	for many := range 6 {
		for _, picks := range rows(many) {
			for n := -2; n <= 4; n++ {
				if got, want := Rest(picks, n), restTold(picks, n); got != want {
					t.Errorf("Rest(%v, %d) is %d, want %d", picks, n, got, want)
				}
			}
		}
	}
}

// P4.3: Rest, of picks that are many.
func TestRestLong(t *testing.T) {
	picks := make([]int, 70000) // 0 but at three places
	for _, at := range []int{100, 40000, 40001} {
		picks[at] = 1
	}
	for _, c := range []struct{ n, want int }{{0, 2}, {1, 39899}, {2, 70000}} {
		if got := Rest(picks, c.n); got != c.want {
			t.Errorf("Rest of %d is %d, want %d", c.n, got, c.want)
		}
	}
}

// P4.3: Fair, by hand, at the edges.
func TestFairByHand(t *testing.T) {
	row := []int{1, 2, 2, 1, 3} // the longest rests of 0 to 4: 5, 2, 2, 4, 5
	for _, c := range []struct {
		name   string
		picks  []int
		who    []bool
		within int
		want   bool
	}{
		{"one counts: just the rest", row, []bool{no, yes}, 2, false},
		{"one counts: one more", row, []bool{no, yes}, 3, true},
		{"one counts: much more", row, []bool{no, yes}, maxInt, true},
		{"one counts: within 1", row, []bool{no, yes}, 1, false},
		{"one counts: within 0", row, []bool{no, yes}, 0, false},
		{"one counts: below 0", row, []bool{no, yes}, -1, false},
		{"one counts: least", row, []bool{no, yes}, minInt, false},
		{"the last one counts: just the rest", row, []bool{no, no, no, yes}, 4, false},
		{"the last one counts: one more", row, []bool{no, no, no, yes}, 5, true},
		{"some count: the first one rests too long", row, []bool{yes, yes, yes, no}, 5, false},
		{"some count: the one amid rests too long", row, []bool{no, yes, no, yes, no}, 4, false},
		{"some count: the last one rests too long", row, []bool{no, yes, yes, yes}, 4, false},
		{"some count: none rests too long", row, []bool{no, yes, yes, yes}, 5, true},
		{"all count: one is not there", row, []bool{yes, yes, yes, yes}, 5, false},
		{"all count: as many as picks, and one", row, []bool{yes, yes, yes, yes, yes}, 6, true},
		{"who does not count is not asked", row, []bool{no, yes, yes, no, no, no}, 3, true},
		{"who is nil", row, nil, 1, true},
		{"who is nil, within 0", row, nil, 0, true},
		{"who is nil, least", row, nil, minInt, true},
		{"who is empty", row, []bool{}, -1, true},
		{"who is all false", row, []bool{no, no, no, no}, 1, true},
		{"who is all false, within 0", row, []bool{no, no, no, no}, 0, true},
		{"who is all false, below 0", row, []bool{no, no, no, no}, -5, true},
		{"no picks", nil, []bool{yes, yes}, 1, true},
		{"no picks, within 0", nil, []bool{yes, yes}, 0, false},
		{"no picks, below 0", []int{}, []bool{yes, yes}, -1, false},
		{"no picks, and who is nil", nil, nil, 0, true},
		{"he alone: within 0", []int{0, 0}, []bool{yes}, 0, false},
		{"he alone: within 1", []int{0, 0}, []bool{yes}, 1, true},
		{"picks that who does not name", []int{0, 7, 8, 0}, []bool{yes}, 3, true},
		{"picks that who does not name are rests", []int{0, 7, 8, 0}, []bool{yes}, 2, false},
		{"picks below 0 are rests", []int{0, -1, -1, minInt, 0}, []bool{yes}, 3, false},
		{"picks below 0, within more", []int{0, -1, -1, minInt, 0}, []bool{yes}, 4, true},
		{"all picks are others", []int{9, maxInt, 8}, []bool{yes, no}, 3, false},
		{"all picks are others, within more", []int{9, maxInt, 8}, []bool{yes, no}, 4, true},
	} {
		if got := Fair(c.picks, c.who, c.within); got != c.want {
			t.Errorf("%s: Fair(%v, %v, %d) is %v", c.name, c.picks, c.who, c.within, got)
		}
	}
}

// P4.3: Fair, of all short rows of picks, and all short lists of who counts.
func TestFairAll(t *testing.T) {
	for many := range 5 {
		for _, picks := range rows(many) {
			for _, who := range upTo(4) {
				for within := -2; within <= many+2; within++ {
					if got, want := Fair(picks, who, within), fairTold(picks, who, within); got != want {
						t.Errorf("Fair(%v, %v, %d) is %v", picks, who, within, got)
					}
				}
			}
		}
	}
}

// P4.4: picks are of those that may go, and all of these are picked by some n.
func TestPicksOfThose(t *testing.T) {
	for _, may := range upTo(9) {
		at := places(may)
		picked := map[int]int{}
		for n := range at {
			picked[Pick(n, may)]++
		}
		for _, who := range at {
			if picked[who] != 1 {
				t.Errorf("of %v, %d is picked %d times by as many numbers as may go", may, who, picked[who])
			}
		}
		for n := -3; n <= 25; n++ {
			who, next := Pick(n, may), Turn(n, may)
			if len(at) == 0 && (who != -1 || next != -1) {
				t.Errorf("of %v, where none may: %d and %d by %d", may, who, next, n)
			}
			if len(at) > 0 && (!slices.Contains(at, who) || !slices.Contains(at, next)) {
				t.Errorf("of %v: %d and %d by %d", may, who, next, n)
			}
		}
	}
}

// turns of a list, one behind the other, from behind last on.
func turns(last, many int, may []bool) []int {
	var l []int
	for range many {
		last = Turn(last, may)
		l = append(l, last)
	}
	return l
}

// P4.4: by turns all are picked, each once, till the first one comes again; that is fair within as many as there are, and not
// within fewer.
func TestTurnsAreFair(t *testing.T) {
	for _, may := range upTo(7) {
		at := places(may)
		many := len(at)
		if many == 0 {
			continue
		}
		for last := -2; last <= len(may)+1; last++ {
			l := turns(last, 3*many+1, may)
			once := slices.Sorted(slices.Values(l[:many]))
			if !slices.Equal(once, at) {
				t.Errorf("of %v, behind %d: %v go first, and not each one once", may, last, l[:many])
			}
			for i, who := range l[many:] {
				if who != l[i] {
					t.Errorf("of %v, behind %d: %v does not begin again", may, last, l)
				}
			}
			for n := 1; n <= 3; n++ {
				some := l[:n*many]
				if !Fair(some, may, many) || Fair(some, may, many-1) {
					t.Errorf("of %v, behind %d: %v is not fair within just as many as there are", may, last, some)
				}
			}
			if !Fair(l, may, many) || Fair(l, may, many-1) {
				t.Errorf("of %v, behind %d: %v is not fair within just as many as there are", may, last, l)
			}
		}
	}
}

// P4.4: the same of as many as a system may have, and of more.
func TestTurnsOfMany(t *testing.T) {
	for _, may := range [][]bool{long(), slices.Repeat([]bool{yes}, 17), slices.Repeat([]bool{yes, no}, 8)} {
		many := len(places(may))
		l := turns(-1, 2*many, may)
		if !slices.Equal(l, slices.Repeat(places(may), 2)) {
			t.Errorf("%d that may go: turns are %v", many, l)
		}
		if !Fair(l, may, many) || Fair(l, may, many-1) {
			t.Errorf("%d that may go: not fair within just as many", many)
		}
	}
}

// P4.4: what is fair within some is so within more, from just behind the longest rest on.
func TestFairWithinMore(t *testing.T) {
	for _, picks := range rows(5) {
		who := []bool{yes, no, yes, yes}
		longest := max(Rest(picks, 0), Rest(picks, 2), Rest(picks, 3))
		for within := -3; within <= 9; within++ {
			if Fair(picks, who, within) != (within > longest) {
				t.Errorf("Fair(%v, %v, %d) is %v, the longest rest %d", picks, who, within, within <= longest, longest)
			}
		}
		if !Fair(picks, who, maxInt) || Fair(picks, who, minInt) {
			t.Errorf("Fair(%v, %v) within the greatest or the least number is wrong", picks, who)
		}
	}
}

// R1: what is handed in stays, what lies behind it too.
func TestHandedInStays(t *testing.T) {
	for _, may := range upTo(5) {
		room := append(slices.Clone(may), yes, no, yes)
		was := slices.Clone(room)
		l := room[:len(may)]
		for n := -2; n <= 7; n++ {
			if Pick(n, l) != Pick(n, may) || Turn(n, l) != Turn(n, may) || Fair([]int{0, 2, 1}, l, n) != Fair([]int{0, 2, 1}, may, n) {
				t.Errorf("of %v, with room behind, the answers by %d are others", may, n)
			}
		}
		if !slices.Equal(room, was) {
			t.Errorf("%v became %v", was, room)
		}
	}
	for _, picks := range rows(3) {
		room := append(slices.Clone(picks), 9, 0, 9)
		was := slices.Clone(room)
		l := room[:len(picks)]
		for n := -2; n <= 4; n++ {
			if Rest(l, n) != Rest(picks, n) || Fair(l, []bool{yes, yes}, n) != Fair(picks, []bool{yes, yes}, n) {
				t.Errorf("of %v, with room behind, the answers by %d are others", picks, n)
			}
		}
		if !slices.Equal(room, was) {
			t.Errorf("%v became %v", was, room)
		}
	}
}

// R1: nothing is kept from call to call: the same list, become another one, is answered as that one is.
func TestNothingIsKept(t *testing.T) {
	may, picks := []bool{no, no, no}, []int{0, 0, 0}
	for i := range 24 {
		may[i%3] = !may[i%3]
		picks[i%3] = i % 5
		for n := -1; n <= 4; n++ {
			if got, want := Pick(n, may), pickTold(n, may); got != want {
				t.Errorf("Pick(%d, %v) is %d, want %d", n, may, got, want)
			}
			if got, want := Turn(n, may), turnTold(n, may); got != want {
				t.Errorf("Turn(%d, %v) is %d, want %d", n, may, got, want)
			}
			if got, want := Rest(picks, n), restTold(picks, n); got != want {
				t.Errorf("Rest(%v, %d) is %d, want %d", picks, n, got, want)
			}
			if got, want := Fair(picks, may, n), fairTold(picks, may, n); got != want {
				t.Errorf("Fair(%v, %v, %d) is %v", picks, may, n, got)
			}
		}
	}
}
