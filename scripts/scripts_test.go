package scripts

import (
	"bytes"
	"math"
	"slices"
	"testing"

	"ragpicker/api"
)

const (
	minInt = math.MinInt
	maxInt = math.MaxInt
	most   = uint64(math.MaxUint64)
)

// rows: chapter 3's table, but for picks and what is none, written out anew, so that the program's own is held against
// something.
var rows = []struct {
	first byte
	kind  Kind
	more  []string
}{
	{128, CmJoin, nil},
	{129, CmLeave, []string{"thread"}},
	{130, CmSwitch, []string{"scheme"}},
	{131, CmGrow, []string{"segment"}},
	{132, CmShrink, []string{"segment"}},
	{133, CmWiden, nil},
	{134, CmNarrow, nil},
	{135, CmCall, []string{"thread", "op", "key", "value"}},
}

// right: may a byte be that number of a command?
func right(name string, b byte) bool {
	switch name {
	case "thread":
		return b <= 15
	case "scheme":
		return b == 1 || b == 2 || b == 4
	case "segment":
		return b <= 31
	case "op":
		return b <= 7
	}
	return true
}

// with a byte as that number of a command.
func with(c Cmd, name string, b byte) Cmd {
	switch name {
	case "thread":
		c.Thread = int(b)
	case "scheme":
		c.Scheme = api.Scheme(b)
	case "segment":
		c.At = int(b)
	case "op":
		c.Op = Op(b)
	case "key":
		c.Key = uint64(b)
	case "value":
		c.Value = uint64(b)
	}
	return c
}

// told: the command at a place of bytes that all count, by the table; it is one that there is.
func told(b []byte, at int) Cmd {
	if b[at] < 128 {
		return Cmd{Kind: CmPick, From: at, To: at + 1, At: int(b[at])}
	}
	for _, r := range rows {
		if r.first != b[at] {
			continue
		}
		c := Cmd{Kind: r.kind}
		for i, name := range r.more {
			place := at + 1 + i
			if place == len(b) {
				return Cmd{From: at, To: place}
			}
			if !right(name, b[place]) {
				c.Kind = CmNone
			}
			c = with(c, name, b[place])
		}
		to := at + 1 + len(r.more)
		if c.Kind == CmNone {
			return Cmd{From: at, To: to}
		}
		c.From, c.To = at, to
		return c
	}
	return Cmd{From: at, To: at + 1}
}

// allTold: the commands of a script, by the table.
func allTold(b []byte) []Cmd {
	if len(b) > 65536 {
		b = b[:65536]
	}
	var l []Cmd
	for at := 0; at < len(b); {
		c := told(b, at)
		l = append(l, c)
		at = c.To
	}
	return l
}

// number below n, of numbers that are always the same ones.
type numbers uint64

func (x *numbers) below(n int) int {
	*x ^= *x << 13
	*x ^= *x >> 7
	*x ^= *x << 17
	return int(*x >> 33 % numbers(n))
}

// script of n bytes, in which each kind is often, and whole or not, right or wrong.
func (x *numbers) script(n int) []byte {
	b := make([]byte, n)
	for i := range b {
		switch x.below(4) {
		case 0:
			b[i] = byte(x.below(256))
		case 1:
			b[i] = byte(126 + x.below(12))
		default:
			b[i] = byte(x.below(18))
		}
	}
	return b
}

// command that may be.
func (x *numbers) command() Cmd {
	if x.below(3) == 0 {
		return Cmd{Kind: CmPick, At: x.below(128)}
	}
	r := rows[x.below(len(rows))]
	c := Cmd{Kind: r.kind}
	for _, name := range r.more {
		b := byte(x.below(256))
		for !right(name, b) {
			b = byte(x.below(256))
		}
		c = with(c, name, b)
	}
	return c
}

// picksOf: as many bytes, each a command of its own.
func picksOf(n int) []byte { return bytes.Repeat([]byte{7}, n) }

// samples: commands that may be, one of each kind at least, at the edges of their numbers.
func samples() []Cmd {
	return []Cmd{
		{Kind: CmPick},
		{Kind: CmPick, At: 127},
		{Kind: CmJoin},
		{Kind: CmLeave},
		{Kind: CmLeave, Thread: api.MaxThreads - 1},
		{Kind: CmSwitch, Scheme: api.ScEBR},
		{Kind: CmSwitch, Scheme: api.ScHP},
		{Kind: CmSwitch, Scheme: api.ScIBR},
		{Kind: CmGrow},
		{Kind: CmGrow, At: api.MaxSegs - 1},
		{Kind: CmShrink},
		{Kind: CmShrink, At: api.MaxSegs - 1},
		{Kind: CmWiden},
		{Kind: CmNarrow},
		{Kind: CmCall},
		{Kind: CmCall, Thread: api.MaxThreads - 1, Op: OpGet, Key: 255, Value: 255},
		{Kind: CmCall, Thread: 1, Op: OpPop, Key: 2, Value: 3},
	}
}

// wrong commands, each but for one thing such as may be.
func wrong() map[string]Cmd {
	return map[string]Cmd{
		"empty":             {},
		"none":              {Kind: CmNone, To: 1},
		"kind 10":           {Kind: 10},
		"kind 11":           {Kind: 11},
		"kind 128":          {Kind: 128},
		"kind 135":          {Kind: 135},
		"kind 255":          {Kind: 255},
		"pick 128":          {Kind: CmPick, At: 128},
		"pick 131":          {Kind: CmPick, At: 131}, // its byte would be a CmGrow's
		"pick 255":          {Kind: CmPick, At: 255},
		"pick 256":          {Kind: CmPick, At: 256},
		"pick -1":           {Kind: CmPick, At: -1},
		"pick least":        {Kind: CmPick, At: minInt},
		"pick greatest":     {Kind: CmPick, At: maxInt},
		"leave 16":          {Kind: CmLeave, Thread: api.MaxThreads},
		"leave 255":         {Kind: CmLeave, Thread: 255},
		"leave 256":         {Kind: CmLeave, Thread: 256},
		"leave -1":          {Kind: CmLeave, Thread: -1},
		"leave least":       {Kind: CmLeave, Thread: minInt},
		"leave greatest":    {Kind: CmLeave, Thread: maxInt},
		"switch 0":          {Kind: CmSwitch},
		"switch 3":          {Kind: CmSwitch, Scheme: 3},
		"switch 5":          {Kind: CmSwitch, Scheme: 5},
		"switch 6":          {Kind: CmSwitch, Scheme: 6},
		"switch 7":          {Kind: CmSwitch, Scheme: 7},
		"switch 8":          {Kind: CmSwitch, Scheme: 8},
		"switch 255":        {Kind: CmSwitch, Scheme: 255},
		"grow 32":           {Kind: CmGrow, At: api.MaxSegs},
		"grow 256":          {Kind: CmGrow, At: 256},
		"grow -1":           {Kind: CmGrow, At: -1},
		"grow least":        {Kind: CmGrow, At: minInt},
		"grow greatest":     {Kind: CmGrow, At: maxInt},
		"shrink 32":         {Kind: CmShrink, At: api.MaxSegs},
		"shrink 256":        {Kind: CmShrink, At: 256},
		"shrink -1":         {Kind: CmShrink, At: -1},
		"shrink least":      {Kind: CmShrink, At: minInt},
		"shrink greatest":   {Kind: CmShrink, At: maxInt},
		"call 16":           {Kind: CmCall, Thread: api.MaxThreads},
		"call 256":          {Kind: CmCall, Thread: 256},
		"call -1":           {Kind: CmCall, Thread: -1},
		"call least":        {Kind: CmCall, Thread: minInt},
		"call greatest":     {Kind: CmCall, Thread: maxInt},
		"op 8":              {Kind: CmCall, Op: OpGet + 1},
		"op 255":            {Kind: CmCall, Op: 255},
		"key 256":           {Kind: CmCall, Key: 256},
		"key of high bits":  {Kind: CmCall, Key: 1<<32 + 1},
		"key greatest":      {Kind: CmCall, Key: most},
		"value 256":         {Kind: CmCall, Value: 256},
		"value, high bits":  {Kind: CmCall, Value: 1<<63 + 1},
		"value greatest":    {Kind: CmCall, Value: most},
		"none, but a field": {At: 1},
	}
}

// fields of a command that some kinds name, each with a change that leaves the others.
var fields = []struct {
	name  string
	kinds []Kind // those that name it
	set   func(c *Cmd)
}{
	{"At", []Kind{CmPick, CmGrow, CmShrink}, func(c *Cmd) { c.At = 1 }},
	{"At -1", []Kind{CmPick, CmGrow, CmShrink}, func(c *Cmd) { c.At = -1 }},
	{"At 256", []Kind{CmPick, CmGrow, CmShrink}, func(c *Cmd) { c.At = 256 }},
	{"Thread", []Kind{CmLeave, CmCall}, func(c *Cmd) { c.Thread = 1 }},
	{"Thread -1", []Kind{CmLeave, CmCall}, func(c *Cmd) { c.Thread = -1 }},
	{"Thread 256", []Kind{CmLeave, CmCall}, func(c *Cmd) { c.Thread = 256 }},
	{"Scheme", []Kind{CmSwitch}, func(c *Cmd) { c.Scheme = api.ScHP }},
	{"Op", []Kind{CmCall}, func(c *Cmd) { c.Op = OpDelete }},
	{"Key", []Kind{CmCall}, func(c *Cmd) { c.Key = 1 }},
	{"Key 256", []Kind{CmCall}, func(c *Cmd) { c.Key = 256 }},
	{"Value", []Kind{CmCall}, func(c *Cmd) { c.Value = 1 }},
	{"Value 1 << 63", []Kind{CmCall}, func(c *Cmd) { c.Value = 1 << 63 }},
}

// bare: without its bytes.
func bare(c Cmd) Cmd {
	c.From, c.To = 0, 0
	return c
}

// Kinds and ops have the chapter's numbers.
func TestNumbers(t *testing.T) {
	for i, k := range []Kind{CmNone, CmPick, CmJoin, CmLeave, CmSwitch, CmGrow, CmShrink, CmWiden, CmNarrow, CmCall} {
		if int(k) != i {
			t.Errorf("kind %d has the number %d", i, k)
		}
	}
	for i, o := range []Op{OpInsert, OpDelete, OpHas, OpPush, OpPop, OpSet, OpUnset, OpGet} {
		if int(o) != i {
			t.Errorf("op %d has the number %d", i, o)
		}
	}
}

// P3.1, P3.2, P3.3: chapter 3's examples.
func TestExamples(t *testing.T) {
	want := []Cmd{
		{Kind: CmPick, From: 0, To: 1, At: 5},
		{Kind: CmCall, From: 1, To: 6, Thread: 1, Op: OpInsert, Key: 7, Value: 9},
		{Kind: CmNone, From: 6, To: 7},
	}
	if got := Parse([]byte{5, 135, 1, 0, 7, 9, 129}); !slices.Equal(got, want) {
		t.Errorf("Parse is %+v", got)
	}
	if c, ok := Next([]byte{130, 3}, 0); !ok || c != (Cmd{To: 2}) {
		t.Errorf("Next is %+v, %v", c, ok)
	}
	if b, ok := Write([]Cmd{{Kind: CmJoin}, {Kind: CmPick, At: 127}}); !ok || !slices.Equal(b, []byte{128, 127}) {
		t.Errorf("Write is %v, %v", b, ok)
	}
}

// P3.1: commands written out by hand, each with all of its numbers unlike.
func TestNextByHand(t *testing.T) {
	for _, c := range []struct {
		b    []byte
		want Cmd
	}{
		{[]byte{0}, Cmd{Kind: CmPick, To: 1}},
		{[]byte{127}, Cmd{Kind: CmPick, To: 1, At: 127}},
		{[]byte{128}, Cmd{Kind: CmJoin, To: 1}},
		{[]byte{129, 15}, Cmd{Kind: CmLeave, To: 2, Thread: 15}},
		{[]byte{129, 16}, Cmd{To: 2}},
		{[]byte{130, 4}, Cmd{Kind: CmSwitch, To: 2, Scheme: api.ScIBR}},
		{[]byte{131, 31}, Cmd{Kind: CmGrow, To: 2, At: 31}},
		{[]byte{131, 32}, Cmd{To: 2}},
		{[]byte{132, 30}, Cmd{Kind: CmShrink, To: 2, At: 30}},
		{[]byte{132, 32}, Cmd{To: 2}},
		{[]byte{133}, Cmd{Kind: CmWiden, To: 1}},
		{[]byte{134}, Cmd{Kind: CmNarrow, To: 1}},
		{[]byte{135, 3, 6, 255, 254}, Cmd{Kind: CmCall, To: 5, Thread: 3, Op: OpUnset, Key: 255, Value: 254}},
		{[]byte{135, 16, 6, 255, 254}, Cmd{To: 5}},
		{[]byte{135, 3, 8, 255, 254}, Cmd{To: 5}},
		{[]byte{135, 3, 6, 255}, Cmd{To: 4}},
		{[]byte{135, 16}, Cmd{To: 2}}, // wrong, and too soon: with those that there are
		{[]byte{136}, Cmd{To: 1}},
		{[]byte{255}, Cmd{To: 1}},
	} {
		if got, ok := Next(c.b, 0); !ok || got != c.want {
			t.Errorf("Next of %v is %+v, %v, want %+v", c.b, got, ok, c.want)
		}
	}
}

// P3.1: every first byte, alone, and ahead of others that are right or not.
func TestFirstBytes(t *testing.T) {
	for first := range 256 {
		for _, behind := range [][]byte{nil, {0}, {0, 0, 0, 0, 0}, {1, 2, 3, 4, 5, 6}, {128, 128, 128, 128, 128}, {255, 255, 255, 255, 255}} {
			b := append([]byte{byte(first)}, behind...)
			if got, ok := Next(b, 0); !ok || got != told(b, 0) {
				t.Errorf("Next of %v is %+v, %v, want %+v", b, got, ok, told(b, 0))
			}
			if got := Parse(b); !slices.Equal(got, allTold(b)) {
				t.Errorf("Parse of %v is %+v, want %+v", b, got, allTold(b))
			}
		}
	}
}

// P3.1: each byte that belongs to a command, from 0 to 255, the others being right; a command follows.
func TestMoreBytes(t *testing.T) {
	for _, r := range rows {
		for i, name := range r.more {
			for n := range 256 {
				b := append([]byte{r.first}, []byte{1, 2, 4, 8}[:len(r.more)]...)
				b[1+i] = byte(n)
				to := len(b)
				b = append(b, 133)
				c, ok := Next(b, 0)
				if !ok || c != told(b, 0) || c.From != 0 || c.To != to {
					t.Errorf("Next of %v is %+v, %v, want %+v", b, c, ok, told(b, 0))
				}
				if (c.Kind == r.kind) != right(name, byte(n)) {
					t.Errorf("%s %d of kind %d: Next is %+v", name, n, r.kind, c)
				}
				if l := Parse(b); len(l) != 2 || l[0] != c || l[1] != (Cmd{Kind: CmWiden, From: to, To: to + 1}) {
					t.Errorf("Parse of %v is %+v", b, l)
				}
			}
		}
	}
}

// P3.1: a command whose bytes end too soon, at each place, is CmNone, with those that there are.
func TestTooSoon(t *testing.T) {
	for _, r := range rows {
		whole := append([]byte{5, r.first}, []byte{1, 2, 4, 8}[:len(r.more)]...)
		for n := 2; n < len(whole); n++ {
			b := whole[:n:n]
			if c, ok := Next(b, 1); !ok || c != (Cmd{From: 1, To: n}) {
				t.Errorf("Next of %v is %+v, %v", b, c, ok)
			}
			if c, ok := Next(whole[:n], 1); !ok || c != (Cmd{From: 1, To: n}) { // what lies behind is no part of it
				t.Errorf("Next of %v, with room behind, is %+v, %v", b, c, ok)
			}
			if l := Parse(b); !slices.Equal(l, []Cmd{{Kind: CmPick, To: 1, At: 5}, {From: 1, To: n}}) {
				t.Errorf("Parse of %v is %+v", b, l)
			}
		}
		if c, ok := Next(whole, 1); !ok || c.Kind != r.kind || c.From != 1 || c.To != len(whole) {
			t.Errorf("Next of %v is %+v, %v", whole, c, ok)
		}
	}
}

// P3.1: places where no byte stands.
func TestNoPlace(t *testing.T) {
	for _, b := range [][]byte{nil, {}, {128}, {135, 1, 0, 7, 9}, picksOf(300), picksOf(65536), picksOf(65537), picksOf(70000)} {
		n := min(len(b), 65536)
		for _, at := range []int{minInt, minInt + 1, -65536, -256, -2, -1, n, n + 1, n + 4, n + 5, len(b), len(b) + 1, 1 << 32, maxInt - 4, maxInt - 1, maxInt} {
			if c, ok := Next(b, at); ok || c != (Cmd{}) {
				t.Errorf("%d bytes: Next at %d is %+v, %v", len(b), at, c, ok)
			}
		}
	}
}

// P3.1: each place of a script, also one amid a command's bytes.
func TestAllPlaces(t *testing.T) {
	b := []byte{5, 135, 1, 0, 129, 131, 3, 130, 130, 1, 135, 135, 135, 135, 135, 2, 200, 128, 132, 32, 129}
	for at := range b {
		if c, ok := Next(b, at); !ok || c != told(b, at) {
			t.Errorf("Next at %d is %+v, %v, want %+v", at, c, ok, told(b, at))
		}
	}
}

// P3.2: no bytes, no commands.
func TestParseNothing(t *testing.T) {
	for _, b := range [][]byte{nil, {}, make([]byte, 0, 9)} {
		if l := Parse(b); len(l) != 0 {
			t.Errorf("Parse of no bytes is %+v", l)
		}
	}
}

// P3.1, P3.2: of bytes that are one command each the first MaxScript ones count, and no others.
func TestMaxScript(t *testing.T) {
	for _, n := range []int{65534, 65535, 65536, 65537, 65538, 66000, 131073} {
		counts := min(n, 65536)
		if l := Parse(picksOf(n)); !slices.Equal(l, allTold(picksOf(counts))) {
			t.Errorf("Parse of %d picks are %d, the last one %+v", n, len(l), l[len(l)-1])
		}
		if c, ok := Next(picksOf(n), counts-1); !ok || c != (Cmd{Kind: CmPick, From: counts - 1, To: counts, At: 7}) {
			t.Errorf("Next at the end of %d picks is %+v, %v", n, c, ok)
		}
	}
}

// P3.1, P3.2: a command of each kind round about the end of the bytes that count: beyond it, it is CmNone.
func TestAcrossMaxScript(t *testing.T) {
	ahead := allTold(picksOf(65536))
	for _, r := range rows {
		command := append([]byte{r.first}, []byte{1, 2, 4, 8}[:len(r.more)]...)
		for at := 65530; at <= 65536; at++ {
			script := append(append(picksOf(at), command...), picksOf(9)...)
			for _, b := range [][]byte{script, script[:at+len(command)], script[:65536]} {
				counts := b[:min(len(b), 65536)]
				want := slices.Clone(ahead[:at])
				for place := at; place < len(counts); place = want[len(want)-1].To {
					want = append(want, told(counts, place))
				}
				if l := Parse(b); !slices.Equal(l, want) {
					t.Errorf("%d of %d bytes: Parse ends with %+v, want %+v", at, len(b), l[len(l)-1], want[len(want)-1])
				}
				if at == len(counts) {
					continue
				}
				if c, ok := Next(b, at); !ok || c != want[at] {
					t.Errorf("Next at %d of %d bytes is %+v, %v, want %+v", at, len(b), c, ok, want[at])
				}
			}
			if at < 65536 && at+len(command) > 65536 {
				if c, ok := Next(script, at); !ok || c != (Cmd{From: at, To: 65536}) {
					t.Errorf("Next at %d, beyond the end, is %+v, %v", at, c, ok)
				}
			}
		}
	}
}

// P3.3: what may be, in full: each kind with each of its numbers.
func TestMayAll(t *testing.T) {
	n := 0
	count := func(c Cmd, want bool) {
		n++
		if May(c) != want {
			t.Errorf("May(%+v) is %v", c, !want)
		}
	}
	for i := -300; i < 600; i++ {
		count(Cmd{Kind: CmPick, At: i}, i >= 0 && i <= 127)
		count(Cmd{Kind: CmGrow, At: i}, i >= 0 && i <= 31)
		count(Cmd{Kind: CmShrink, At: i}, i >= 0 && i <= 31)
		count(Cmd{Kind: CmLeave, Thread: i}, i >= 0 && i <= 15)
		for _, o := range []Op{OpInsert, OpHas, OpGet} {
			count(Cmd{Kind: CmCall, Thread: i, Op: o, Key: 3}, i >= 0 && i <= 15)
		}
	}
	for i := range 256 {
		count(Cmd{Kind: Kind(i)}, i >= 1 && i <= 9 && i != 4) // of a switch 0 is no scheme
		count(Cmd{Kind: CmSwitch, Scheme: api.Scheme(i)}, i == 1 || i == 2 || i == 4)
		count(Cmd{Kind: CmCall, Op: Op(i)}, i <= 7)
	}
	for i := range uint64(600) {
		count(Cmd{Kind: CmCall, Key: i}, i <= 255)
		count(Cmd{Kind: CmCall, Value: i}, i <= 255)
		count(Cmd{Kind: CmCall, Thread: 15, Op: 7, Key: i, Value: 255}, i <= 255)
		count(Cmd{Kind: CmCall, Thread: 15, Op: 7, Key: 255, Value: i}, i <= 255)
	}
	if n != 7*900+3*256+4*600 {
		t.Errorf("%d commands were asked for", n)
	}
}

// P3.3: what may not be, for each reason; and it is not written, alone or among others.
func TestWrong(t *testing.T) {
	for _, c := range samples() {
		if !May(c) {
			t.Errorf("May(%+v) is false", c)
		}
	}
	for name, c := range wrong() {
		if May(c) {
			t.Errorf("%s: May(%+v) is true", name, c)
		}
		l := samples()
		for at := range len(l) + 1 {
			if b, ok := Write(slices.Insert(slices.Clone(l), at, c)); ok || len(b) != 0 {
				t.Errorf("%s at %d of %d: Write is %v, %v", name, at, len(l), b, ok)
			}
		}
		if b, ok := Write([]Cmd{c}); ok || len(b) != 0 {
			t.Errorf("%s alone: Write is %v, %v", name, b, ok)
		}
	}
}

// P3.3: a field that is not named with a command's kind is 0.
func TestFieldsNotNamed(t *testing.T) {
	for _, c := range samples() {
		for _, f := range fields {
			if slices.Contains(f.kinds, c.Kind) {
				continue
			}
			c := c
			f.set(&c)
			if May(c) {
				t.Errorf("%s: May(%+v) is true", f.name, c)
			}
			if b, ok := Write([]Cmd{{Kind: CmJoin}, c}); ok || len(b) != 0 {
				t.Errorf("%s: Write of %+v is %v, %v", f.name, c, b, ok)
			}
		}
	}
}

// P3.3: From and To do not count.
func TestBytesDoNotCount(t *testing.T) {
	places := []int{minInt, -1, 0, 1, 2, 5, 65536, 65537, maxInt}
	for _, from := range places {
		for _, to := range places {
			for _, c := range samples() {
				want, _ := Write([]Cmd{c})
				c.From, c.To = from, to
				if !May(c) {
					t.Errorf("May(%+v) is false", c)
				}
				if b, ok := Write([]Cmd{c}); !ok || !slices.Equal(b, want) {
					t.Errorf("Write of %+v is %v, %v, want %v", c, b, ok, want)
				}
			}
			for name, c := range wrong() {
				c.From, c.To = from, to
				if May(c) {
					t.Errorf("%s: May(%+v) is true", name, c)
				}
			}
		}
	}
}

// P3.3: commands' bytes, one by one, and all of them one behind the other.
func TestWrite(t *testing.T) {
	want := [][]byte{
		{0}, {127}, {128}, {129, 0}, {129, 15}, {130, 1}, {130, 2}, {130, 4}, {131, 0}, {131, 31}, {132, 0}, {132, 31},
		{133}, {134}, {135, 0, 0, 0, 0}, {135, 15, 7, 255, 255}, {135, 1, 4, 2, 3},
	}
	for i, c := range samples() {
		if b, ok := Write([]Cmd{c}); !ok || !slices.Equal(b, want[i]) {
			t.Errorf("Write of %+v is %v, %v, want %v", c, b, ok, want[i])
		}
	}
	if b, ok := Write(samples()); !ok || !slices.Equal(b, slices.Concat(want...)) {
		t.Errorf("Write of all is %v, %v", b, ok)
	}
	for _, l := range [][]Cmd{nil, {}} {
		if b, ok := Write(l); !ok || len(b) != 0 {
			t.Errorf("Write of no commands is %v, %v", b, ok)
		}
	}
}

// P3.3: what is written has no end at MaxScript bytes; what is read has.
func TestWriteMany(t *testing.T) {
	for _, n := range []int{13106, 13107, 13108, 14000} { // of 5 bytes each: 65535 are those of 13107
		l := slices.Repeat([]Cmd{{Kind: CmCall, Thread: 2, Op: OpPush, Key: 3, Value: 4}}, n)
		b, ok := Write(l)
		if !ok || !slices.Equal(b, bytes.Repeat([]byte{135, 2, 3, 3, 4}, n)) {
			t.Errorf("Write of %d calls is %d bytes, %v", n, len(b), ok)
		}
		if got, want := Parse(b), allTold(b); !slices.Equal(got, want) {
			t.Errorf("Parse of %d calls has %d commands, want %d", n, len(got), len(want))
		}
	}
}

// P3.4: commands' bytes are those that count, one behind the other, of whatever bytes.
func TestBytesOnce(t *testing.T) {
	x := numbers(88172645463325252)
	for i := range 3000 {
		n := i % 60
		if i%500 == 0 {
			n = 65530 + i/250
		}
		b := x.script(n)
		l, at := Parse(b), 0
		for _, c := range l {
			if next, ok := Next(b, at); !ok || next != c {
				t.Fatalf("Next at %d of %d bytes is %+v, %v, want %+v", at, n, next, ok, c)
			}
			if c.From != at || c.To <= c.From {
				t.Fatalf("command at %d of %d bytes has the bytes %d to %d", at, n, c.From, c.To)
			}
			at = c.To
			if c.Kind == CmNone {
				if bare(c) != (Cmd{}) || May(c) {
					t.Fatalf("at %d of %d bytes is %+v", c.From, n, c)
				}
				continue
			}
			if w, ok := Write([]Cmd{c}); !ok || !slices.Equal(w, b[c.From:c.To]) {
				t.Fatalf("Write of %+v is %v, %v, want %v", c, w, ok, b[c.From:c.To])
			}
		}
		if at != min(n, 65536) {
			t.Fatalf("commands of %d bytes end at %d", n, at)
		}
		if !slices.Equal(l, allTold(b)) {
			t.Fatalf("Parse of %v is %+v, want %+v", b, l, allTold(b))
		}
	}
}

// P3.4: what is written is parsed as it was, each with its bytes.
func TestWrittenParsed(t *testing.T) {
	x := numbers(2463534242)
	for n := range 400 {
		var l []Cmd
		for range n {
			l = append(l, x.command())
		}
		b, ok := Write(l)
		if !ok {
			t.Fatalf("Write of %+v is false", l)
		}
		at := 0
		for i, c := range Parse(b) {
			if i >= n || bare(c) != l[i] || c.From != at {
				t.Fatalf("command %d of %d is %+v, at %d", i, n, c, at)
			}
			if own, _ := Write(l[i : i+1]); !slices.Equal(own, b[c.From:c.To]) {
				t.Fatalf("command %d, %+v, has the bytes %v, want %v", i, c, b[c.From:c.To], own)
			}
			at = c.To
		}
		if at != len(b) {
			t.Fatalf("%d commands of %d bytes end at %d", n, len(b), at)
		}
		if again, ok := Write(Parse(b)); !ok || !slices.Equal(again, b) {
			t.Fatalf("written again, %v are %v, %v", b, again, ok)
		}
	}
}

// P3.4: a script behind another one, whose last command was whole, has its commands there as if it stood alone.
func TestBehind(t *testing.T) {
	x := numbers(1234567891011)
	for i := range 2000 {
		one, two := x.script(i%40), x.script(i%37)
		whole, _ := Write([]Cmd{x.command()})
		one = append(one, 0, 0, 0, 0) // whatever came ahead is over
		one = append(one, whole...)
		want := Parse(one)
		for _, c := range Parse(two) {
			c.From, c.To = c.From+len(one), c.To+len(one)
			want = append(want, c)
		}
		if got := Parse(slices.Concat(one, two)); !slices.Equal(got, want) {
			t.Fatalf("Parse of %v, %v is %+v, want %+v", one, two, got, want)
		}
	}
	if got := Parse([]byte{129, 128}); !slices.Equal(got, []Cmd{{To: 2}}) { // of one that was not whole the other's byte is a part
		t.Errorf("Parse of a leave and a join is %+v", got)
	}
}

// R1: what is handed in stays as it is, with the room behind it.
func TestHandedIn(t *testing.T) {
	room := []byte{5, 135, 1, 0, 7, 9, 130, 3, 129, 131, 132, 133, 134, 135, 136}
	was := slices.Clone(room)
	for n := range len(room) + 1 {
		b := room[:n]
		Parse(b)
		for at := range n {
			Next(b, at)
		}
		if !slices.Equal(room, was) {
			t.Fatalf("%d bytes that were handed in are changed: %v", n, room)
		}
	}
	l := samples()
	for i := range l {
		l[i].From, l[i].To = i, -i
	}
	before := slices.Clone(l)
	for n := range len(l) + 1 {
		Write(l[:n])
		Write(append(l[:n:n], Cmd{}))
		if !slices.Equal(l, before) {
			t.Fatalf("%d commands that were handed in are changed: %+v", n, l)
		}
	}
}

// R1, R4: what is answered is memory of its own, with no room behind, and nothing of what was handed in is kept.
func TestOwn(t *testing.T) {
	for n := range 40 {
		b := picksOf(n)
		one, two := Parse(b), Parse(b)
		if len(one) != n || cap(one) != n {
			t.Errorf("%d picks: %d are parsed, with room for %d", n, len(one), cap(one))
		}
		clear(b)
		clear(one)
		if !slices.Equal(two, allTold(picksOf(n))) {
			t.Errorf("%d picks: what was parsed is changed: %+v", n, two)
		}
		l := slices.Repeat([]Cmd{{Kind: CmPick, At: 7}}, n)
		w, v := must(t, l), must(t, l)
		if len(w) != n || cap(w) != n {
			t.Errorf("%d picks: %d bytes are written, with room for %d", n, len(w), cap(w))
		}
		clear(l)
		clear(w)
		if !slices.Equal(v, picksOf(n)) {
			t.Errorf("%d picks: what was written is changed: %v", n, v)
		}
	}
	for n := range samples() {
		if b := must(t, samples()[:n+1]); cap(b) != len(b) {
			t.Errorf("%d bytes are written, with room for %d", len(b), cap(b))
		}
	}
}

// must: the bytes of commands that may be.
func must(t *testing.T, l []Cmd) []byte {
	t.Helper()
	b, ok := Write(l)
	if !ok {
		t.Fatalf("Write of %+v is false", l)
	}
	return b
}

// Whoever goes through the commands may leave.
func TestCommandsLeft(t *testing.T) {
	n := 0
	for c := range commands([]byte{128, 133, 134}) {
		n++
		if c.Kind == CmWiden {
			break
		}
	}
	if n != 2 {
		t.Errorf("%d commands were gone through, want 2", n)
	}
}
