package codec

import (
	"bytes"
	"math/rand"
	"slices"
	"strconv"
	"strings"
	"testing"

	"marcot/api"
	"marcot/node"
)

func put(k, v string) api.Msg { return api.Msg{Kind: api.Put, Key: k, Value: v} }

func del(k string) api.Msg { return api.Msg{Kind: api.Delete, Key: k} }

func far(k string, block uint32, deep uint16, add string) api.Msg {
	return api.Msg{Kind: api.Goto, Key: k, Block: block, Deep: deep, Add: add}
}

// by is a kid with a lift.
func by(block uint32, deep uint16, strip, add string) api.Edge {
	return api.Edge{Block: block, Deep: deep, Lift: api.Lift{Strip: strip, Add: add}}
}

func pair(k, v string) api.Pair { return api.Pair{Key: k, Value: v} }

func leaf(pairs ...api.Pair) api.Node { return api.Node{Leaf: true, Pairs: pairs} }

// long is a text of so many bytes, that begins with this one.
func long(size int, first byte) string { return string([]byte{first}) + strings.Repeat("\xff", size-1) }

// longPairs are so many pairs, as long as may be, whose keys rise.
func longPairs(n int) []api.Pair {
	var all []api.Pair
	for i := range n {
		all = append(all, pair(long(16, byte(i)), long(32, byte(i))))
	}
	return all
}

// longKids are so many kids, as long as may be.
func longKids(n int) []api.Edge {
	var all []api.Edge
	for i := range n {
		all = append(all, by(1<<32-1-uint32(i), 1<<16-1-uint16(i), long(16, byte(i)), long(16, byte(i)+100)))
	}
	return all
}

// longPivots are so many pivots, as long as may be, that rise.
func longPivots(n int) []string {
	var all []string
	for i := range n {
		all = append(all, long(16, byte(i)))
	}
	return all
}

// longMsgs are so many messages, as long as may be, of one Kind behind the other.
func longMsgs(n int) []api.Msg {
	var all []api.Msg
	for i := range n {
		k := long(16, byte(i))
		all = append(all, []api.Msg{put(k, long(32, byte(i))), far(k, 1<<31, 1<<15, long(16, byte(i)+50)), del(k)}[i%3])
	}
	return all
}

// mixed is a node with all that one with kids may have.
func mixed() api.Node {
	return api.Node{
		Pivots: []string{"b", "ba", "c"},
		Kids:   []api.Edge{by(1, 1, "", ""), by(0x01020304, 0x0506, "b", "xy"), by(0, 3, "ba", ""), by(4, 65535, "", "q")},
		Buffer: []api.Msg{put("bz", "old"), far("ca", 0xfffefdfc, 0x0708, "zz"), del("a"), put("", ""), del(""), far("", 0, 1, ""), put("bz", "new")},
	}
}

// text is a text's writing.
func text(s string) string { return string([]byte{byte(len(s))}) + s }

// sample is a node, and its writing by hand.
type sample struct {
	what    string
	n       api.Node
	written string
}

// samples are nodes that may be, of all sorts.
func samples() []sample {
	return []sample{
		{"the document's example", leaf(pair("a", "1")), "\x01\x01\x01a\x011"},
		{"a leaf of nothing", leaf(), "\x01\x00"},
		{"the empty key and value", leaf(pair("", "")), "\x01\x01\x00\x00"},
		{"three pairs", leaf(pair("", "v"), pair("\x00", ""), pair("\xff\xfe", "\x00\x01\x02")), "\x01\x03" + "\x00\x01v" + "\x01\x00\x00" + "\x02\xff\xfe\x03\x00\x01\x02"},
		{"16 pairs", leaf(longPairs(16)...), "\x01\x10" + pairsByHand(16)},
		{"a kid", api.Node{Kids: []api.Edge{by(0, 1, "", "")}}, "\x02\x01" + "\x00\x00\x00\x00\x00\x01\x00\x00" + "\x00"},
		{
			"a kid of the greatest numbers", api.Node{Kids: []api.Edge{by(1<<32-1, 1<<16-1, "s", "ad")}},
			"\x02\x01" + "\xff\xff\xff\xff\xff\xff\x01s\x02ad" + "\x00",
		},
		{
			"two kids", api.Node{Kids: []api.Edge{by(258, 2, "", ""), by(3, 1, "m", "x")}, Pivots: []string{"m"}},
			"\x02\x02" + "\x00\x00\x01\x02\x00\x02\x00\x00" + "\x00\x00\x00\x03\x00\x01\x01m\x01x" + "\x01m" + "\x00",
		},
		{
			"a Put", api.Node{Kids: []api.Edge{by(1, 1, "", "")}, Buffer: []api.Msg{put("k", "va")}},
			"\x02\x01" + "\x00\x00\x00\x01\x00\x01\x00\x00" + "\x01" + "\x01\x01k\x02va",
		},
		{
			"a Delete", api.Node{Kids: []api.Edge{by(1, 1, "", "")}, Buffer: []api.Msg{del("k")}},
			"\x02\x01" + "\x00\x00\x00\x01\x00\x01\x00\x00" + "\x01" + "\x02\x01k",
		},
		{
			"a Goto", api.Node{Kids: []api.Edge{by(1, 1, "", "")}, Buffer: []api.Msg{far("k", 0x01020304, 0x0506, "add")}},
			"\x02\x01" + "\x00\x00\x00\x01\x00\x01\x00\x00" + "\x01" + "\x03\x01k\x01\x02\x03\x04\x05\x06\x03add",
		},
		{
			"all of it", mixed(),
			"\x02\x04" + "\x00\x00\x00\x01\x00\x01\x00\x00" + "\x01\x02\x03\x04\x05\x06\x01b\x02xy" + "\x00\x00\x00\x00\x00\x03\x02ba\x00" + "\x00\x00\x00\x04\xff\xff\x00\x01q" +
				"\x01b" + "\x02ba" + "\x01c" +
				"\x07" + "\x01\x02bz\x03old" + "\x03\x02ca\xff\xfe\xfd\xfc\x07\x08\x02zz" + "\x02\x01a" + "\x01\x00\x00" + "\x02\x00" + "\x03\x00\x00\x00\x00\x00\x00\x01\x00" + "\x01\x02bz\x03new",
		},
		{
			"8 kids, 16 messages", api.Node{Kids: longKids(8), Pivots: longPivots(7), Buffer: longMsgs(16)},
			"\x02\x08" + kidsByHand(8) + pivotsByHand(7) + "\x10" + msgsByHand(16),
		},
	}
}

func pairsByHand(n int) string {
	all := ""
	for _, p := range longPairs(n) {
		all += "\x10" + p.Key + "\x20" + p.Value
	}
	return all
}

func kidsByHand(n int) string {
	all := ""
	for i, kid := range longKids(n) {
		all += "\xff\xff\xff" + string([]byte{0xff - byte(i)}) + "\xff" + string([]byte{0xff - byte(i)}) + "\x10" + kid.Lift.Strip + "\x10" + kid.Lift.Add
	}
	return all
}

func pivotsByHand(n int) string {
	all := ""
	for _, pivot := range longPivots(n) {
		all += "\x10" + pivot
	}
	return all
}

func msgsByHand(n int) string {
	all := ""
	for i, m := range longMsgs(n) {
		switch i % 3 {
		case 0:
			all += "\x01\x10" + m.Key + "\x20" + m.Value
		case 1:
			all += "\x03\x10" + m.Key + "\x80\x00\x00\x00\x80\x00\x10" + m.Add
		case 2:
			all += "\x02\x10" + m.Key
		}
	}
	return all
}

// nothing tells whether a node is the zero value.
func nothing(n api.Node) bool { return node.Same(n, api.Node{}) }

// asks tells how Get of s differs from an error alone; empty, if it doesn't.
func asks(s string, want api.Errno) string {
	n, e := Get([]byte(s))
	if e != want {
		return "Get of " + strconv.Quote(s) + ": " + e.Error() + ", not " + want.Error()
	}
	if want != api.OK && !nothing(n) {
		return "Get of " + strconv.Quote(s) + ": a node beside " + e.Error()
	}
	return ""
}

// P8.1, P8.2: each node's writing, and each writing's node, by hand.
func TestThereAndBack(t *testing.T) {
	for _, s := range samples() {
		b, e := Put(s.n)
		if e != api.OK || string(b) != s.written {
			t.Errorf("%s: Put: %q %v, not %q", s.what, b, e, s.written)
		}
		n, e := Get([]byte(s.written))
		if e != api.OK || !node.Same(n, s.n) {
			t.Errorf("%s: Get: %#v %v, not %#v", s.what, n, e, s.n)
		}
	}
}

// P8.1: the longest node that may be fits into a block.
func TestLongest(t *testing.T) {
	n := api.Node{Kids: longKids(8), Pivots: longPivots(7)}
	for range 16 {
		n.Buffer = append(n.Buffer, put(long(16, 1), long(32, 1)))
	}
	b, e := Put(n)
	if e != api.OK || len(b) != 2+8*40+7*17+1+16*51 || len(b) > api.MaxBody {
		t.Errorf("%d bytes, %v", len(b), e)
	}
	if got, e := Get(b); e != api.OK || !node.Same(got, n) {
		t.Errorf("read as %#v %v", got, e)
	}
}

// fork is a node with so many short kids and pivots, and these messages.
func fork(kids, pivots int, buffer ...api.Msg) api.Node {
	n := api.Node{Buffer: buffer}
	for i := range kids {
		n.Kids = append(n.Kids, by(uint32(i), 1, "", ""))
	}
	for i := range pivots {
		n.Pivots = append(n.Pivots, string([]byte{byte(i) + 1}))
	}
	return n
}

// P8.1, P0.2: Put of a node that may not be: the error of layer 7, and no bytes.
func TestPutOfWrong(t *testing.T) {
	puts := func(n int) []api.Msg { return slices.Repeat([]api.Msg{put("k", "")}, n) }
	for _, c := range []struct {
		what string
		n    api.Node
		want api.Errno
	}{
		{"17 pairs", leaf(longPairs(17)...), api.ErrMany},
		{"300 pairs", leaf(longPairs(300)...), api.ErrMany},
		{"17 pairs that fall", leaf(slices.Repeat(longPairs(1), 17)...), api.ErrMany},
		{"9 kids", fork(9, 8), api.ErrMany},
		{"257 kids", fork(257, 256), api.ErrMany},
		{"9 kids, no pivot", fork(9, 0), api.ErrMany},
		{"17 messages", fork(1, 0, puts(17)...), api.ErrMany},
		{"257 messages", fork(1, 0, puts(257)...), api.ErrMany},
		{"17 messages, no kids", fork(0, 0, puts(17)...), api.ErrMany},
		{"a leaf with 9 kids", api.Node{Leaf: true, Kids: longKids(9)}, api.ErrMany},
		{"17 pairs, and a kid", api.Node{Kids: longKids(1), Pairs: longPairs(17)}, api.ErrMany},
		{"neither pairs nor kids", api.Node{}, api.ErrForm},
		{"no kids, a message", fork(0, 0, del("a")), api.ErrForm},
		{"a pivot too many", fork(2, 2), api.ErrForm},
		{"a pivot too few", fork(2, 0), api.ErrForm},
		{"8 kids, 6 pivots", fork(8, 6), api.ErrForm},
		{"a leaf with a kid", api.Node{Leaf: true, Kids: longKids(1)}, api.ErrForm},
		{"a leaf with a pivot", api.Node{Leaf: true, Pivots: longPivots(1)}, api.ErrForm},
		{"a leaf with a message", api.Node{Leaf: true, Buffer: puts(1)}, api.ErrForm},
		{"kids and a pair", api.Node{Kids: longKids(1), Pairs: longPairs(1)}, api.ErrForm},
		{"a key twice", leaf(pair("a", ""), pair("a", "")), api.ErrForm},
		{"keys that fall", leaf(pair("b", ""), pair("a", "")), api.ErrForm},
		{"a key of 17 bytes", leaf(pair(long(17, 0), "")), api.ErrForm},
		{"a key of 300 bytes", leaf(pair(long(300, 0), "")), api.ErrForm},
		{"a value of 33 bytes", leaf(pair("", long(33, 0))), api.ErrForm},
		{"a pivot of 17 bytes", api.Node{Kids: longKids(2), Pivots: []string{long(17, 0)}}, api.ErrForm},
		{"an empty pivot", api.Node{Kids: longKids(2), Pivots: []string{""}}, api.ErrForm},
		{"a pivot twice", api.Node{Kids: longKids(3), Pivots: []string{"a", "a"}}, api.ErrForm},
		{"pivots that fall", api.Node{Kids: longKids(3), Pivots: []string{"b", "a"}}, api.ErrForm},
		{"a Deep of 0", api.Node{Kids: []api.Edge{by(1, 0, "", "")}}, api.ErrForm},
		{"a Strip of 17 bytes", api.Node{Kids: []api.Edge{by(1, 1, long(17, 0), "")}}, api.ErrForm},
		{"an Add of 17 bytes", api.Node{Kids: []api.Edge{by(1, 1, "", long(17, 0))}}, api.ErrForm},
		{"a message of no Kind", fork(1, 0, api.Msg{}), api.ErrForm},
		{"a message of the Kind 4", fork(1, 0, api.Msg{Kind: 4}), api.ErrForm},
		{"a Put of 17 bytes", fork(1, 0, put(long(17, 0), "")), api.ErrForm},
		{"a Put of a value of 33", fork(1, 0, put("", long(33, 0))), api.ErrForm},
		{"a Put with a Block", fork(1, 0, api.Msg{Kind: api.Put, Block: 1}), api.ErrForm},
		{"a Put with a Deep", fork(1, 0, api.Msg{Kind: api.Put, Deep: 1}), api.ErrForm},
		{"a Put with an Add", fork(1, 0, api.Msg{Kind: api.Put, Add: "a"}), api.ErrForm},
		{"a Delete with a Value", fork(1, 0, api.Msg{Kind: api.Delete, Value: "v"}), api.ErrForm},
		{"a Delete with a Block", fork(1, 0, api.Msg{Kind: api.Delete, Block: 1}), api.ErrForm},
		{"a Goto with a Value", fork(1, 0, api.Msg{Kind: api.Goto, Deep: 1, Value: "v"}), api.ErrForm},
		{"a Goto with a Deep of 0", fork(1, 0, far("a", 1, 0, "")), api.ErrForm},
		{"a Goto's Add of 17 bytes", fork(1, 0, far("a", 1, 1, long(17, 0))), api.ErrForm},
	} {
		if b, e := Put(c.n); e != c.want || len(b) != 0 {
			t.Errorf("%s: %q %v, not %v", c.what, b, e, c.want)
		}
		if e := node.May(c.n); e != c.want {
			t.Errorf("%s: layer 7 says %v, not %v", c.what, e, c.want)
		}
	}
}

// P8.1: of each beginning of a writing a byte isn't there; with a byte more one is left.
func TestEnds(t *testing.T) {
	for _, s := range samples() {
		for upto := range len(s.written) {
			if wrong := asks(s.written[:upto], api.ErrShort); wrong != "" {
				t.Fatalf("%s: %s", s.what, wrong)
			}
		}
		for last := range 256 {
			if wrong := asks(s.written+string([]byte{byte(last)}), api.ErrLong); wrong != "" {
				t.Fatalf("%s: %s", s.what, wrong)
			}
		}
		if wrong := asks(s.written+s.written, api.ErrLong); wrong != "" {
			t.Fatalf("%s: %s", s.what, wrong)
		}
	}
}

// tails are what may stand behind a byte that tells an error: nothing, and something that is wrong in another way.
var tails = []string{"", "\x00", "\x01", "\xff", "\x00\x00\x00\x00\x00\x00\x00\x00\x00\x00\x00\x00", strings.Repeat("\xff", 3000)}

// What stands ahead of a byte that is asked.
const (
	edge  = "\x00\x00\x00\x01\x00\x01\x00\x00"
	alone = "\x02\x01" + edge // a kid; behind it messages are counted
	two   = "\x02\x02" + edge + edge
)

// tellsAt asks each byte at a place: those of which bad tells an error are told as that, whatever stands behind;
// behind the others, if the bytes end there, at most more bytes are missing.
func tellsAt(t *testing.T, what, ahead string, bad func(x int) api.Errno) {
	t.Helper()
	for x := range 256 {
		s := ahead + string([]byte{byte(x)})
		want := bad(x)
		if _, e := Get([]byte(s)); want == api.OK && e != api.OK && e != api.ErrShort {
			t.Errorf("%s: Get of %q: %v", what, s, e)
		}
		if want == api.OK {
			continue
		}
		for _, tail := range tails {
			if wrong := asks(s+tail, want); wrong != "" {
				t.Errorf("%s: %s", what, wrong)
			}
		}
	}
}

// beyond is the error of a number above the greatest that may be.
func beyond(most int, e api.Errno) func(int) api.Errno {
	return func(x int) api.Errno {
		if x > most {
			return e
		}
		return api.OK
	}
}

// P8.1: the first byte is 1 or 2; a message's Kind is from 1 to 3; ErrKind of all others, there.
func TestKinds(t *testing.T) {
	tellsAt(t, "the first byte", "", func(x int) api.Errno {
		if x != 1 && x != 2 {
			return api.ErrKind
		}
		return api.OK
	})
	for what, ahead := range map[string]string{
		"a Kind":           alone + "\x01",
		"the second Kind":  alone + "\x02" + "\x02\x01a",
		"a Kind of two":    two + "\x01m" + "\x01",
		"the 16th Kind":    alone + "\x10" + strings.Repeat("\x02\x00", 15),
		"a Kind behind":    alone + "\x10" + "\x01\x01a\x01b",
		"one behind Gotos": alone + "\x03" + "\x03\x00\x00\x00\x00\x00\x00\x01\x00" + "\x03\x00\x00\x00\x00\x00\x00\x01\x00",
	} {
		tellsAt(t, what, ahead, func(x int) api.Errno {
			if x < 1 || x > 3 {
				return api.ErrKind
			}
			return api.OK
		})
	}
}

// P8.1: more than may be is ErrMany, and no kids ErrForm, at the byte that says so.
func TestCounts(t *testing.T) {
	tellsAt(t, "pairs", "\x01", beyond(16, api.ErrMany))
	tellsAt(t, "messages", alone, beyond(16, api.ErrMany))
	tellsAt(t, "messages of two", two+"\x01m", beyond(16, api.ErrMany))
	tellsAt(t, "kids", "\x02", func(x int) api.Errno {
		if x == 0 {
			return api.ErrForm
		}
		return beyond(8, api.ErrMany)(x)
	})
	for _, c := range []struct {
		s    string
		want api.Errno
	}{
		{"\x01\x10" + pairsByHand(16), api.OK},
		{"\x01\x11" + pairsByHand(17), api.ErrMany},
		{"\x02\x08" + kidsByHand(8) + pivotsByHand(7) + "\x00", api.OK},
		{"\x02\x09" + kidsByHand(9) + pivotsByHand(8) + "\x00", api.ErrMany},
		{alone + "\x10" + msgsByHand(16), api.OK},
		{alone + "\x11" + msgsByHand(17), api.ErrMany},
		{"\x02\x00" + "\x00", api.ErrForm},
		{"\x02\x00" + "\x01" + "\x02\x00", api.ErrForm},
	} {
		if wrong := asks(c.s, c.want); wrong != "" {
			t.Error(wrong)
		}
	}
}

// P8.1: a text of just as many bytes as may be is read; of one more it is ErrLong at the byte that says so.
func TestLongTexts(t *testing.T) {
	for _, c := range []struct {
		what   string
		ahead  string
		most   int
		behind string
	}{
		{"a pair's Key", "\x01\x01", 16, "\x00"},
		{"a pair's Value", "\x01\x01\x00", 32, ""},
		{"the second Key", "\x01\x02\x00\x00", 16, "\x00"},
		{"the second Value", "\x01\x02\x00\x00\x01a", 32, ""},
		{"a Strip", "\x02\x01\x00\x00\x00\x00\x00\x01", 16, "\x00\x00"},
		{"an Add", "\x02\x01\x00\x00\x00\x00\x00\x01\x00", 16, "\x00"},
		{"the second Strip", "\x02\x02" + edge + edge[:6], 16, "\x00\x01m\x00"},
		{"the second Add", "\x02\x02" + edge + edge[:7], 16, "\x01m\x00"},
		{"a Pivot", two, 16, "\x00"},
		{"the second Pivot", "\x02\x03" + edge + edge + edge + "\x01\x00", 16, "\x00"},
		{"a Put's Key", alone + "\x01\x01", 16, "\x00"},
		{"a Put's Value", alone + "\x01\x01\x00", 32, ""},
		{"a Delete's Key", alone + "\x01\x02", 16, ""},
		{"a Goto's Key", alone + "\x01\x03", 16, "\x00\x00\x00\x00\x00\x01\x00"},
		{"a Goto's Add", alone + "\x01\x03\x00\x00\x00\x00\x00\x00\x01", 16, ""},
		{"the second Put's Value", alone + "\x02\x02\x00\x01\x00", 32, ""},
	} {
		for _, size := range []int{c.most - 1, c.most} {
			if wrong := asks(c.ahead+text(long(size, 'a'))+c.behind, api.OK); wrong != "" {
				t.Errorf("%s of %d bytes: %s", c.what, size, wrong)
			}
		}
		for size := c.most + 1; size < 256; size++ {
			if wrong := asks(c.ahead+text(long(size, 'a'))+c.behind, api.ErrLong); wrong != "" {
				t.Fatalf("%s of %d bytes: %s", c.what, size, wrong)
			}
		}
		tellsAt(t, c.what, c.ahead, beyond(c.most, api.ErrLong))
	}
}

// P8.1: a node that is read whole, and may not be, is ErrForm; but with bytes left it is ErrLong.
func TestReadWhole(t *testing.T) {
	for what, s := range map[string]string{
		"keys that fall":         "\x01\x02\x01b\x00\x01a\x00",
		"a key twice":            "\x01\x02\x01a\x00\x01a\x011",
		"the empty key twice":    "\x01\x02\x00\x00\x00\x00",
		"the last keys fall":     "\x01\x03\x01a\x00\x01c\x00\x01b\x00",
		"a beginning behind":     "\x01\x02\x02aa\x00\x01a\x00",
		"an empty pivot":         two + "\x00" + "\x00",
		"an empty pivot ahead":   "\x02\x03" + edge + edge + edge + "\x00\x01a" + "\x00",
		"an empty pivot behind":  "\x02\x03" + edge + edge + edge + "\x01a\x00" + "\x00",
		"a pivot twice":          "\x02\x03" + edge + edge + edge + "\x01a\x01a" + "\x00",
		"pivots that fall":       "\x02\x03" + edge + edge + edge + "\x01b\x01a" + "\x00",
		"a Deep of 0":            "\x02\x01" + "\x00\x00\x00\x01\x00\x00\x00\x00" + "\x00",
		"the last Deep is 0":     "\x02\x02" + edge + "\x00\x00\x00\x01\x00\x00\x00\x00" + "\x01m" + "\x00",
		"a Goto of 0":            alone + "\x01" + "\x03\x00\x00\x00\x00\x01\x00\x00\x00",
		"the last Goto is of 0":  alone + "\x02" + "\x03\x00\x00\x00\x00\x01\x00\x01\x00" + "\x03\x01a\x00\x00\x00\x01\x00\x00\x00",
		"all of that at once":    "\x02\x03" + edge + edge + "\x00\x00\x00\x01\x00\x00\x00\x00" + "\x01a\x00" + "\x01" + "\x03\x00\x00\x00\x00\x01\x00\x00\x00",
		"a Deep of 0 and a Put":  "\x02\x01" + "\x00\x00\x00\x01\x00\x00\x00\x00" + "\x01" + "\x01\x01a\x01b",
		"keys that fall, of all": "\x01\x10" + strings.Repeat(text(long(16, 'a'))+text(long(32, 'v')), 16),
	} {
		if wrong := asks(s, api.ErrForm); wrong != "" {
			t.Errorf("%s: %s", what, wrong)
		}
		for _, more := range []string{"\x00", "\x01", s} {
			if wrong := asks(s+more, api.ErrLong); wrong != "" {
				t.Errorf("%s, and bytes behind: %s", what, wrong)
			}
		}
		for upto := range len(s) {
			if wrong := asks(s[:upto], api.ErrShort); wrong != "" {
				t.Errorf("%s, its beginnings: %s", what, wrong)
			}
		}
	}
}

// P8.1, P0.2: where several errors apply, the one that is met first from the front on.
func TestFirstError(t *testing.T) {
	deep0 := "\x00\x00\x00\x01\x00\x00\x00\x00"
	for _, c := range []struct {
		what string
		s    string
		want api.Errno
	}{
		{"a wrong sort, then no bytes", "\x03", api.ErrKind},
		{"a wrong sort, then too many", "\x00\xff", api.ErrKind},
		{"too many pairs, then no bytes", "\x01\x11", api.ErrMany},
		{"too many pairs, the first too long", "\x01\x11\x11", api.ErrMany},
		{"a key too long, then a value too long", "\x01\x01" + text(long(17, 'a')) + text(long(33, 'b')), api.ErrLong},
		{"a key too long, then no bytes", "\x01\x01\x11", api.ErrLong},
		{"a key without its end", "\x01\x01\x10a", api.ErrShort},
		{"keys that fall, then no bytes", "\x01\x03\x01b\x00\x01a\x00", api.ErrShort},
		{"keys that fall, then a value too long", "\x01\x02\x01b\x00\x01a\x21", api.ErrLong},
		{"no kids, then no bytes", "\x02\x00", api.ErrForm},
		{"no kids, then too many messages", "\x02\x00\x11", api.ErrForm},
		{"no kids, then a wrong Kind", "\x02\x00\x01\x00", api.ErrForm},
		{"too many kids, then no bytes", "\x02\x09", api.ErrMany},
		{"a Deep of 0, then no bytes", "\x02\x01" + deep0, api.ErrShort},
		{"a Deep of 0, then a Strip too long", "\x02\x01" + deep0[:6] + "\x11", api.ErrLong},
		{"a Deep of 0, then too many messages", "\x02\x01" + deep0 + "\x11", api.ErrMany},
		{"a Deep of 0, then a wrong Kind", "\x02\x01" + deep0 + "\x01\x04", api.ErrKind},
		{"an empty pivot, then too many messages", two + "\x00\x11", api.ErrMany},
		{"an empty pivot, then a wrong Kind", two + "\x00\x01\x00", api.ErrKind},
		{"a pivot too long, then too many messages", two + text(long(17, 'a')) + "\x11", api.ErrLong},
		{"too many messages, the first of a wrong Kind", alone + "\x11\x00", api.ErrMany},
		{"a wrong Kind, then no bytes", alone + "\x01\x00", api.ErrKind},
		{"a wrong Kind, then a key too long", alone + "\x01\x04\x11", api.ErrKind},
		{"a key too long, then a wrong Kind", alone + "\x02\x02" + text(long(17, 'a')) + "\x00", api.ErrLong},
		{"a key's end is missing, where a Kind is wrong later", alone + "\x02\x02\x02a", api.ErrShort},
		{"a Goto's number without its end", alone + "\x01\x03\x00\x00\x00\x00", api.ErrShort},
		{"a Goto of 0, then a wrong Kind", alone + "\x02\x03\x00\x00\x00\x00\x00\x00\x00\x00\x00", api.ErrKind},
		{"a Goto of 0, then an Add too long", alone + "\x01\x03\x00\x00\x00\x00\x00\x00\x00\x11", api.ErrLong},
		{"a Goto of 0, then a byte too many", alone + "\x01\x03\x00\x00\x00\x00\x00\x00\x00\x00\x00", api.ErrLong},
	} {
		if wrong := asks(c.s, c.want); wrong != "" {
			t.Errorf("%s: %s", c.what, wrong)
		}
	}
}

// written is what the document says of a node's writing, of nodes that may be.
func written(n api.Node) string {
	number := func(x, size int) string {
		s := ""
		for range size {
			s = string([]byte{byte(x)}) + s
			x >>= 8
		}
		return s
	}
	if n.Leaf {
		s := number(1, 1) + number(len(n.Pairs), 1)
		for _, p := range n.Pairs {
			s += text(p.Key) + text(p.Value)
		}
		return s
	}
	s := number(2, 1) + number(len(n.Kids), 1)
	for _, kid := range n.Kids {
		s += number(int(kid.Block), 4) + number(int(kid.Deep), 2) + text(kid.Lift.Strip) + text(kid.Lift.Add)
	}
	for _, pivot := range n.Pivots {
		s += text(pivot)
	}
	s += number(len(n.Buffer), 1)
	for _, m := range n.Buffer {
		s += number(int(m.Kind), 1) + text(m.Key)
		if m.Kind == api.Put {
			s += text(m.Value)
		}
		if m.Kind == api.Goto {
			s += number(int(m.Block), 4) + number(int(m.Deep), 2) + text(m.Add)
		}
	}
	return s
}

// plain reads as the document says, and throws the first error that it meets.
type plain struct{ rest string }

func (p *plain) number(size int) int {
	x := 0
	for range size {
		if p.rest == "" {
			panic(api.ErrShort)
		}
		x = x*256 + int(p.rest[0])
		p.rest = p.rest[1:]
	}
	return x
}

func (p *plain) text(most int) string {
	size := p.number(1)
	if size > most {
		panic(api.ErrLong)
	}
	if size > len(p.rest) {
		panic(api.ErrShort)
	}
	s := p.rest[:size]
	p.rest = p.rest[size:]
	return s
}

func (p *plain) count(most int) int {
	n := p.number(1)
	if n > most {
		panic(api.ErrMany)
	}
	return n
}

func (p *plain) msg() api.Msg {
	kind := p.number(1)
	switch kind {
	case 1:
		k := p.text(16)
		return put(k, p.text(32))
	case 2:
		return del(p.text(16))
	case 3:
		k := p.text(16)
		block, deep := p.number(4), p.number(2)
		return far(k, uint32(block), uint16(deep), p.text(16))
	}
	panic(api.ErrKind)
}

func (p *plain) node() api.Node {
	var n api.Node
	switch p.number(1) {
	case 1:
		n.Leaf = true
		for range p.count(16) {
			k := p.text(16)
			n.Pairs = append(n.Pairs, pair(k, p.text(32)))
		}
	case 2:
		kids := p.count(8)
		if kids == 0 {
			panic(api.ErrForm)
		}
		for range kids {
			block, deep := p.number(4), p.number(2)
			strip := p.text(16)
			n.Kids = append(n.Kids, by(uint32(block), uint16(deep), strip, p.text(16)))
		}
		for range kids - 1 {
			n.Pivots = append(n.Pivots, p.text(16))
		}
		for range p.count(16) {
			n.Buffer = append(n.Buffer, p.msg())
		}
	default:
		panic(api.ErrKind)
	}
	if p.rest != "" {
		panic(api.ErrLong)
	}
	if node.May(n) != api.OK {
		panic(api.ErrForm)
	}
	return n
}

// read is what the document says of Get.
func read(s string) (n api.Node, e api.Errno) {
	defer func() {
		if thrown := recover(); thrown != nil {
			n, e = api.Node{}, thrown.(api.Errno)
		}
	}()
	return (&plain{s}).node(), api.OK
}

// seen is how often each error was told.
type seen map[api.Errno]int

// ask holds Get of any bytes against the document's words; what it reads may be, and is written as it stood.
func (all seen) ask(t *testing.T, s string) {
	t.Helper()
	want, wantErr := read(s)
	n, e := Get([]byte(s))
	if e != wantErr || !node.Same(n, want) {
		t.Fatalf("Get of %q: %#v %v, not %#v %v", s, n, e, want, wantErr)
	}
	all[e]++
	if e != api.OK {
		return
	}
	if node.May(n) != api.OK {
		t.Fatalf("Get of %q: %#v may not be", s, n)
	}
	if b, e := Put(n); e != api.OK || string(b) != s {
		t.Fatalf("read and written again: %q %v, not %q", b, e, s)
	}
}

// enough tells whether all six answers of Get were told, each at least so often.
func (all seen) enough(t *testing.T, least int) {
	t.Helper()
	for _, e := range []api.Errno{api.OK, api.ErrShort, api.ErrKind, api.ErrMany, api.ErrForm, api.ErrLong} {
		if all[e] < least {
			t.Errorf("too few of %v: %v", e, all)
		}
	}
	if len(all) != 6 {
		t.Errorf("others than may be told: %v", all)
	}
}

// P8.1, P8.2: all rows of up to seven of a few bytes.
func TestSmallWorld(t *testing.T) {
	all := seen{}
	for size := range 8 {
		row := make([]byte, size)
		var fill func(at int)
		fill = func(at int) {
			if at == size {
				all.ask(t, string(row))
				return
			}
			for _, x := range []byte{0, 1, 2, 3, 17} {
				row[at] = x
				fill(at + 1)
			}
		}
		fill(0)
	}
	all.enough(t, 5)
}

// P8.1, P8.2: writings with each byte as each other one.
func TestOneByteOther(t *testing.T) {
	all := seen{}
	for _, s := range samples() {
		if len(s.written) > 200 {
			continue
		}
		for at := range len(s.written) {
			b := []byte(s.written)
			for x := range 256 {
				b[at] = byte(x)
				all.ask(t, string(b))
			}
		}
	}
	all.enough(t, 50)
}

// P8.1, P0.2: a writing with each two bytes as others that say something.
func TestTwoBytesOther(t *testing.T) {
	all := seen{}
	whole := "\x02\x02" + edge + edge + "\x01m" + "\x02" + "\x01\x00\x00" + "\x03\x00\x00\x00\x00\x01\x00\x01\x00"
	others := []byte{0, 1, 2, 3, 4, 9, 17, 33}
	for a := range len(whole) {
		for b := range a {
			for _, x := range others {
				for _, y := range others {
					s := []byte(whole)
					s[a], s[b] = x, y
					all.ask(t, string(s))
				}
			}
		}
	}
	all.enough(t, 50)
}

// world makes nodes and bytes by chance.
type world struct{ *rand.Rand }

func newWorld(seed int64) world { return world{rand.New(rand.NewSource(seed))} }

// text is any bytes, at most so many, and now and then just as many.
func (w world) text(most int) string {
	size := w.Intn(most + 1)
	if w.Intn(6) == 0 {
		size = most
	}
	b := make([]byte, size)
	for i := range b {
		b[i] = byte(w.Intn(256))
	}
	return string(b)
}

// keys are up to so many keys that rise, each with at least so many bytes.
func (w world) keys(most, least int) []string {
	var all []string
	for range w.Intn(most + 1) {
		if k := w.text(16); len(k) >= least {
			all = append(all, k)
		}
	}
	slices.Sort(all)
	return slices.Compact(all)
}

func (w world) msg() api.Msg {
	switch w.Intn(3) {
	case 0:
		return put(w.text(16), w.text(32))
	case 1:
		return del(w.text(16))
	}
	return far(w.text(16), w.Uint32(), uint16(w.Intn(65535)+1), w.text(16))
}

// node is one that may be.
func (w world) node() api.Node {
	if w.Intn(3) == 0 {
		n := leaf()
		for _, k := range w.keys(16, 0) {
			n.Pairs = append(n.Pairs, pair(k, w.text(32)))
		}
		return n
	}
	n := api.Node{Pivots: w.keys(7, 1)}
	for range len(n.Pivots) + 1 {
		n.Kids = append(n.Kids, by(w.Uint32(), uint16(w.Intn(65535)+1), w.text(16), w.text(16)))
	}
	for range w.Intn(17) {
		n.Buffer = append(n.Buffer, w.msg())
	}
	return n
}

// wrong is a node whose writing is read whole; it most often may not be.
func (w world) wrong() api.Node {
	n := w.node()
	kid := w.Intn(max(len(n.Kids), 1))
	switch {
	case n.Leaf:
		slices.Reverse(n.Pairs)
	case len(n.Pivots) > 0 && w.Intn(2) == 0:
		n.Pivots[w.Intn(len(n.Pivots))] = ""
	case len(n.Buffer) > 0 && w.Intn(2) == 0:
		n.Buffer[w.Intn(len(n.Buffer))] = far(w.text(16), w.Uint32(), 0, w.text(16))
	default:
		n.Kids[kid].Deep = 0
	}
	return n
}

// spoil is bytes with something changed.
func (w world) spoil(s string) string {
	if s == "" {
		return w.text(40)
	}
	at := w.Intn(len(s))
	// Half of the changes are in front, where sorts and numbers of parts stand.
	if w.Intn(2) == 0 {
		at = w.Intn(min(len(s), 12))
	}
	says := []byte{0, 1, 2, 3, 4, 8, 9, 16, 17, 32, 33, 255}
	one := string([]byte{says[w.Intn(len(says))]})
	switch w.Intn(7) {
	case 0:
		return s[:at]
	case 1:
		return s + w.text(5)
	case 2:
		return s[:at] + one + s[at:]
	case 3:
		return s[:at] + s[at+1:]
	case 4:
		return s[:at] + string([]byte{s[at] + byte(w.Intn(3)) - 1}) + s[at+1:]
	case 5:
		return s[:at] + s[w.Intn(len(s)):]
	}
	return s[:at] + one + s[at+1:]
}

// P8.1, P8.2: mixed nodes are written as the document says, and read as they were.
func TestMixedNodes(t *testing.T) {
	w := newWorld(81)
	for range 4000 {
		n := w.node()
		b, e := Put(n)
		if e != api.OK || string(b) != written(n) {
			t.Fatalf("Put of %#v: %q %v, not %q", n, b, e, written(n))
		}
		if got, e := Get(b); e != api.OK || !node.Same(got, n) {
			t.Fatalf("written and read again: %#v %v, not %#v", got, e, n)
		}
	}
}

// P8.1, P8.2, P0.1: mixed writings, spoilt up to four times over, those of nodes that may not be, and bytes of no
// sort at all.
func TestMixedBytes(t *testing.T) {
	w := newWorld(82)
	all := seen{}
	for range 20000 {
		s := written(w.node())
		for range w.Intn(5) {
			s = w.spoil(s)
		}
		all.ask(t, s)
		all.ask(t, written(w.wrong()))
		all.ask(t, w.spoil(written(w.wrong())))
		all.ask(t, w.text(60))
		all.ask(t, string([]byte{byte(w.Intn(3))})+w.text(80))
	}
	all.enough(t, 200)
}

// P8.2: nodes that differ have writings that differ, and none begins another one.
func TestNoTwoAlike(t *testing.T) {
	w := newWorld(83)
	var all []string
	for range 500 {
		all = append(all, written(w.node()))
	}
	for _, s := range samples() {
		all = append(all, s.written)
	}
	slices.Sort(all)
	all = slices.Compact(all)
	for i, s := range all[1:] {
		if strings.HasPrefix(s, all[i]) {
			t.Errorf("%q begins %q", all[i], s)
		}
		a, _ := Get([]byte(all[i]))
		if b, _ := Get([]byte(s)); node.Same(a, b) {
			t.Errorf("%q and %q are read as one", all[i], s)
		}
	}
}

// P0.1: many bytes, all of one sort; and a writing with many behind it.
func TestManyBytes(t *testing.T) {
	const many = 1 << 20
	for x, want := range map[byte]api.Errno{0: api.ErrKind, 1: api.ErrLong, 2: api.ErrLong, 3: api.ErrKind, 255: api.ErrKind} {
		if n, e := Get(bytes.Repeat([]byte{x}, many)); e != want || !nothing(n) {
			t.Errorf("many of %d: %#v %v, not %v", x, n, e, want)
		}
	}
	if wrong := asks("\x01\x00"+strings.Repeat("\x00", many), api.ErrLong); wrong != "" {
		t.Error("a leaf, and many bytes behind it")
	}
}

// P0.4: nil bytes are no bytes, and a nil list an empty one.
func TestNothing(t *testing.T) {
	for _, b := range [][]byte{nil, {}, make([]byte, 0, 20), []byte("\x01\x00")[:0]} {
		if n, e := Get(b); e != api.ErrShort || !nothing(n) {
			t.Errorf("Get of nothing: %#v %v", n, e)
		}
	}
	empty := api.Node{Pairs: []api.Pair{}, Pivots: []string{}, Kids: []api.Edge{}, Buffer: []api.Msg{}}
	if b, e := Put(empty); e != api.ErrForm || len(b) != 0 {
		t.Errorf("Put of nothing: %q %v", b, e)
	}
	empty.Leaf = true
	if b, e := Put(empty); e != api.OK || string(b) != "\x01\x00" {
		t.Errorf("Put of a leaf of nothing: %q %v", b, e)
	}
	alone := api.Node{Kids: []api.Edge{by(1, 1, "", "")}, Pairs: []api.Pair{}, Pivots: []string{}, Buffer: []api.Msg{}}
	if b, e := Put(alone); e != api.OK || string(b) != "\x02\x01"+edge+"\x00" {
		t.Errorf("Put of a kid, and empty lists: %q %v", b, e)
	}
}

// scribble writes over a list, and over all the room behind its end.
func scribble[T any](l []T, with T) {
	l = l[:cap(l)]
	for i := range l {
		l[i] = with
	}
}

// scribbleAll writes over all lists of a node.
func scribbleAll(n api.Node) {
	scribble(n.Pairs, pair("junk", "junk"))
	scribble(n.Pivots, "junk")
	scribble(n.Kids, by(77, 77, "junk", "junk"))
	scribble(n.Buffer, far("junk", 77, 77, "junk"))
}

// roomy is a node whose lists have room behind their ends, in which something stands; and all of that room.
func roomy(of api.Node) (api.Node, api.Node) {
	whole := node.Own(of)
	whole.Pairs = append(whole.Pairs, pair("behind", "1"), pair("behind", "2"))
	whole.Pivots = append(whole.Pivots, "behind", "far behind")
	whole.Kids = append(whole.Kids, by(55, 1, "behind", ""), by(56, 1, "", ""))
	whole.Buffer = append(whole.Buffer, put("behind", "1"), del("behind"))
	n := whole
	n.Pairs, n.Pivots = n.Pairs[:len(of.Pairs)], n.Pivots[:len(of.Pivots)]
	n.Kids, n.Buffer = n.Kids[:len(of.Kids)], n.Buffer[:len(of.Buffer)]
	return n, whole
}

// P0.3, P0.5: Put changes nothing of a node, also behind its lists' ends, asks nothing there, and its bytes are its own.
func TestPutKeepsNothing(t *testing.T) {
	nodes := []api.Node{{}, leaf(longPairs(17)...), fork(2, 2), fork(1, 0, api.Msg{})}
	for _, s := range samples() {
		nodes = append(nodes, s.n)
	}
	for _, of := range nodes {
		n, whole := roomy(of)
		before := node.Own(whole)
		want, wantErr := Put(of)
		first, e := Put(n)
		second, _ := Put(n)
		if e != wantErr || !bytes.Equal(first, want) || !bytes.Equal(second, want) {
			t.Errorf("Put of %#v: %q %v, not %q %v", of, first, e, want, wantErr)
		}
		if !node.Same(whole, before) {
			t.Errorf("what was handed in is another one: %#v", of)
		}
		scribble(first, 'j')
		scribbleAll(whole)
		if again, _ := Put(of); !bytes.Equal(second, want) || !bytes.Equal(again, want) {
			t.Errorf("what Put answered shares something: %#v", of)
		}
	}
}

// P0.3, P0.5: Get changes no bytes, also behind their end, asks none there, and the node is its own.
func TestGetKeepsNothing(t *testing.T) {
	all := []string{"", "\x03", "\x01\x11", "\x01\x01\x11", "\x02\x00", alone, alone + "\x01\x00", "\x01\x00\x00", "\x01\x02\x01b\x00\x01a\x00"}
	for _, s := range samples() {
		all = append(all, s.written, s.written[:len(s.written)-1])
	}
	for _, s := range all {
		whole := []byte(s + "\x00\x01\x02 behind")
		before := bytes.Clone(whole)
		b := whole[:len(s)]
		want, wantErr := read(s)
		first, e := Get(b)
		second, _ := Get(b)
		if e != wantErr || !node.Same(first, want) || !node.Same(second, want) {
			t.Errorf("Get of %q: %#v %v, not %#v %v", s, first, e, want, wantErr)
		}
		if !bytes.Equal(whole, before) {
			t.Errorf("what was handed in is another one: %q", s)
		}
		scribbleAll(first)
		scribble(whole, 'j')
		if !node.Same(second, want) {
			t.Errorf("what Get answered shares something: %q", s)
		}
	}
}
