package trim

import (
	"math/rand"
	"slices"
	"strings"
	"testing"

	"marcot/api"
	"marcot/key"
	"marcot/lift"
	"marcot/msg"
	"marcot/node"
)

func put(k, v string) api.Msg { return api.Msg{Kind: api.Put, Key: k, Value: v} }

func del(k string) api.Msg { return api.Msg{Kind: api.Delete, Key: k} }

// far is a Goto; its number tells it from others.
func far(k string, block uint32, add string) api.Msg {
	return api.Msg{Kind: api.Goto, Key: k, Block: block, Deep: uint16(block%7) + 1, Add: add}
}

// by is a kid with a lift; its number tells it from others.
func by(block uint32, strip, add string) api.Edge {
	return api.Edge{Block: block, Deep: uint16(block%9) + 1, Lift: way(strip, add)}
}

func way(strip, add string) api.Lift { return api.Lift{Strip: strip, Add: add} }

func pair(k, v string) api.Pair { return api.Pair{Key: k, Value: v} }

func leaf(pairs ...api.Pair) api.Node { return api.Node{Leaf: true, Pairs: pairs} }

// fork is a node with these kids, and these pivots between them.
func fork(kids []api.Edge, pivots ...string) api.Node {
	return api.Node{Kids: kids, Pivots: pivots}
}

func edges(l ...api.Edge) []api.Edge { return l }

// with is a node with these messages.
func with(n api.Node, l ...api.Msg) api.Node {
	n.Buffer = l
	return n
}

// span is the range from lo on, ahead of hi.
func span(lo, hi string) api.Range { return api.Range{Lo: lo, Hi: hi, End: true} }

// from is the range from lo on, without an end.
func from(lo string) api.Range { return api.Range{Lo: lo} }

// whole has all keys.
var whole = api.Range{}

// long is a text of so many bytes.
func long(n int) string { return strings.Repeat("\xff", n) }

// words are all keys of at most so many of these letters, the empty one too.
func words(letters string, most int) []string {
	all := []string{""}
	from := 0
	for range most {
		upto := len(all)
		for _, w := range all[from:upto] {
			for i := range len(letters) {
				all = append(all, w+letters[i:i+1])
			}
		}
		from = upto
	}
	return all
}

// The letters of small worlds: the least and the greatest byte, and two between, so that a range may end just
// above all that begin with one of them, and above more.
const few = "\x00ab\xff"

// P11.1: the document's example.
func TestExample(t *testing.T) {
	n := leaf(pair("ab", "1"), pair("ac", "2"), pair("b", "3"))
	got, e := Trim(n, key.Of("a"), "a")
	if want := leaf(pair("b", "1"), pair("c", "2")); !node.Same(got, want) || e != api.OK {
		t.Errorf("Trim: %#v %v", got, e)
	}
}

// part is a node, how it is trimmed, and what that is.
type part struct {
	what string
	n    api.Node
	r    api.Range
	a    string
	want api.Node
}

// hold holds Trim against what is said by hand.
func (p part) hold(t *testing.T) {
	t.Helper()
	got, e := Trim(p.n, p.r, p.a)
	if !node.Same(got, p.want) || e != api.OK {
		t.Errorf("%s: Trim of %#v by %#v, %q: %#v %v, not %#v", p.what, p.n, p.r, p.a, got, e, p.want)
	}
	if e := node.May(got); e != api.OK {
		t.Errorf("%s: what is trimmed may be: %v", p.what, e)
	}
}

// P11.1: of a leaf the pairs whose keys are in the range, with a beginning taken away.
func TestLeaf(t *testing.T) {
	n := leaf(pair("", "none"), pair("a", "1"), pair("a\x00", "2"), pair("ab", "3"), pair("abc", ""), pair("ac", "5"), pair("b", "6"), pair("\xff", "7"), pair(long(16), long(32)))
	of := n.Pairs
	for _, p := range []part{
		{"all keys", n, whole, "", n},
		{"all keys, and a Hi that doesn't count", n, api.Range{Hi: "a"}, "", n},
		{"all that it has", n, span("", long(17)), "", n},
		{"some", n, span("a\x00", "b"), "", leaf(of[2:6]...)},
		{"one", n, span("ab", "abc"), "", leaf(of[3])},
		{"one alone", n, span("ab", "ab\x00"), "", leaf(of[3])},
		{"from a key on", n, from("ab"), "", leaf(of[3:]...)},
		{"from just behind a key on", n, from("ab\x00"), "", leaf(of[4:]...)},
		{"ahead of a key", n, span("", "ab"), "", leaf(of[:3]...)},
		{"ahead of what is just behind a key", n, span("", "ab\x00"), "", leaf(of[:4]...)},
		{"none ahead of the first", leaf(of[1:]...), span("", "a"), "", leaf()},
		{"none between", n, span("abd", "ac"), "", leaf()},
		{"none behind", leaf(of[:7]...), from("c"), "", leaf()},
		{"none, and a beginning", n, span("abca", "abcz"), "abc", leaf()},
		{"a beginning", n, key.Of("a"), "a", leaf(pair("", "1"), pair("\x00", "2"), pair("b", "3"), pair("bc", ""), pair("c", "5"))},
		{"a longer one", n, key.Of("ab"), "ab", leaf(pair("", "3"), pair("c", ""))},
		{"a shorter one than all keys have", n, key.Of("ab"), "a", leaf(pair("b", "3"), pair("bc", ""))},
		{"a part of those that begin so", n, span("a\x00", "abc"), "a", leaf(pair("\x00", "2"), pair("b", "3"))},
		{"the beginning alone", n, span("abc", "abc\x00"), "abc", leaf(pair("", ""))},
		{"just behind the beginning", n, span("a\x00", "b"), "a", leaf(pair("\x00", "2"), pair("b", "3"), pair("bc", ""), pair("c", "5"))},
		{"bytes 255", n, from("\xff"), "\xff", leaf(pair("", "7"), pair(long(15), long(32)))},
		{"bytes 255, up to an end", n, span("\xff", long(16)), "\xff", leaf(pair("", "7"))},
		{"all of a key", n, from(long(16)), long(16), leaf(pair("", long(32)))},
		{"more than a key", n, from(long(17)), long(17), leaf()},
		{"nothing of nothing", leaf(), whole, "", leaf()},
		{"a beginning of nothing", leaf(), key.Of("abc"), "abc", leaf()},
	} {
		p.hold(t)
	}
}

// tall is a node with a kid for keys below b, from b, from ba, from bb, and from c on.
func tall() api.Node {
	return fork(edges(by(1, "", ""), by(2, "b", "x"), by(3, "", "y"), by(4, "bb", ""), by(5, "", "")), "b", "ba", "bb", "c")
}

// P11.1: of a node with kids those in whose range a key of the range is, and the pivots between them.
func TestKids(t *testing.T) {
	n := tall()
	k, p := n.Kids, n.Pivots
	for _, p := range []part{
		{"all keys", n, whole, "", n},
		{"all kids, by their last keys and first ones", n, span("a\xff", "c\x00"), "", n},
		{"one kid, that is all", fork(edges(by(7, "q", "r"))), whole, "", fork(edges(by(7, "q", "r")))},
		{"the first one", n, span("", "b"), "", fork(k[:1])},
		{"the last one", n, from("c"), "", fork(k[4:])},
		{"one between", n, span("ba", "bb"), "", fork(k[2:3])},
		{"a part of one", n, span("bax", "baz"), "", fork(k[2:3])},
		{"a key of one", n, span("bax", "bax\x00"), "", fork(k[2:3])},
		{"a part of two", n, span("bax", "bbz"), "", fork(k[2:4], p[2])},
		{"from a pivot on", n, from("ba"), "", fork(k[2:], p[2:]...)},
		{"from just behind a pivot on", n, from("ba\x00"), "", fork(k[2:], p[2:]...)},
		{"from just ahead of a pivot on", n, from("b\xff"), "", fork(k[3:], p[3:]...)},
		{"ahead of a pivot", n, span("", "bb"), "", fork(k[:3], p[:2]...)},
		{"ahead of what is just behind a pivot", n, span("", "bb\x00"), "", fork(k[:4], p[:3]...)},
		{"a pivot alone", n, span("bb", "bb\x00"), "", fork(k[3:4])},
		{"from pivot to pivot", n, span("b", "c"), "", fork(k[1:4], p[1:3]...)},
		{"behind the last pivot", n, from("d"), "", fork(k[4:])},
		{"ahead of the first pivot", n, span("", "a"), "", fork(k[:1])},
		{"a pivot of all bytes that one may have", fork(k[:2], long(16)), from(long(16)), "", fork(k[1:2])},
		{"just ahead of that", fork(k[:2], long(16)), span(long(15), long(16)), "", fork(k[:1])},
	} {
		p.hold(t)
	}
}

// P11.1: kids and pivots with a beginning taken away, and lifts that go as putting it ahead, and then as they did.
func TestKidsWithout(t *testing.T) {
	n := tall()
	for _, p := range []part{
		{"what all have", n, key.Of("b"), "b", fork(edges(by(2, "", "x"), by(3, "", "yb"), by(4, "b", "")), "a", "b")},
		{"more", n, key.Of("ba"), "ba", fork(edges(by(3, "", "yba")))},
		{"less than all have", n, key.Of("ba"), "b", fork(edges(by(3, "", "yb")))},
		{"as much as a kid takes", n, key.Of("bb"), "bb", fork(edges(by(4, "", "")))},
		{"more than a kid takes", n, key.Of("bbc"), "bbc", fork(edges(by(4, "", "c")))},
		{"less than a kid takes", n, key.Of("bb"), "b", fork(edges(by(4, "b", "")))},
		{"nothing", n, key.Of("bb"), "", fork(edges(by(4, "bb", "")))},
		{"the beginning is a pivot, and the range begins behind it", n, span("b\x00", "bb"), "b", fork(edges(by(2, "", "x"), by(3, "", "yb")), "a")},
		{"the beginning is a key alone", n, span("b", "b\x00"), "b", fork(edges(by(2, "", "x")))},
		{"the range ends just behind a pivot", n, span("b", "ba\x00"), "b", fork(edges(by(2, "", "x"), by(3, "", "yb")), "a")},
		{"the range ends at a pivot", n, span("b", "ba"), "b", fork(edges(by(2, "", "x")))},
		{"without an end", fork(edges(by(1, "", ""), by(2, "\xff", "q"), by(3, "\xff\xff\x01", "")), "\xff\xff", "\xff\xff\x01"), from("\xff"), "\xff", fork(edges(by(1, "", "\xff"), by(2, "", "q"), by(3, "\xff\x01", "")), "\xff", "\xff\x01")},
		{"pivots that begin otherwise are gone", fork(edges(by(1, "", ""), by(2, "", ""), by(3, "", ""), by(4, "", "")), "a", "bx", "c"), key.Of("b"), "b", fork(edges(by(2, "", "b"), by(3, "", "b")), "x")},
		{"a beginning of 17 bytes", fork(edges(by(1, long(16), ""))), from(long(17)), long(17), fork(edges(by(1, "", "\xff")))},
		{"one of 32 bytes", fork(edges(by(1, long(16), ""))), from(long(40)), long(32), fork(edges(by(1, "", long(16))))},
	} {
		p.hold(t)
	}
}

// P11.1: Strip and Add of just as many bytes as may be.
func TestLongest(t *testing.T) {
	for _, p := range []part{
		{"both stay", fork(edges(by(1, long(16), long(16)))), whole, "", fork(edges(by(1, long(16), long(16))))},
		{"Strip gets shorter", fork(edges(by(1, long(16), long(16)))), from("\xff"), "\xff", fork(edges(by(1, long(15), long(16))))},
		{"all of Strip is taken", fork(edges(by(1, long(16), long(16)))), from(long(16)), long(16), fork(edges(by(1, "", long(16))))},
		{"Add gets as long", fork(edges(by(1, "a", long(14)))), key.Of("abc"), "abc", fork(edges(by(1, "", long(14)+"bc")))},
		{"Add is all that is put there", fork(edges(by(1, "", ""))), from(long(16)), long(16), fork(edges(by(1, "", long(16))))},
		{"a Goto's Add gets as long", with(fork(edges(by(1, "ab", ""))), far("a", 2, long(15))), key.Of("ab"), "ab", with(fork(edges(by(1, "", ""))), far("", 2, long(15)+"b"))},
		{"a Goto's Key and Add stay", with(fork(edges(by(1, "", ""))), far(long(16), 2, long(16))), whole, "", with(fork(edges(by(1, "", ""))), far(long(16), 2, long(16)))},
	} {
		p.hold(t)
	}
}

// P11.1: messages inside the range, across its ends, and outside of it.
func TestMessages(t *testing.T) {
	n := with(fork(edges(by(1, "", ""))),
		put("a", "1"), far("", 2, "all"), del("ba"), put("bab", "2"), far("b", 3, ""), far("bab", 4, "x"), del("bac"), far("bb", 5, "y"), put("c", "3"), put("bab", "4"))
	m := n.Buffer
	for _, p := range []part{
		{"all", n, whole, "", n},
		{"some", n, key.Of("b"), "", with(n, m[1], m[2], m[3], m[4], m[5], m[6], m[7], m[9])},
		{"just a key", n, span("a", "a\x00"), "", with(n, m[0], m[1])},
		{"just behind a key", n, span("a\x00", "b"), "", with(n, m[1])},
		{"across the end, and the beginning", n, span("baba", "bba"), "", with(n, m[1], m[4], m[5], m[6], m[7])},
		{
			"without a beginning", n, key.Of("b"), "b",
			with(fork(edges(by(1, "", "b"))), far("", 2, "allb"), del("a"), put("ab", "2"), far("", 3, ""), far("ab", 4, "x"), del("ac"), far("b", 5, "y"), put("ab", "4")),
		},
		{
			"without a longer one", n, key.Of("bab"), "bab",
			with(fork(edges(by(1, "", "bab"))), far("", 2, "allbab"), put("", "2"), far("", 3, "ab"), far("", 4, "x"), put("", "4")),
		},
		{
			"a range within what begins so", n, span("bab", "babz"), "ba",
			with(fork(edges(by(1, "", "ba"))), far("", 2, "allba"), put("b", "2"), far("", 3, "a"), far("b", 4, "x"), put("b", "4")),
		},
		{"none", with(n, m[0], m[2], m[8]), span("bb", "bc"), "bb", fork(edges(by(1, "", "bb")))},
		{"as many as may be", with(n, slices.Repeat(m[:1], 16)...), key.Of("a"), "a", with(fork(edges(by(1, "", "a"))), slices.Repeat([]api.Msg{put("", "1")}, 16)...)},
	} {
		p.hold(t)
	}
}

// P11.1: a kid, and a message, of which no key is in the range isn't asked.
func TestAside(t *testing.T) {
	for _, p := range []part{
		{"a lift that goes from no such key", fork(edges(by(1, "q", ""), by(2, "", ""), by(3, "r", "")), "a", "b"), key.Of("a"), "a", fork(edges(by(2, "", "a")))},
		{"an Add that would get too long", fork(edges(by(1, "", long(16)), by(2, "", ""), by(3, "", long(16))), "a", "b"), key.Of("a"), "a", fork(edges(by(2, "", "a")))},
		{"a Goto's Add", with(fork(edges(by(1, "ab", ""))), far("ac", 2, long(16)), far("aa", 3, long(16))), key.Of("ab"), "ab", fork(edges(by(1, "", "")))},
	} {
		p.hold(t)
	}
}

// P11.1: Shift, of lifts with Strip and with Add.
func TestShift(t *testing.T) {
	for _, c := range []struct {
		l    api.Lift
		a    string
		want api.Lift
	}{
		{way("", ""), "", way("", "")},
		{way("ab", "x"), "", way("ab", "x")},
		{way("", ""), "ab", way("", "ab")},
		{way("", "x"), "ab", way("", "xab")},
		// Strip is longer than what is put ahead, as long, and shorter.
		{way("abc", "x"), "ab", way("c", "x")},
		{way("ab", "x"), "ab", way("", "x")},
		{way("a", "x"), "ab", way("", "xb")},
		{way("abc", ""), "a", way("bc", "")},
		{way("ab", ""), "ab", way("", "")},
		{way("a", ""), "abc", way("", "bc")},
		{way("\xff\xff", "\xff"), "\xff", way("\xff", "\xff")},
		{way("\xff", "\xff"), "\xff\xff", way("", "\xff\xff")},
		{way("\x00", ""), "\x00\x00", way("", "\x00")},
		// How long a lift may be in a node isn't asked here.
		{way("", long(16)), long(17), way("", long(33))},
		{way(long(40), ""), long(10), way(long(30), "")},
	} {
		if got, ok := Shift(c.l, c.a); got != c.want || !ok {
			t.Errorf("Shift of %#v, %q: %#v %v, not %#v", c.l, c.a, got, ok, c.want)
		}
	}
	for _, c := range []struct{ strip, a string }{
		{"a", "b"}, {"ab", "b"}, {"ab", "ac"}, {"ab", "aab"}, {"b", "ab"}, {"abc", "abd"}, {"\xff", "\xfe"}, {"\x00", "\x01"}, {"\xff\xff", "\xff\xfe\xff"}, {"a", "A"},
	} {
		for _, add := range []string{"", "x", c.strip, c.a} {
			if got, ok := Shift(way(c.strip, add), c.a); got != way("", "") || ok {
				t.Errorf("Shift of %q, %q by %q: %#v %v", c.strip, add, c.a, got, ok)
			}
		}
	}
}

// swap is a key with one beginning in place of another one; false, if it doesn't begin so.
func swap(k, off, on string) (string, bool) {
	rest, ok := strings.CutPrefix(k, off)
	if !ok {
		return "", false
	}
	return on + rest, true
}

// shifted is what the document says of Shift: the lift that goes from all keys from which l goes with a ahead.
func shifted(l api.Lift, a string) (api.Lift, bool) {
	if more, ok := strings.CutPrefix(a, l.Strip); ok {
		return way("", l.Add+more), true
	}
	if more, ok := strings.CutPrefix(l.Strip, a); ok {
		return way(more, l.Add), true
	}
	return api.Lift{}, false
}

// P11.1, P11.2: Shift, by all lifts and beginnings of a small world: it goes where the lift went with the beginning ahead.
func TestAllShift(t *testing.T) {
	some := words(few, 2)
	asked := words(few, 3)
	for _, strip := range some {
		for _, add := range words(few, 1) {
			for _, a := range some {
				l := way(strip, add)
				want, there := shifted(l, a)
				got, ok := Shift(l, a)
				if got != want || ok != there {
					t.Fatalf("Shift of %#v, %q: %#v %v, not %#v %v", l, a, got, ok, want, there)
				}
				went := false
				for _, k := range asked {
					to, goes := swap(a+k, strip, add)
					if is, does := lift.Up(got, k); ok && (is != to || does != goes) {
						t.Fatalf("Shift of %#v, %q goes from %q to %q %v, not %q %v", l, a, k, is, does, to, goes)
					}
					went = went || goes
				}
				if ok != went {
					t.Fatalf("Shift of %#v, %q: %v, and there is a key: %v", l, a, ok, went)
				}
			}
		}
	}
}

// P11.3: shifted twice is shifted once, by both beginnings.
func TestShiftTwice(t *testing.T) {
	some := words("a\xff", 2)
	for _, strip := range words("a\xff", 4) {
		for _, a := range some {
			for _, b := range some {
				l := way(strip, "x")
				once, ok := Shift(l, a+b)
				first, there := Shift(l, a)
				twice, still := Shift(first, b)
				if !there || !still {
					twice, still = api.Lift{}, false
				}
				if once != twice || ok != still {
					t.Fatalf("Shift of %#v, %q, %q: once %#v %v, twice %#v %v", l, a, b, once, ok, twice, still)
				}
			}
		}
	}
}

// wrong are nodes that may not be: of each sort that layer 7 names.
func wrong() map[string]api.Node {
	nine := slices.Repeat(edges(by(1, "", "")), 9)
	var seventeen []api.Pair
	for _, k := range "abcdefghijklmnopq" {
		seventeen = append(seventeen, pair(string(k), ""))
	}
	one := fork(edges(by(1, "", "")))
	return map[string]api.Node{
		"nothing":               {},
		"keys that fall":        leaf(pair("b", ""), pair("a", "")),
		"a key twice":           leaf(pair("a", ""), pair("a", "")),
		"a key too long":        leaf(pair(long(17), "")),
		"a value too long":      leaf(pair("a", long(33))),
		"17 pairs":              leaf(seventeen...),
		"a leaf with a kid":     {Leaf: true, Kids: edges(by(1, "", ""))},
		"a leaf with a pivot":   {Leaf: true, Pivots: []string{"a"}},
		"a leaf with a message": {Leaf: true, Buffer: []api.Msg{put("a", "")}},
		"kids and a pair":       {Kids: edges(by(1, "", "")), Pairs: []api.Pair{pair("a", "")}},
		"9 kids":                fork(nine, "a", "b", "c", "d", "e", "f", "g", "h"),
		"a pivot too many":      fork(edges(by(1, "", "")), "a"),
		"a pivot too few":       fork(edges(by(1, "", ""), by(2, "", ""))),
		"an empty pivot":        fork(edges(by(1, "", ""), by(2, "", "")), ""),
		"pivots that fall":      fork(edges(by(1, "", ""), by(2, "", ""), by(3, "", "")), "b", "a"),
		"a pivot too long":      fork(edges(by(1, "", ""), by(2, "", "")), long(17)),
		"a kid of no depth":     fork(edges(api.Edge{Block: 1})),
		"a Strip of 17 bytes":   fork(edges(by(1, long(17), ""))),
		"an Add of 17 bytes":    fork(edges(by(1, "", long(17)))),
		"17 messages":           with(one, slices.Repeat([]api.Msg{put("a", "")}, 17)...),
		"a message of no Kind":  with(one, api.Msg{}),
		"a Put too long":        with(one, put(long(17), "")),
		"a Goto of no depth":    with(one, api.Msg{Kind: api.Goto, Key: "a"}),
		"a Goto's Add too long": with(one, far("a", 1, long(17))),
	}
}

// refused says that Trim answers an error, and no node.
func refused(t *testing.T, what string, n api.Node, r api.Range, a string, want api.Errno) {
	t.Helper()
	if got, e := Trim(n, r, a); !node.Same(got, api.Node{}) || e != want {
		t.Errorf("%s: Trim by %#v, %q: %#v %v, not %v", what, r, a, got, e, want)
	}
}

// P11.1, P0.2: a node that may not be is ErrForm, whatever else is wrong, and also where what is wrong stands aside.
func TestWrongNode(t *testing.T) {
	for what, n := range wrong() {
		for _, r := range []api.Range{whole, span("", ""), span("b", "a"), span("0", "1"), key.Of("a"), from("\xff")} {
			for _, a := range []string{"", "a", "z", long(17)} {
				refused(t, what, n, r, a, api.ErrForm)
			}
		}
	}
}

// P11.1: empty ranges, and ranges whose keys don't all begin so, of leaves and of others.
func TestWrongRange(t *testing.T) {
	nodes := map[string]api.Node{"an empty leaf": leaf(), "a leaf": leaf(pair("a", "1"), pair("ab", "2")), "kids": tall(), "a kid": fork(edges(by(1, "", "")))}
	for what, n := range nodes {
		for _, r := range []api.Range{{End: true}, span("a", "a"), span("b", "a"), span("ab", "a"), span(long(20), long(20)), span("a", "")} {
			for _, a := range []string{"", "a", "b"} {
				refused(t, what+", an empty range", n, r, a, api.ErrArg)
			}
		}
		for _, c := range []struct {
			r api.Range
			a string
		}{
			{whole, "a"}, {whole, "\x00"}, {whole, "\xff"}, {span("", "\x00"), "\x00"}, {span("", "a"), "a"},
			{key.Of("a"), "b"}, {key.Of("a"), "ab"}, {key.Of("ab"), "b"}, {key.Of("a"), "aa"},
			// Just one key too many, in front and behind.
			{span("a", "b\x00"), "a"}, {span("`\xff", "b"), "a"}, {span("", "\x01"), "\x00"}, {span("a", "b"), "a\x00"}, {span("a", "a\x01"), "a\x00"},
			{from("a"), "a"}, {from("\xfe"), "\xfe"}, {from("\xff"), "\xff\xff"}, {from("\xff\xff"), "\xff\xff\x00"}, {from("\xfe\xff"), "\xff"},
			{api.Range{Lo: "a", Hi: "b"}, "a"}, {span("a\xff", "b\x00"), "a\xff"}, {span("a\xff", "c"), "a\xff"},
			{span("ab", "ab\x00"), "ab\x00"}, {span("ab", "ac"), "abc"}, {from(long(16)), long(17)},
		} {
			refused(t, what, n, c.r, c.a, api.ErrArg)
		}
	}
}

// P11.1: lifts of kids, and messages, that can't be as they would have to be.
func TestWrongParts(t *testing.T) {
	for _, c := range []struct {
		what string
		n    api.Node
		r    api.Range
		a    string
	}{
		{"a lift that goes from no such key", fork(edges(by(1, "b", ""))), key.Of("a"), "a"},
		{"one that goes from a key beside", fork(edges(by(1, "ab", ""))), key.Of("ac"), "ac"},
		{"the first kid's", fork(edges(by(1, "b", ""), by(2, "", "")), "am"), key.Of("a"), "a"},
		{"the last kid's", fork(edges(by(1, "", ""), by(2, "", ""), by(3, "b", "")), "am", "an"), key.Of("a"), "a"},
		{"that of a kid with one key of the range", fork(edges(by(1, "", ""), by(2, "b", "")), "am"), span("a", "am\x00"), "a"},
		{"an Add of one byte more", fork(edges(by(1, "", long(16)))), key.Of("a"), "a"},
		{"one that was empty", fork(edges(by(1, "", ""))), from(long(17)), long(17)},
		{"one with some of the beginning", fork(edges(by(1, "a", long(15)))), key.Of("abc"), "abc"},
		{"the last kid's Add", fork(edges(by(1, "", ""), by(2, "a", long(16))), "abb"), key.Of("ab"), "ab"},
		{"a Goto's Add of one byte more", with(fork(edges(by(1, "ab", ""))), far("a", 2, long(16))), key.Of("ab"), "ab"},
		{"one of more bytes more", with(fork(edges(by(1, "abc", ""))), far("", 2, long(14))), key.Of("abc"), "abc"},
		{"one behind others, of one key of the range", with(fork(edges(by(1, "ab", ""))), put("ab", "1"), far("ab", 3, ""), far("", 2, long(15))), span("ab", "ab\x00"), "ab"},
		{"a kid's lift and a Goto's Add", with(fork(edges(by(1, "b", ""))), far("", 2, long(16))), key.Of("a"), "a"},
	} {
		if e := node.May(c.n); e != api.OK {
			t.Fatalf("%s: the node may be: %v", c.what, e)
		}
		refused(t, c.what, c.n, c.r, c.a, api.ErrArg)
	}
}

// P0.1: very long and odd arguments.
func TestHuge(t *testing.T) {
	huge := long(100000)
	for _, n := range []api.Node{leaf(pair("a", "1")), fork(edges(by(1, long(16), ""))), {}, {Leaf: true, Pairs: make([]api.Pair, 100000)}, {Kids: make([]api.Edge, 100000)}} {
		for _, r := range []api.Range{from(huge), span(huge, huge+"a"), span("", huge), {Lo: "a", Hi: huge}, span("\x80", "\xc3\x28")} {
			for _, a := range []string{huge, huge + "b", "\x80", "\xc3\x28"} {
				if got, e := Trim(n, r, a); e != api.OK && !node.Same(got, api.Node{}) {
					t.Errorf("beside an error: %#v", got)
				}
			}
		}
	}
	if got, ok := Shift(way(huge, huge), huge+"a"); got != way("", huge+"a") || !ok {
		t.Error("Shift of huge texts")
	}
}

// above is the least key above all that begin so; false, if there is none.
func above(p string) (string, bool) {
	for i := len(p) - 1; i >= 0; i-- {
		if p[i] < 255 {
			return p[:i] + string([]byte{p[i] + 1}), true
		}
	}
	return "", false
}

func in(r api.Range, k string) bool { return k >= r.Lo && (!r.End || k < r.Hi) }

// allBegin tells whether a range has keys, and all of them begin so.
func allBegin(r api.Range, a string) bool {
	if r.End && r.Lo >= r.Hi || !strings.HasPrefix(r.Lo, a) {
		return false
	}
	end, ok := above(a)
	return !ok || r.End && r.Hi <= end
}

// trimmed is what the document says of Trim, of a node that may be.
func trimmed(n api.Node, r api.Range, a string) (api.Node, api.Errno) {
	if !allBegin(r, a) {
		return api.Node{}, api.ErrArg
	}
	got := api.Node{Leaf: n.Leaf}
	for _, p := range n.Pairs {
		if in(r, p.Key) {
			got.Pairs = append(got.Pairs, pair(strings.TrimPrefix(p.Key, a), p.Value))
		}
	}
	for i, kid := range n.Kids {
		// Of the keys of the range and of the kid's range the first one is that with which one of them begins.
		first := r.Lo
		if i > 0 {
			first = max(first, n.Pivots[i-1])
		}
		if !in(r, first) || i < len(n.Pivots) && first >= n.Pivots[i] {
			continue
		}
		l, ok := shifted(kid.Lift, a)
		if !ok || len(l.Add) > 16 || len(l.Strip) > 16 {
			return api.Node{}, api.ErrArg
		}
		if len(got.Kids) > 0 {
			got.Pivots = append(got.Pivots, strings.TrimPrefix(n.Pivots[i-1], a))
		}
		got.Kids = append(got.Kids, api.Edge{Block: kid.Block, Deep: kid.Deep, Lift: l})
	}
	for _, m := range n.Buffer {
		if short, touches := said(m, r, a); touches {
			if len(short.Add) > 16 {
				return api.Node{}, api.ErrArg
			}
			got.Buffer = append(got.Buffer, short)
		}
	}
	return got, api.OK
}

// said is what a message says of a range whose keys all begin so, and whether it says anything.
func said(m api.Msg, r api.Range, a string) (api.Msg, bool) {
	if m.Kind != api.Goto {
		touches := in(r, m.Key)
		m.Key = strings.TrimPrefix(m.Key, a)
		return m, touches
	}
	touches := in(r, max(r.Lo, m.Key)) && strings.HasPrefix(max(r.Lo, m.Key), m.Key)
	if behind, ok := strings.CutPrefix(m.Key, a); ok {
		m.Key = behind
	} else {
		m.Add += strings.TrimPrefix(a, m.Key)
		m.Key = ""
	}
	return m, touches
}

// world makes nodes by chance, many of whose keys begin the same way.
type world struct {
	*rand.Rand
	keys []string
}

func newWorld(seed int64) world {
	return world{rand.New(rand.NewSource(seed)), words(few, 2)}
}

func (w world) some() string { return w.keys[w.Intn(len(w.keys))] }

// near is a key that mostly begins with a.
func (w world) near(a string) string {
	if w.Intn(5) == 0 {
		return w.some()
	}
	return a + w.some()
}

// rising are up to so many keys that rise.
func (w world) rising(most int, a string) []string {
	var all []string
	for range w.Intn(most + 1) {
		all = append(all, w.near(a))
	}
	slices.Sort(all)
	return slices.Compact(all)
}

// add is what a lift puts there: nothing, a little, now and then nearly all that may be.
func (w world) add() string {
	switch w.Intn(12) {
	case 0:
		return long(16 - w.Intn(4))
	case 1, 2, 3:
		return w.some()
	}
	return ""
}

// lift is one that mostly goes from keys that begin with a.
func (w world) lift(a string) api.Lift {
	switch w.Intn(10) {
	case 0:
		return way(w.some(), w.add())
	case 1, 2:
		return way(a+w.some(), w.add())
	case 3, 4:
		return way(a, w.add())
	}
	return way(a[:w.Intn(len(a)+1)], w.add())
}

func (w world) msg(a string) api.Msg {
	k := w.near(a)
	switch w.Intn(3) {
	case 0:
		return put(k, w.some())
	case 1:
		return del(k)
	}
	return far(k[:w.Intn(len(k)+1)], w.Uint32(), w.add())
}

// node is one that may be.
func (w world) node(a string) api.Node {
	if w.Intn(4) == 0 {
		n := leaf()
		for _, k := range w.rising(16, a) {
			n.Pairs = append(n.Pairs, pair(k, w.some()))
		}
		return n
	}
	empty := func(k string) bool { return k == "" }
	n := fork(nil, slices.DeleteFunc(w.rising(7, a), empty)...)
	for range len(n.Pivots) + 1 {
		n.Kids = append(n.Kids, api.Edge{Block: w.Uint32(), Deep: uint16(w.Intn(1<<16-1) + 1), Lift: w.lift(a)})
	}
	for range w.Intn(17) * w.Intn(2) {
		n.Buffer = append(n.Buffer, w.msg(a))
	}
	return n
}

// span is a range, of which mostly all keys begin with a.
func (w world) span(a string) api.Range {
	of := key.Of(a)
	switch w.Intn(6) {
	case 0:
		return api.Range{Lo: w.near(a), Hi: w.near(a), End: w.Intn(4) > 0}
	case 1:
		return of
	case 2:
		return api.Range{Lo: w.near(a), Hi: of.Hi, End: of.End}
	case 3:
		return span(a, w.near(a))
	}
	two := []string{a + w.some(), a + w.some()}
	slices.Sort(two)
	return span(two[0], two[1]+"\x00")
}

// asked are keys at and beside all that a node and a range speak of.
func asked(n api.Node, r api.Range) []string {
	all := []string{"", r.Lo, r.Hi}
	for _, p := range n.Pairs {
		all = append(all, p.Key)
	}
	all = append(all, n.Pivots...)
	for _, m := range n.Buffer {
		all = append(all, m.Key)
	}
	for _, kid := range n.Kids {
		all = append(all, kid.Lift.Strip)
	}
	for _, k := range slices.Clone(all) {
		all = append(all, k+"\x00", k+"a", k+"\xff")
		if last := len(k) - 1; last >= 0 && k[last] > 0 {
			all = append(all, k[:last]+string([]byte{k[last] - 1})+"\xff")
		}
	}
	return all
}

// P11.1, P11.2: Trim of mixed nodes, by mixed ranges and beginnings: what is answered, that it may be, and where keys lead in it.
func TestMixed(t *testing.T) {
	w := newWorld(111)
	seen := map[string]int{}
	for range 30000 {
		a := w.some()
		n, r := w.node(a), w.span(a)
		if w.Intn(3) == 0 {
			a = a[:w.Intn(len(a)+1)]
		}
		if e := node.May(n); e != api.OK {
			t.Fatalf("%#v may be: %v", n, e)
		}
		want, wantErr := trimmed(n, r, a)
		got, e := Trim(n, r, a)
		if !node.Same(got, want) || e != wantErr {
			t.Fatalf("Trim of %#v by %#v, %q: %#v %v, not %#v %v", n, r, a, got, e, want, wantErr)
		}
		if e != api.OK {
			seen["refused"]++
			continue
		}
		if e := node.May(got); e != api.OK {
			t.Fatalf("Trim of %#v by %#v, %q: %#v may be: %v", n, r, a, got, e)
		}
		if len(got.Pairs) > 1 || len(got.Kids) > 1 || len(got.Buffer) > 1 {
			seen["more than one"]++
		}
		for _, k := range asked(n, r) {
			if k, begins := strings.CutPrefix(k, a); begins && in(r, a+k) {
				seen["keys"]++
				if is, was := node.Step(got, k), node.Step(n, a+k); is != was {
					t.Fatalf("%#v by %#v, %q: Step of %q: %#v, not %#v", n, r, a, k, is, was)
				}
			}
		}
	}
	if len(seen) != 3 || seen["refused"] < 5000 || seen["more than one"] < 5000 || seen["keys"] < 100000 {
		t.Errorf("too few of some: %v", seen)
	}
}

// P11.2: by a node of hand, key by key.
func TestWhereKeysLead(t *testing.T) {
	n := with(tall(), far("ba", 9, "q"), put("bab", "1"), del("bb"), far("bbc", 8, ""))
	got, e := Trim(n, key.Of("b"), "b")
	if e != api.OK {
		t.Fatal(e)
	}
	for k, want := range map[string]api.Way{
		"":    {Kind: 2, Block: 2, Deep: 3, Key: "x"},
		"Z":   {Kind: 2, Block: 2, Deep: 3, Key: "xZ"},
		"a":   {Kind: 2, Block: 9, Deep: 3, Key: "q"},
		"ab":  {Kind: 1, Value: "1"},
		"abc": {Kind: 2, Block: 9, Deep: 3, Key: "qbc"},
		"b":   {},
		"bb":  {Kind: 2, Block: 4, Deep: 5, Key: "b"},
		"bc":  {Kind: 2, Block: 8, Deep: 2},
		"bcd": {Kind: 2, Block: 8, Deep: 2, Key: "d"},
		// The kid from bb on goes from keys that begin with bb alone.
		"c":    {},
		"\xff": {},
	} {
		if is := node.Step(got, k); is != want || node.Step(n, "b"+k) != want {
			t.Errorf("Step of %q: %#v, and ahead of it %#v, not %#v", k, is, node.Step(n, "b"+k), want)
		}
	}
}

// smaller are the keys of a range of which those without a are in another one.
func smaller(r, without api.Range, a string) api.Range {
	return key.Cut(r, lift.Over(way("", a), without))
}

// P11.3: trimmed twice is trimmed once, by the smaller range and both beginnings, also where that is refused.
func TestTwice(t *testing.T) {
	w := newWorld(113)
	letters := words(few, 1)
	good, bad := 0, 0
	for range 40000 {
		a, b := letters[w.Intn(len(letters))], letters[w.Intn(len(letters))]
		n := w.node(a + b)
		r, inner := w.span(a), w.span(b)
		first, e := Trim(n, r, a)
		both := smaller(r, inner, a)
		if e != api.OK || !allBegin(inner, b) || key.Empty(both) {
			continue
		}
		twice, e := Trim(first, inner, b)
		once, wantErr := Trim(n, both, a+b)
		if !node.Same(twice, once) || e != wantErr {
			t.Fatalf("%#v by %#v, %q, and %#v, %q: %#v %v, not %#v %v", n, r, a, inner, b, twice, e, once, wantErr)
		}
		if e == api.OK {
			good++
		} else {
			bad++
		}
	}
	if good < 5000 || bad < 500 {
		t.Errorf("too few: %d, and %d refused", good, bad)
	}
}

// P11.3: by hand: a node, twice and once.
func TestTwiceByHand(t *testing.T) {
	n := with(fork(edges(by(1, "", ""), by(2, "ab", "x"), by(3, "abcd", ""), by(4, "", "")), "ab", "abc", "ac"),
		far("a", 9, "q"), put("abb", "1"), put("abcz", "2"), put("ad", "3"))
	want := with(fork(edges(by(2, "", "x"), by(3, "cd", "")), "c"), far("", 9, "qb"), put("b", "1"), put("cz", "2"))
	first, e := Trim(n, span("ab", "ad"), "a")
	if e != api.OK {
		t.Fatal(e)
	}
	twice, e := Trim(first, key.Of("b"), "b")
	if !node.Same(twice, want) || e != api.OK {
		t.Errorf("twice: %#v %v, not %#v", twice, e, want)
	}
	once, e := Trim(n, key.Of("ab"), "ab")
	if !node.Same(once, want) || e != api.OK {
		t.Errorf("once: %#v %v, not %#v", once, e, want)
	}
	// By nothing more it stays as it is.
	if again, e := Trim(twice, whole, ""); !node.Same(again, want) || e != api.OK {
		t.Errorf("once more: %#v %v", again, e)
	}
	low := leaf(pair("aa", "1"), pair("ab", "2"), pair("abc", "3"), pair("ac", "4"))
	first, _ = Trim(low, span("ab", "ac"), "a")
	twice, _ = Trim(first, from("b\x00"), "")
	once, _ = Trim(low, span("ab\x00", "ac"), "a")
	if want := leaf(pair("bc", "3")); !node.Same(twice, want) || !node.Same(once, want) {
		t.Errorf("a leaf: %#v, %#v", twice, once)
	}
}

// P0.4: nil lists and empty ones.
func TestNoLists(t *testing.T) {
	for _, isLeaf := range []bool{false, true} {
		none := api.Node{Leaf: isLeaf}
		empty := api.Node{Leaf: isLeaf, Pairs: []api.Pair{}, Pivots: []string{}, Kids: []api.Edge{}, Buffer: []api.Msg{}}
		if !isLeaf {
			none.Kids, empty.Kids = edges(by(1, "", "")), edges(by(1, "", ""))
		}
		for _, a := range []string{"", "a", long(17)} {
			for _, r := range []api.Range{key.Of(a), {End: true}, whole} {
				one, e := Trim(none, r, a)
				other, e2 := Trim(empty, r, a)
				if !node.Same(one, other) || e != e2 {
					t.Errorf("Trim by %#v, %q: %#v %v, and %#v %v", r, a, one, e, other, e2)
				}
			}
		}
	}
	if _, e := Trim(api.Node{Pairs: []api.Pair{}, Pivots: []string{}, Kids: []api.Edge{}}, whole, ""); e != api.ErrForm {
		t.Errorf("nothing: %v", e)
	}
}

// scribble writes over a list, and over all the room behind its end.
func scribble[T any](l []T, with T) {
	l = l[:cap(l)]
	for i := range l {
		l[i] = with
	}
}

// scribbleAll writes over all lists of a node.
func scribbleAll(n api.Node) {
	scribble(n.Pairs, pair("junk", "junk"))
	scribble(n.Pivots, "junk")
	scribble(n.Kids, by(77, "junk", "junk"))
	scribble(n.Buffer, far("junk", 77, "junk"))
}

// roomy is a node whose lists have room behind their ends, in which something stands; and all of that room.
func roomy(of api.Node) (api.Node, api.Node) {
	whole := node.Own(of)
	whole.Pairs = append(whole.Pairs, pair("zz", "1"), pair("zzz", "2"))
	whole.Pivots = append(whole.Pivots, "zz", "zzz")
	whole.Kids = append(whole.Kids, by(55, "zz", ""), by(56, "", ""))
	whole.Buffer = append(whole.Buffer, put("zz", "1"), del("zz"))
	n := whole
	n.Pairs, n.Pivots = n.Pairs[:len(of.Pairs)], n.Pivots[:len(of.Pivots)]
	n.Kids, n.Buffer = n.Kids[:len(of.Kids)], n.Buffer[:len(of.Buffer)]
	return n, whole
}

// P0.3, P0.5: what is handed in stays as it was, also behind a list's end; nothing of it is shared with what is
// answered, nor that with what is answered the next time, which is the same.
func TestHandedIn(t *testing.T) {
	busy := with(tall(), far("b", 9, "q"), put("bab", "1"), del("bb"), put("zz", "2"))
	nodes := []api.Node{busy, tall(), leaf(pair("a", "1"), pair("b", "2"), pair("ba", "3"), pair("zz", "4")), leaf(), fork(edges(by(1, "", "")))}
	for _, n := range wrong() {
		nodes = append(nodes, n)
	}
	for _, of := range nodes {
		for _, c := range []struct {
			r api.Range
			a string
		}{{whole, ""}, {key.Of("b"), "b"}, {key.Of("b"), ""}, {span("ba", "bb\x00"), "b"}, {from("b"), ""}, {key.Of("q"), "z"}, {span("a", "a"), ""}} {
			n, all := roomy(of)
			before := node.Own(all)
			first, e := Trim(n, c.r, c.a)
			second, e2 := Trim(n, c.r, c.a)
			kept := node.Own(second)
			if alone, e3 := Trim(of, c.r, c.a); !node.Same(first, alone) || !node.Same(second, alone) || e != e2 || e != e3 {
				t.Errorf("otherwise the next time, or by what stands behind a list's end: %#v by %#v, %q", of, c.r, c.a)
			}
			scribbleAll(first)
			if !node.Same(all, before) || !node.Same(second, kept) {
				t.Errorf("what is answered shares something: %#v by %#v, %q", of, c.r, c.a)
			}
			scribbleAll(all)
			if !node.Same(second, kept) {
				t.Errorf("what is answered hangs on what was handed in: %#v by %#v, %q", of, c.r, c.a)
			}
		}
	}
}

// P11.1: messages of a trimmed node are those of layer 6, and each of its kids leads where one of the node's did.
func TestAsLayersSay(t *testing.T) {
	w := newWorld(116)
	for range 3000 {
		a := w.some()
		n, r := w.node(a), w.span(a)
		got, e := Trim(n, r, a)
		if e != api.OK {
			continue
		}
		buffer, _ := msg.Trim(n.Buffer, r, a)
		if !slices.Equal(got.Buffer, buffer) {
			t.Fatalf("messages of %#v by %#v, %q: %#v, not %#v", n, r, a, got.Buffer, buffer)
		}
		if len(got.Kids) == 0 {
			continue
		}
		at := node.Kid(n, r.Lo)
		for i, kid := range got.Kids {
			old := n.Kids[at+i]
			joined, _ := lift.Join(way("", a), old.Lift)
			if kid != (api.Edge{Block: old.Block, Deep: old.Deep, Lift: joined}) {
				t.Fatalf("kid %d of %#v by %#v, %q: %#v", i, n, r, a, kid)
			}
		}
	}
}
