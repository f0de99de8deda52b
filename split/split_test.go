package split

import (
	"math"
	"math/rand"
	"slices"
	"strings"
	"testing"

	"marcot/api"
	"marcot/key"
	"marcot/lift"
	"marcot/node"
	"marcot/trim"
)

func put(k, v string) api.Msg { return api.Msg{Kind: api.Put, Key: k, Value: v} }

func del(k string) api.Msg { return api.Msg{Kind: api.Delete, Key: k} }

// far is a Goto; its number tells it from others.
func far(k string, block uint32, add string) api.Msg {
	return api.Msg{Kind: api.Goto, Key: k, Block: block, Deep: uint16(block%7) + 1, Add: add}
}

// by is a kid with a lift; its number tells it from others.
func by(block uint32, strip, add string) api.Edge {
	return api.Edge{Block: block, Deep: uint16(block%9) + 1, Lift: way(strip, add)}
}

func way(strip, add string) api.Lift { return api.Lift{Strip: strip, Add: add} }

func pair(k, v string) api.Pair { return api.Pair{Key: k, Value: v} }

func leaf(pairs ...api.Pair) api.Node { return api.Node{Leaf: true, Pairs: pairs} }

// keyed is a leaf with these keys, the value of each of which tells it from others.
func keyed(keys ...string) api.Node {
	n := leaf()
	for _, k := range keys {
		n.Pairs = append(n.Pairs, pair(k, "v"+k))
	}
	return n
}

// fork is a node with these kids, and these pivots between them.
func fork(kids []api.Edge, pivots ...string) api.Node {
	return api.Node{Kids: kids, Pivots: pivots}
}

func edges(l ...api.Edge) []api.Edge { return l }

// with is a node with these messages.
func with(n api.Node, l ...api.Msg) api.Node {
	n.Buffer = l
	return n
}

// span is the range from lo on, ahead of hi.
func span(lo, hi string) api.Range { return api.Range{Lo: lo, Hi: hi, End: true} }

// from is the range from lo on, without an end.
func from(lo string) api.Range { return api.Range{Lo: lo} }

// all is the range of all keys.
var all = api.Range{}

// long is a text of so many bytes.
func long(n int) string { return strings.Repeat("\xff", n) }

// letters are so many keys that rise: a and so on.
func letters(n int) []string {
	var some []string
	for i := range n {
		some = append(some, string([]byte{'a' + byte(i)}))
	}
	return some
}

// leafOf is a leaf with so many pairs: with the keys a and so on.
func leafOf(n int) api.Node { return keyed(letters(n)...) }

// forkOf is a node with so many kids, ahead of the pivots a, between them, and so on.
func forkOf(n int) api.Node {
	f := fork(nil, letters(n-1)...)
	for i := range n {
		f.Kids = append(f.Kids, by(uint32(i)+1, "", ""))
	}
	return f
}

// tall is a node with a kid for keys below b, from b, from ba, from bb, and from c on.
func tall() api.Node {
	return fork(edges(by(1, "", ""), by(2, "b", "x"), by(3, "", "y"), by(4, "bb", ""), by(5, "", "")), "b", "ba", "bb", "c")
}

func piece(lo, strip string, n api.Node) api.Piece { return api.Piece{Lo: lo, Strip: strip, Node: n} }

func pieces(l ...api.Piece) []api.Piece { return l }

// same tells whether two pieces have the same fields.
func same(a, b api.Piece) bool {
	return a.Lo == b.Lo && a.Strip == b.Strip && node.Same(a.Node, b.Node)
}

func allSame(a, b []api.Piece) bool { return slices.EqualFunc(a, b, same) }

// P12.1: the document's example.
func TestExample(t *testing.T) {
	if mid, ok := Mid(keyed("a", "abc", "abd")); mid != "abd" || !ok {
		t.Errorf("Mid: %q %v", mid, ok)
	}
}

// P12.1: the middle of leaves, of an even and an odd number of pairs.
func TestMidOfLeaves(t *testing.T) {
	for _, c := range []struct {
		n    api.Node
		want string
	}{
		{keyed("a", "b"), "b"},
		{keyed("", "a"), "a"},
		{keyed("", "abc"), "a"},
		{keyed("a", "a\x00"), "a\x00"},
		{keyed("a", "abcd"), "ab"},
		{keyed("abc", "abzz"), "abz"},
		{keyed("abc", "b"), "b"},
		{keyed("abc", "bcd"), "b"},
		{keyed("ab", "acde"), "ac"},
		{keyed("\xfe", "\xff\xff"), "\xff"},
		{keyed(long(15), long(16)), long(16)},
		// Key number 2 of 3, of 4; 3 of 5, of 6.
		{keyed("a", "ab", "abc"), "abc"},
		{keyed("a", "bbb", "ccc"), "c"},
		{keyed("a", "bbb", "ccc", "ddd"), "c"},
		{keyed("a", "bbb", "bcc", "bcd"), "bc"},
		{keyed("a", "b", "c", "dd", "ee"), "d"},
		{keyed("a", "b", "c", "dd", "ee", "ff"), "d"},
		{leafOf(15), "i"},
		{leafOf(16), "i"},
	} {
		if got, ok := Mid(c.n); got != c.want || !ok {
			t.Errorf("Mid of %#v: %q %v, not %q", c.n.Pairs, got, ok, c.want)
		}
	}
}

// P12.1: the middle of nodes with an even and an odd number of kids; messages and lifts don't matter.
func TestMidOfKids(t *testing.T) {
	for _, c := range []struct {
		n    api.Node
		want string
	}{
		{forkOf(2), "a"},
		{forkOf(3), "b"},
		{forkOf(4), "b"},
		{forkOf(5), "c"},
		{forkOf(6), "c"},
		{forkOf(7), "d"},
		{forkOf(8), "d"},
		{tall(), "bb"},
		{with(tall(), put("a", "1"), far("", 9, "q"), del("c")), "bb"},
		{fork(edges(by(1, "", ""), by(1, "", "")), long(16)), long(16)},
		{fork(edges(by(1, "q", ""), by(2, "", long(16))), "\x00"), "\x00"},
	} {
		if got, ok := Mid(c.n); got != c.want || !ok {
			t.Errorf("Mid of %#v: %q %v, not %q", c.n, got, ok, c.want)
		}
	}
}

// small are nodes that may be, without a middle.
func small() map[string]api.Node {
	return map[string]api.Node{
		"no pair":              leaf(),
		"a pair":               leafOf(1),
		"the empty key":        keyed(""),
		"a kid":                forkOf(1),
		"a kid with a lift":    fork(edges(by(1, "a", "b"))),
		"a kid, many messages": with(forkOf(1), slices.Repeat([]api.Msg{put("a", ""), far("b", 9, "")}, 8)...),
	}
}

// P12.1: no middle of what is too small, and of nodes that may not be.
func TestNoMid(t *testing.T) {
	for what, n := range small() {
		if got, ok := Mid(n); got != "" || ok {
			t.Errorf("%s: Mid: %q %v", what, got, ok)
		}
	}
	for what, n := range wrong() {
		if got, ok := Mid(n); got != "" || ok {
			t.Errorf("%s: Mid: %q %v", what, got, ok)
		}
	}
}

// one says that Whole, and Pieces where nothing is too much, answer a piece.
func one(t *testing.T, what string, n api.Node, r api.Range, want api.Piece) {
	t.Helper()
	got, e := Whole(n, r)
	if !same(got, want) || e != api.OK {
		t.Errorf("%s: Whole of %#v in %#v: %#v %v, not %#v", what, n, r, got, e, want)
	}
	l, e := Pieces(n, r, 8, 16)
	if !allSame(l, pieces(want)) || e != api.OK {
		t.Errorf("%s: Pieces of %#v in %#v: %#v %v, not %#v", what, n, r, l, e, want)
	}
}

// P12.1: Whole, of leaves.
func TestWholeLeaf(t *testing.T) {
	n := keyed("a", "ab", "abc", "b", "\xff")
	p := n.Pairs
	for _, c := range []struct {
		what string
		r    api.Range
		want api.Piece
	}{
		{"all keys", all, piece("", "", n)},
		{"a Hi that doesn't count", api.Range{Hi: "ab"}, piece("", "", n)},
		{"from a key on", from("ab"), piece("ab", "", leaf(p[1:]...))},
		{"without an end, and all begin so", from("\xff"), piece("\xff", "\xff", leaf(pair("", "v\xff")))},
		{"all that begin so", key.Of("a"), piece("a", "a", leaf(pair("", "va"), pair("b", "vab"), pair("bc", "vabc")))},
		{"some that begin so", span("aa", "abc"), piece("aa", "a", leaf(pair("b", "vab")))},
		{"two beginnings", span("ab", "c"), piece("ab", "", leaf(p[1:4]...))},
		{"a key alone", span("abc", "abc\x00"), piece("abc", "abc", leaf(pair("", "vabc")))},
		{"none of the pairs", span("ca", "cb"), piece("ca", "ca", leaf())},
		{"a beginning longer than keys", from(long(20)), piece(long(20), long(20), leaf())},
		{"Lo isn't what all begin with", span("a\x00", "ab"), piece("a\x00", "a", leaf())},
	} {
		one(t, c.what, n, c.r, c.want)
	}
	one(t, "no pair", leaf(), all, piece("", "", leaf()))
	one(t, "no pair, a beginning", leaf(), key.Of("abc"), piece("abc", "abc", leaf()))
	one(t, "one pair", keyed("ab"), key.Of("a"), piece("a", "a", leaf(pair("b", "vab"))))
}

// P12.1: Whole, of nodes with kids.
func TestWholeKids(t *testing.T) {
	n := with(tall(), far("", 9, "q"), put("a", "1"), del("bb"), far("b", 8, ""))
	k := n.Kids
	for _, c := range []struct {
		what string
		r    api.Range
		want api.Piece
	}{
		{"all keys", all, piece("", "", n)},
		{"from a pivot on", from("bb"), piece("bb", "", with(fork(k[3:], "c"), n.Buffer[0], n.Buffer[2], n.Buffer[3]))},
		{"from just behind a pivot on", from("c\x00"), piece("c\x00", "", with(fork(k[4:]), n.Buffer[0]))},
		{
			"all that begin so", key.Of("b"),
			piece("b", "b", with(fork(edges(by(2, "", "x"), by(3, "", "yb"), by(4, "b", "")), "a", "b"), far("", 9, "qb"), del("b"), far("", 8, ""))),
		},
		{"some that begin so", span("ba", "bax"), piece("ba", "ba", with(fork(edges(by(3, "", "yba"))), far("", 9, "qba"), far("", 8, "a")))},
		{"one kid", span("", "a\x00"), piece("", "", with(fork(k[:1]), n.Buffer[:2]...))},
	} {
		one(t, c.what, n, c.r, c.want)
	}
	one(t, "one kid", fork(edges(by(1, "ab", "x"))), key.Of("a"), piece("a", "a", fork(edges(by(1, "b", "x")))))
}

// two says that Halves, and Pieces where there is too much, answer two pieces.
func two(t *testing.T, what string, n api.Node, r api.Range, first, second api.Piece) {
	t.Helper()
	want := pieces(first, second)
	if got, e := Halves(n, r); !allSame(got, want) || e != api.OK {
		t.Errorf("%s: Halves of %#v in %#v: %#v %v, not %#v", what, n, r, got, e, want)
	}
	if got, e := Pieces(n, r, 1, 1); !allSame(got, want) || e != api.OK {
		t.Errorf("%s: Pieces of %#v in %#v: %#v %v, not %#v", what, n, r, got, e, want)
	}
}

// P12.1: Halves, of leaves.
func TestHalvesOfLeaves(t *testing.T) {
	for _, c := range []struct {
		what          string
		n             api.Node
		r             api.Range
		first, second api.Piece
	}{
		{"two pairs", leafOf(2), all, piece("", "", leafOf(1)), piece("b", "", keyed("b"))},
		{"an odd number", leafOf(3), all, piece("", "", leafOf(2)), piece("c", "", keyed("c"))},
		{"an even number", leafOf(4), all, piece("", "", leafOf(2)), piece("c", "", keyed("c", "d"))},
		{"the most", leafOf(16), all, piece("", "", leafOf(8)), piece("i", "", leaf(leafOf(16).Pairs[8:]...))},
		{"a Hi that doesn't count", leafOf(2), api.Range{Hi: "a"}, piece("", "", leafOf(1)), piece("b", "", keyed("b"))},
		{
			"the middle is a beginning, not a key", keyed("ab", "cde"), all,
			piece("", "", keyed("ab")), piece("c", "", keyed("cde")),
		},
		{
			"Strip of the second", keyed("aa", "ab", "bcd", "bce"), span("", "bd"),
			piece("", "", keyed("aa", "ab")), piece("b", "b", leaf(pair("cd", "vbcd"), pair("ce", "vbce"))),
		},
		{
			"Strip of both, as of the range", keyed("aa", "ab", "ac"), key.Of("a"),
			piece("a", "a", leaf(pair("a", "vaa"), pair("b", "vab"))), piece("ac", "a", leaf(pair("c", "vac"))),
		},
		{
			"Strip of both, longer than of the range", keyed("ab", "abc", "ac"), span("ab", "ad"),
			piece("ab", "ab", leaf(pair("", "vab"), pair("c", "vabc"))), piece("ac", "ac", leaf(pair("", "vac"))),
		},
		{
			"bytes 255, without an end", keyed("\xff", "\xffa", "\xff\xff", long(16)), from("\xff"),
			piece("\xff", "\xff", leaf(pair("", "v\xff"), pair("a", "v\xffa"))),
			piece("\xff\xff", "\xff\xff", leaf(pair("", "v\xff\xff"), pair(long(14), "v"+long(16)))),
		},
		{
			"pairs that aren't in the range", leafOf(6), span("b", "e"),
			piece("b", "", keyed("b", "c")), piece("d", "d", leaf(pair("", "vd"))),
		},
		{"all pairs of the first aren't", leafOf(4), from("bb"), piece("bb", "b", leaf()), piece("c", "", keyed("c", "d"))},
		{"all pairs of the second aren't", keyed("a", "b", "cx", "d"), span("", "cd"), piece("", "", leafOf(2)), piece("c", "c", leaf())},
	} {
		two(t, c.what, c.n, c.r, c.first, c.second)
	}
}

// P12.1: Halves, of nodes with kids and messages.
func TestHalvesOfKids(t *testing.T) {
	n := with(tall(), far("", 9, "q"), put("a", "1"), del("bb"), far("b", 8, ""), put("c", "2"), put("ba\xff", "3"), far("bb", 7, "z"))
	k, m := n.Kids, n.Buffer
	busy := with(forkOf(4), put("a", "1"), put("b", "2"))
	for _, c := range []struct {
		what          string
		n             api.Node
		r             api.Range
		first, second api.Piece
	}{
		{"two kids", forkOf(2), all, piece("", "", forkOf(1)), piece("a", "", fork(edges(by(2, "", ""))))},
		{"an odd number", forkOf(3), all, piece("", "", forkOf(2)), piece("b", "", fork(edges(by(3, "", ""))))},
		{"an even number", busy, all, piece("", "", with(forkOf(2), put("a", "1"))), piece("b", "", with(fork(busy.Kids[2:], "c"), put("b", "2")))},
		{"the most", forkOf(8), all, piece("", "", forkOf(4)), piece("d", "", fork(forkOf(8).Kids[4:], "e", "f", "g"))},
		{
			"messages on both sides", n, all,
			piece("", "", with(fork(k[:3], "b", "ba"), m[0], m[1], m[3], m[5])),
			piece("bb", "", with(fork(k[3:], "c"), m[0], m[2], m[3], m[4], m[6])),
		},
		{
			"Strip of both", n, key.Of("b"),
			piece("b", "b", with(fork(edges(by(2, "", "x"), by(3, "", "yb")), "a"), far("", 9, "qb"), far("", 8, ""), put("a\xff", "3"))),
			piece("bb", "b", with(fork(edges(by(4, "b", ""))), far("", 9, "qb"), del("b"), far("", 8, ""), far("b", 7, "z"))),
		},
		{
			"longer Strips", n, span("ba", "bc"),
			piece("ba", "ba", with(fork(edges(by(3, "", "yba"))), far("", 9, "qba"), far("", 8, "a"), put("\xff", "3"))),
			piece("bb", "bb", with(fork(edges(by(4, "", ""))), far("", 9, "qbb"), del(""), far("", 8, "b"), far("", 7, "z"))),
		},
		{
			"a kid with which nothing goes on, without Strip", fork(edges(by(1, "", ""), by(2, "q", "")), "m"), all,
			piece("", "", fork(edges(by(1, "", "")))), piece("m", "", fork(edges(by(2, "q", "")))),
		},
	} {
		two(t, c.what, c.n, c.r, c.first, c.second)
	}
}

// P12.1: a middle that is the range's Lo, beside it, and beside the range's end.
func TestMiddleAtEdges(t *testing.T) {
	n := keyed("a", "abc", "abd")
	two(t, "just behind Lo", keyed("a", "a\x00"), from("a"), piece("a", "a", leaf(pair("", "va"))), piece("a\x00", "", keyed("a\x00")))
	two(t, "just behind Lo, of kids", fork(edges(by(1, "", ""), by(2, "", "")), "a\x00"), from("a"), piece("a", "a", fork(edges(by(1, "", "a")))), piece("a\x00", "", fork(edges(by(2, "", "")))))
	two(t, "just ahead of the end", n, span("", "abd\x00"), piece("", "", keyed("a", "abc")), piece("abd", "abd", leaf(pair("", "vabd"))))
	two(t, "a key between", n, span("abc\xff", "abe"), piece("abc\xff", "abc\xff", leaf()), piece("abd", "abd", leaf(pair("", "vabd"))))
	for what, r := range map[string]api.Range{
		"Lo":                     from("abd"),
		"Lo, and an end":         span("abd", "b"),
		"Lo, the only key":       span("abd", "abd\x00"),
		"just ahead of Lo":       from("abd\x00"),
		"ahead of Lo":            span("b", "c"),
		"the end":                span("", "abd"),
		"just behind the end":    span("a", "abc\xff"),
		"behind the end":         span("", "a"),
		"Lo of an empty range":   span("abd", "abd"),
		"of a range turned":      span("b", "a"),
		"of the empty range":     {End: true},
		"Lo of all that begin":   key.Of("abd"),
		"outside, by one letter": key.Of("abc"),
	} {
		noHalves(t, what, n, r, api.ErrArg)
	}
	for what, r := range map[string]api.Range{
		"kids: Lo":               from("bb"),
		"kids: Lo of all so":     key.Of("bb"),
		"kids: just ahead of Lo": from("bb\x00"),
		"kids: the end":          key.Of("ba"),
		"kids: behind the end":   span("", "ba\xff"),
		"kids: an empty range":   {End: true},
	} {
		noHalves(t, what, tall(), r, api.ErrArg)
	}
	noHalves(t, "the end, and Lo is empty", keyed("", "a"), span("", "a"), api.ErrArg)
}

// noHalves says that Halves, and Pieces where there is too much, answer an error, and no piece.
func noHalves(t *testing.T, what string, n api.Node, r api.Range, want api.Errno) {
	t.Helper()
	if got, e := Halves(n, r); len(got) != 0 || e != want {
		t.Errorf("%s: Halves in %#v: %#v %v, not %v", what, r, got, e, want)
	}
	if got, e := Pieces(n, r, math.MinInt, -1); len(got) != 0 || e != want {
		t.Errorf("%s: Pieces in %#v: %#v %v, not %v", what, r, got, e, want)
	}
}

// noWhole says that Whole, and Pieces where nothing is too much, answer an error, and no piece.
func noWhole(t *testing.T, what string, n api.Node, r api.Range, want api.Errno) {
	t.Helper()
	if got, e := Whole(n, r); !same(got, api.Piece{}) || e != want {
		t.Errorf("%s: Whole in %#v: %#v %v, not %v", what, r, got, e, want)
	}
	if got, e := Pieces(n, r, math.MaxInt, math.MaxInt); len(got) != 0 || e != want {
		t.Errorf("%s: Pieces in %#v: %#v %v, not %v", what, r, got, e, want)
	}
}

// P12.1: Pieces: just as many pairs and kids as asked for, and one more; pairs of leaves alone, kids of others alone.
func TestPieces(t *testing.T) {
	for n := range 17 {
		for asked := -1; asked <= 17; asked++ {
			for _, fan := range []int{math.MinInt, 0, n, math.MaxInt} {
				counted(t, leafOf(n), fan, asked, n > asked, n > 1)
			}
		}
	}
	for n := 1; n <= 8; n++ {
		for asked := -1; asked <= 9; asked++ {
			for _, pairs := range []int{math.MinInt, 0, n, math.MaxInt} {
				counted(t, forkOf(n), asked, pairs, n > asked, n > 1)
				counted(t, with(forkOf(n), slices.Repeat([]api.Msg{put("a", "")}, 16)...), asked, pairs, n > asked, n > 1)
			}
		}
	}
}

// counted says that Pieces answer Halves, if there is too much, which are refused, if nothing can be parted; else Whole.
func counted(t *testing.T, n api.Node, fan, pairs int, tooMuch, canPart bool) {
	t.Helper()
	got, e := Pieces(n, all, fan, pairs)
	switch {
	case tooMuch && canPart:
		if want, _ := Halves(n, all); !allSame(got, want) || len(got) != 2 || e != api.OK {
			t.Errorf("Pieces by %d, %d of %#v: %#v %v, not two", fan, pairs, n, got, e)
		}
	case tooMuch:
		if len(got) != 0 || e != api.ErrArg {
			t.Errorf("Pieces by %d, %d of %#v: %#v %v, not ErrArg", fan, pairs, n, got, e)
		}
	default:
		if !allSame(got, pieces(piece("", "", n))) || e != api.OK {
			t.Errorf("Pieces by %d, %d of %#v: %#v %v, not one", fan, pairs, n, got, e)
		}
	}
}

// wrong are nodes that may not be: of each sort that layer 7 names.
func wrong() map[string]api.Node {
	three := edges(by(1, "", ""), by(2, "", ""), by(3, "", ""))
	nodes := wrongLeaves()
	for what, n := range map[string]api.Node{
		"nothing":               {},
		"kids and a pair":       {Kids: three, Pivots: []string{"a", "b"}, Pairs: []api.Pair{pair("a", "")}},
		"pairs, and no leaf":    {Pairs: leafOf(4).Pairs},
		"no kid, a pivot":       fork(nil, "a"),
		"9 kids":                fork(slices.Repeat(three, 3), letters(8)...),
		"a pivot too many":      fork(three, "a", "b", "c"),
		"a pivot too few":       fork(three, "a"),
		"no pivot":              fork(three),
		"an empty pivot":        fork(three, "", "a"),
		"pivots that fall":      fork(three, "b", "a"),
		"a pivot twice":         fork(three, "a", "a"),
		"a pivot too long":      fork(three, "a", long(17)),
		"a kid of no depth":     fork(edges(by(1, "", ""), by(2, "", ""), api.Edge{Block: 1}), "a", "b"),
		"a Strip of 17 bytes":   fork(edges(by(1, long(17), ""), by(2, "", "")), "a"),
		"an Add of 17 bytes":    fork(edges(by(1, "", ""), by(2, "", long(17))), "a"),
		"17 messages":           with(fork(three, "a", "b"), slices.Repeat([]api.Msg{put("a", "")}, 17)...),
		"a message of no Kind":  with(fork(three, "a", "b"), api.Msg{}),
		"a Put too long":        with(fork(three, "a", "b"), put(long(17), "")),
		"a Goto of no depth":    with(fork(three, "a", "b"), api.Msg{Kind: api.Goto, Key: "a"}),
		"a Goto's Add too long": with(fork(three, "a", "b"), far("a", 1, long(17))),
	} {
		nodes[what] = n
	}
	return nodes
}

// wrongLeaves are leaves that may not be.
func wrongLeaves() map[string]api.Node {
	extra := func(change func(n *api.Node)) api.Node {
		n := leafOf(4)
		change(&n)
		return n
	}
	return map[string]api.Node{
		"keys that fall":        keyed("a", "c", "b"),
		"a key twice":           keyed("a", "b", "b"),
		"a key too long":        keyed("a", "b", long(17)),
		"a value too long":      leaf(pair("a", ""), pair("b", ""), pair("c", long(33))),
		"17 pairs":              leafOf(17),
		"30 pairs":              leafOf(30),
		"a leaf with a kid":     extra(func(n *api.Node) { n.Kids = edges(by(1, "", "")) }),
		"a leaf with kids":      extra(func(n *api.Node) { n.Kids, n.Pivots = forkOf(3).Kids, forkOf(3).Pivots }),
		"a leaf with a pivot":   extra(func(n *api.Node) { n.Pivots = []string{"c"} }),
		"a leaf with a message": extra(func(n *api.Node) { n.Buffer = []api.Msg{put("a", "")} }),
		"a leaf of kids alone":  {Leaf: true, Kids: forkOf(3).Kids, Pivots: forkOf(3).Pivots},
	}
}

// P12.1, P0.2: nodes that may not be are ErrForm, whatever else is wrong.
func TestWrongNodes(t *testing.T) {
	for what, n := range wrong() {
		for _, r := range []api.Range{all, {End: true}, span("b", "a"), span("a", "c"), key.Of("b"), from("z"), span("0", "1")} {
			noWhole(t, what, n, r, api.ErrForm)
			noHalves(t, what, n, r, api.ErrForm)
			for _, many := range []int{-1, 0, 2, 3, 8, 9, 16, 17} {
				if got, e := Pieces(n, r, many, many); len(got) != 0 || e != api.ErrForm {
					t.Errorf("%s: Pieces by %d in %#v: %#v %v, not ErrForm", what, many, r, got, e)
				}
			}
		}
	}
}

// P12.1: no middle is ErrArg; so is an empty range.
func TestNothingToPart(t *testing.T) {
	for what, n := range small() {
		for _, r := range []api.Range{all, {End: true}, span("b", "a"), from("a"), key.Of("a")} {
			noHalves(t, what, n, r, api.ErrArg)
		}
	}
	for _, n := range []api.Node{leaf(), leafOf(1), leafOf(16), forkOf(1), tall()} {
		for _, r := range []api.Range{{End: true}, span("b", "b"), span("b", "a"), span("a", ""), span(long(20), long(20))} {
			noWhole(t, "an empty range", n, r, api.ErrArg)
			noHalves(t, "an empty range", n, r, api.ErrArg)
		}
	}
}

// P12.1: layer 11's errors, of each of the pieces.
func TestTrimErrors(t *testing.T) {
	full := long(16)
	two := func(a, b api.Edge) api.Node { return fork(edges(a, b), "m") }
	for _, c := range []struct {
		what string
		n    api.Node
		r    api.Range
	}{
		{"the first half's lift doesn't go", two(by(1, "q", ""), by(2, "", "")), span("la", "n")},
		{"the second half's lift doesn't go", two(by(1, "", ""), by(2, "q", "")), span("a", "n")},
		{"the first half's Add", two(by(1, "", full), by(2, "", "")), span("la", "n")},
		{"the second half's Add", two(by(1, "", ""), by(2, "", full)), span("a", "n")},
		{"a Goto's Add in the first half", with(two(by(1, "", ""), by(2, "", "")), far("", 3, full)), span("la", "n\x00")},
		{"a Goto's Add in the second half", with(two(by(1, "", ""), by(2, "", "")), far("", 3, full)), span("a", "n")},
	} {
		if e := node.May(c.n); e != api.OK {
			t.Fatalf("%s: the node may be: %v", c.what, e)
		}
		noHalves(t, c.what, c.n, c.r, api.ErrArg)
		// What all keys of the range begin with is nothing, so that it may be had whole.
		one(t, c.what, c.n, c.r, piece(c.r.Lo, "", c.n))
	}
	noWhole(t, "a lift that goes from no such key", forkOf1("b", ""), key.Of("a"), api.ErrArg)
	noWhole(t, "an Add too long", forkOf1("", full), key.Of("a"), api.ErrArg)
	noWhole(t, "a Strip longer than an Add may be", forkOf1("", ""), from(long(17)), api.ErrArg)
	noWhole(t, "a Goto's Add", with(forkOf1("a", ""), far("", 2, full)), key.Of("a"), api.ErrArg)
	noWhole(t, "a lift, of two kids", two(by(1, "", ""), by(2, "ma", "")), span("mb", "mc"), api.ErrArg)
}

// forkOf1 is a node with one kid, by a lift.
func forkOf1(strip, add string) api.Node { return fork(edges(by(1, strip, add))) }

// joined says that Join answers a piece.
func joined(t *testing.T, what string, a, b api.Piece, r api.Range, want api.Piece) {
	t.Helper()
	if got, e := Join(a, b, r); !same(got, want) || e != api.OK {
		t.Errorf("%s: Join of %#v, %#v in %#v: %#v %v, not %#v", what, a, b, r, got, e, want)
	}
}

// P12.1: Join, of pieces with Strips of their own, and by ranges with theirs.
func TestJoin(t *testing.T) {
	none, first, second := piece("", "", leaf()), piece("", "", keyed("a", "b")), piece("c", "", keyed("c"))
	for _, c := range []struct {
		what string
		a, b api.Piece
		r    api.Range
		want api.Piece
	}{
		{"no Strip", first, second, all, piece("", "", keyed("a", "b", "c"))},
		{"a Hi that doesn't count", first, second, api.Range{Hi: "a"}, piece("", "", keyed("a", "b", "c"))},
		{"from Lo on", first, second, from("a"), piece("a", "", keyed("a", "b", "c"))},
		{"up to just ahead of the end", first, second, span("a", "c\x00"), piece("a", "", keyed("a", "b", "c"))},
		{"nothing and nothing", none, none, all, none},
		{"nothing and nothing, in a range with a beginning", none, none, key.Of("ab"), piece("ab", "ab", leaf())},
		{"nothing ahead", none, second, all, piece("", "", keyed("c"))},
		{"nothing behind", first, none, all, piece("", "", keyed("a", "b"))},
		{"nothing, whose Strip isn't in the range", piece("z", "z", leaf()), second, key.Of("c"), piece("c", "c", leaf(pair("", "vc")))},
		{
			"a Strip of the second", first, piece("b", "b", leaf(pair("cd", "1"), pair("ce", "2"))), span("", "bd"),
			piece("", "", leaf(pair("a", "va"), pair("b", "vb"), pair("bcd", "1"), pair("bce", "2"))),
		},
		{
			"a Strip of the first", piece("a", "ab", leaf(pair("", "1"), pair("c", "2"))), second, all,
			piece("", "", leaf(pair("ab", "1"), pair("abc", "2"), pair("c", "vc"))),
		},
		{
			"longer Strips than that of the range", piece("ba", "ba", leaf(pair("", "1"), pair("x", "2"))), piece("bb", "bbc", leaf(pair("", "3"))), key.Of("b"),
			piece("b", "b", leaf(pair("a", "1"), pair("ax", "2"), pair("bc", "3"))),
		},
		{
			"shorter Strips than that of the range", piece("", "", keyed("aba", "abb")), piece("", "a", leaf(pair("bc", "1"))), key.Of("ab"),
			piece("ab", "ab", leaf(pair("a", "vaba"), pair("b", "vabb"), pair("c", "1"))),
		},
		{
			"the range's Strip is shorter than its Lo", piece("", "", keyed("ab")), piece("", "a", leaf(pair("bc", "1"))), span("ab", "ad"),
			piece("ab", "a", leaf(pair("b", "vab"), pair("bc", "1"))),
		},
		{
			"bytes 255, without an end", piece("\xff", "\xff", leaf(pair("", "1"), pair("a", "2"))), piece("\xff\xff", long(2), leaf(pair(long(14), "3"))), from("\xff"),
			piece("\xff", "\xff", leaf(pair("", "1"), pair("a", "2"), pair(long(15), "3"))),
		},
		{"just beside each other", piece("", "", keyed("a")), piece("", "", keyed("a\x00")), all, piece("", "", keyed("a", "a\x00"))},
		{"the empty key", piece("", "", keyed("")), piece("", "", keyed("\x00")), all, piece("", "", keyed("", "\x00"))},
		{"ranges that have keys in common", piece("", "", keyed("a", "c")), piece("b", "", keyed("d", "e")), all, piece("", "", keyed("a", "c", "d", "e"))},
		{"Lo isn't asked", piece("z", "", keyed("a")), piece("0", "", keyed("b")), all, piece("", "", keyed("a", "b"))},
	} {
		joined(t, c.what, c.a, c.b, c.r, c.want)
	}
}

// run is a leaf's piece with so many pairs from a letter on, all of whose keys begin with a Strip.
func run(lo, strip string, first byte, n int) api.Piece {
	p := piece(lo, strip, leaf())
	for i := range n {
		p.Node.Pairs = append(p.Node.Pairs, pair(string([]byte{first + byte(i)}), "v"))
	}
	return p
}

// P12.1: Join, of just as many pairs as may be, and of one more.
func TestJoinMost(t *testing.T) {
	for n := range 17 {
		a, b := run("a", "b", 'A', n), run("b", "b", 'A'+byte(n), 16-n)
		joined(t, "the most", a, b, key.Of("b"), run("b", "b", 'A', 16))
		if n > 0 {
			notJoined(t, "one more", a, run("b", "b", 'A'+byte(n), 17-n), key.Of("b"), api.ErrMany)
		}
	}
	notJoined(t, "twice the most", run("", "", 'A', 16), run("", "", 'a', 16), all, api.ErrMany)
	joined(t, "keys of all bytes that one may have", piece("", long(10), leaf(pair(long(5), "1"))), piece("", long(14), leaf(pair(long(2), "2"))), all, piece("", "", leaf(pair(long(15), "1"), pair(long(16), "2"))))
	joined(t, "keys that get short again", piece("", long(10), leaf(pair("", "1"))), piece("", long(10), leaf(pair(long(16), "2"))), from(long(10)), piece(long(10), long(10), leaf(pair("", "1"), pair(long(16), "2"))))
	// How long keys get with a Strip ahead isn't asked.
	joined(t, "keys that get long", piece("", "a", leaf(pair(long(16), "1"))), piece("", long(16), leaf(pair("b", "2"))), all, piece("", "", leaf(pair("a"+long(16), "1"), pair(long(16)+"b", "2"))))
}

// notJoined says that Join answers an error, and no piece.
func notJoined(t *testing.T, what string, a, b api.Piece, r api.Range, want api.Errno) {
	t.Helper()
	if got, e := Join(a, b, r); !same(got, api.Piece{}) || e != want {
		t.Errorf("%s: Join of %#v, %#v in %#v: %#v %v, not %v", what, a, b, r, got, e, want)
	}
}

// P12.1, P0.2: Join of nodes that are no leaves, or may not be, is ErrForm, whatever else is wrong.
func TestJoinWrongNodes(t *testing.T) {
	nodes := wrong()
	nodes["a kid"], nodes["kids"], nodes["a kid with messages"] = forkOf(1), tall(), with(forkOf(1), put("a", ""))
	good := []api.Node{leaf(), keyed("x"), keyed("A"), leafOf(16)}
	for what, n := range nodes {
		for _, r := range []api.Range{all, {End: true}, span("b", "a"), key.Of("q"), from("a")} {
			for _, g := range good {
				notJoined(t, what+", ahead", piece("", "", n), piece("", "", g), r, api.ErrForm)
				notJoined(t, what+", behind", piece("", "", g), piece("", "", n), r, api.ErrForm)
			}
			notJoined(t, what+", twice", piece("", "q", n), piece("", "q", n), r, api.ErrForm)
		}
	}
}

// P12.1, P0.2: Join in an empty range, of keys that aren't in it, and of keys that don't rise, also if there are too many.
func TestJoinWrongKeys(t *testing.T) {
	none := piece("", "", leaf())
	for _, r := range []api.Range{{End: true}, span("b", "b"), span("b", "a"), span("a", ""), span(long(20), long(20))} {
		for _, p := range []api.Piece{none, piece("", "", keyed("a")), run("", "", 'a', 16)} {
			notJoined(t, "an empty range", p, none, r, api.ErrArg)
			notJoined(t, "an empty range", p, run("", "", 'b'+16, 16), r, api.ErrArg)
		}
	}
	abc, d := piece("", "", keyed("a", "b", "c")), piece("", "", keyed("d"))
	for _, c := range []struct {
		what string
		a, b api.Piece
		r    api.Range
	}{
		{"ahead of Lo", abc, d, from("a\x00")},
		{"just ahead of Lo, of the second", none, d, from("d\x00")},
		{"the end", abc, d, span("", "d")},
		{"the end, of the first", abc, none, span("", "c")},
		{"behind the end", abc, d, span("a", "c\x00")},
		{"a key outside alone", abc, none, key.Of("b")},
		{"without Strip it would be in", piece("", "x", keyed("a")), none, span("a", "b")},
		{"without Strip it would be in, of the second", none, piece("", "x", keyed("a")), span("a", "b")},
		{"Strip is in, and a key isn't", piece("", "b", keyed("c")), none, span("b", "bc")},
		{"outside, and too many", run("", "", 'a', 16), run("", "", 'q', 1), from("b")},
		{"all outside, and too many", run("", "", 'a', 16), run("", "", 'q', 16), from("z\xff")},
		{"a key twice", abc, piece("", "", keyed("c", "d")), all},
		{"a key twice, by Strips", piece("", "a", keyed("bc")), piece("", "ab", keyed("c")), all},
		{"the empty key twice", piece("", "", keyed("")), piece("", "", keyed("")), all},
		{"the second ahead of the first", d, abc, all},
		{"the second within the first", piece("", "", keyed("a", "d")), piece("", "", keyed("b", "c")), all},
		{"some of the second within the first", piece("", "", keyed("a", "c")), piece("", "", keyed("b", "d")), all},
		{"the second is all of the first", abc, abc, all},
		{"a beginning behind", piece("", "", keyed("ab")), piece("", "", keyed("a")), all},
		{"without Strips they would rise", piece("", "b", keyed("a")), piece("", "a", keyed("b")), all},
		{"not in the order of bytes", piece("", "", keyed("\xff")), piece("", "", keyed("\x7f")), all},
		{"they don't rise, and are too many", run("", "", 'b', 16), run("", "", 'a', 1), all},
		{"the most twice", run("", "", 'a', 16), run("", "", 'a', 16), all},
	} {
		notJoined(t, c.what, c.a, c.b, c.r, api.ErrArg)
	}
}

// above is the least key above all that begin so; false, if there is none.
func above(p string) (string, bool) {
	for i := len(p) - 1; i >= 0; i-- {
		if p[i] < 255 {
			return p[:i] + string([]byte{p[i] + 1}), true
		}
	}
	return "", false
}

func in(r api.Range, k string) bool { return k >= r.Lo && (!r.End || k < r.Hi) }

// begin is what all keys of a range begin with: of all beginnings of its first key the longest one that they have.
func begin(r api.Range) string {
	for n := len(r.Lo); n > 0; n-- {
		if end, ok := above(r.Lo[:n]); !ok || r.End && r.Hi <= end {
			return r.Lo[:n]
		}
	}
	return ""
}

// middle is what the document says of the middle of a node that may be.
func middle(n api.Node) (string, bool) {
	if pairs := len(n.Pairs); n.Leaf && pairs >= 2 {
		behind := n.Pairs[(pairs+1)/2].Key
		for i := range behind {
			if behind[:i] > n.Pairs[(pairs+1)/2-1].Key {
				return behind[:i], true
			}
		}
		return behind, true
	}
	for i, pivot := range n.Pivots {
		// Of the kid behind it the number is one more.
		if i+1 == (len(n.Kids)+1)/2 {
			return pivot, true
		}
	}
	return "", false
}

// parted is what the document says of pieces of a node that may be, in ranges.
func parted(n api.Node, parts ...api.Range) ([]api.Piece, api.Errno) {
	var l []api.Piece
	for _, r := range parts {
		part, e := trim.Trim(n, r, begin(r))
		if e != api.OK {
			return nil, e
		}
		l = append(l, piece(r.Lo, begin(r), part))
	}
	return l, api.OK
}

// byMiddle are the two ranges into which a node's middle parts a range.
func byMiddle(n api.Node, r api.Range) ([]api.Range, bool) {
	mid, ok := middle(n)
	if !ok || !in(r, mid) || r.Lo == mid {
		return nil, false
	}
	return []api.Range{span(r.Lo, mid), {Lo: mid, Hi: r.Hi, End: r.End}}, true
}

// halves is what the document says of Halves of a node that may be.
func halves(n api.Node, r api.Range) ([]api.Piece, api.Errno) {
	parts, ok := byMiddle(n, r)
	if !ok {
		return nil, api.ErrArg
	}
	return parted(n, parts...)
}

// together is what the document says of Join, of leaves that may be.
func together(a, b api.Piece, r api.Range) (api.Piece, api.Errno) {
	n := leaf()
	for _, p := range []api.Piece{a, b} {
		for _, of := range p.Node.Pairs {
			n.Pairs = append(n.Pairs, pair(p.Strip+of.Key, of.Value))
		}
	}
	wrong := r.End && r.Hi <= r.Lo
	for i, p := range n.Pairs {
		wrong = wrong || !in(r, p.Key) || i > 0 && p.Key <= n.Pairs[i-1].Key
	}
	switch {
	case wrong:
		return api.Piece{}, api.ErrArg
	case len(n.Pairs) > 16:
		return api.Piece{}, api.ErrMany
	}
	for i := range n.Pairs {
		n.Pairs[i].Key = strings.TrimPrefix(n.Pairs[i].Key, begin(r))
	}
	return piece(r.Lo, begin(r), n), api.OK
}

// words are all keys of at most so many of these letters, the empty one too.
func words(letters string, most int) []string {
	all := []string{""}
	from := 0
	for range most {
		upto := len(all)
		for _, w := range all[from:upto] {
			for i := range len(letters) {
				all = append(all, w+letters[i:i+1])
			}
		}
		from = upto
	}
	return all
}

// The letters of small worlds: the least and the greatest byte, and two between.
const few = "\x00ab\xff"

// world makes nodes by chance, many of whose keys begin the same way.
type world struct {
	*rand.Rand
	keys []string
}

func newWorld(seed int64) world {
	return world{rand.New(rand.NewSource(seed)), words(few, 3)}
}

func (w world) some() string { return w.keys[w.Intn(len(w.keys))] }

// near is a key that mostly begins with a.
func (w world) near(a string) string {
	if w.Intn(8) == 0 {
		return w.some()
	}
	return a + w.some()
}

// rising are up to so many keys that rise.
func (w world) rising(most int, a string) []string {
	var l []string
	for range w.Intn(most + 1) {
		l = append(l, w.near(a))
	}
	slices.Sort(l)
	return slices.Compact(l)
}

// add is what a lift puts there: nothing, a little, now and then nearly all that may be.
func (w world) add() string {
	switch w.Intn(12) {
	case 0:
		return long(16 - w.Intn(3))
	case 1, 2, 3:
		return w.some()
	}
	return ""
}

// strip is what a lift takes away: mostly what all keys begin with that are near a.
func (w world) strip(a string) string {
	if w.Intn(15) == 0 {
		return a + w.some()
	}
	return a[:w.Intn(len(a)+1)]
}

func (w world) msg(a string) api.Msg {
	k := w.near(a)
	switch w.Intn(3) {
	case 0:
		return put(k, w.some())
	case 1:
		return del(k)
	}
	return far(k[:w.Intn(len(k)+1)], w.Uint32(), w.add())
}

func (w world) leaf(a string, most int) api.Node {
	n := leaf()
	for _, k := range w.rising(most, a) {
		n.Pairs = append(n.Pairs, pair(k, w.some()))
	}
	return n
}

// node is one that may be.
func (w world) node(a string) api.Node {
	if w.Intn(2) == 0 {
		return w.leaf(a, 16)
	}
	empty := func(k string) bool { return k == "" }
	n := fork(nil, slices.DeleteFunc(w.rising(7, a), empty)...)
	for range len(n.Pivots) + 1 {
		n.Kids = append(n.Kids, api.Edge{Block: w.Uint32(), Deep: uint16(w.Intn(1<<16-1) + 1), Lift: way(w.strip(a), w.add())})
	}
	for range w.Intn(17) * w.Intn(2) {
		n.Buffer = append(n.Buffer, w.msg(a))
	}
	return n
}

// span is a range, of which mostly all keys begin with a.
func (w world) span(a string) api.Range {
	of := key.Of(a)
	switch w.Intn(6) {
	case 0:
		return api.Range{Lo: w.near(a), Hi: w.near(a), End: w.Intn(4) > 0}
	case 1:
		return of
	case 2:
		return api.Range{Lo: w.near(a), Hi: of.Hi, End: of.End}
	case 3:
		return span(a, w.near(a))
	}
	two := []string{a + w.some(), a + w.some()}
	slices.Sort(two)
	return span(two[0], two[1]+"\x00")
}

// asked are keys at and beside all that a node and a range speak of.
func asked(n api.Node, r api.Range) []string {
	l := []string{"", r.Lo, r.Hi}
	for _, p := range n.Pairs {
		l = append(l, p.Key)
	}
	l = append(l, n.Pivots...)
	for _, m := range n.Buffer {
		l = append(l, m.Key)
	}
	if mid, ok := middle(n); ok {
		l = append(l, mid)
	}
	for _, k := range slices.Clone(l) {
		l = append(l, k+"\x00", k+"a", k+"\xff")
		if last := len(k) - 1; last >= 0 && k[last] > 0 {
			l = append(l, k[:last]+string([]byte{k[last] - 1})+"\xff")
		}
	}
	return l
}

// lead says that keys of a range lead in pieces, which have these ranges, where they lead in the node; and tells how many were asked.
func lead(t *testing.T, n api.Node, l []api.Piece, parts []api.Range) int {
	t.Helper()
	many := 0
	for i, p := range l {
		for _, k := range asked(n, parts[i]) {
			if !in(parts[i], k) {
				continue
			}
			many++
			rest, begins := strings.CutPrefix(k, p.Strip)
			if is, was := node.Step(p.Node, rest), node.Step(n, k); !begins || is != was {
				t.Fatalf("piece %d of %#v in %#v: Step of %q: %#v, not %#v", i, n, parts[i], k, is, was)
			}
		}
	}
	return many
}

// P12.1, P12.2: all calls of mixed nodes in mixed ranges: what is answered, and where keys lead in it.
func TestMixed(t *testing.T) {
	w := newWorld(121)
	prefixes := words(few, 2)
	seen := map[string]int{}
	for range 20000 {
		a := prefixes[w.Intn(len(prefixes))]
		n, r := w.node(a), w.span(a)
		if e := node.May(n); e != api.OK {
			t.Fatalf("%#v may be: %v", n, e)
		}
		mid, ok := Mid(n)
		if want, there := middle(n); mid != want || ok != there {
			t.Fatalf("Mid of %#v: %q %v, not %q %v", n, mid, ok, want, there)
		}
		wantOne, wantErr := parted(n, r)
		got, e := Whole(n, r)
		if e != wantErr || e == api.OK && !same(got, wantOne[0]) || e != api.OK && !same(got, api.Piece{}) {
			t.Fatalf("Whole of %#v in %#v: %#v %v, not %#v %v", n, r, got, e, wantOne, wantErr)
		}
		if e == api.OK {
			seen["whole, keys"] += lead(t, n, pieces(got), []api.Range{r})
		}
		wantTwo, wantErr2 := halves(n, r)
		l, e := Halves(n, r)
		if !allSame(l, wantTwo) || e != wantErr2 {
			t.Fatalf("Halves of %#v in %#v: %#v %v, not %#v %v", n, r, l, e, wantTwo, wantErr2)
		}
		if e == api.OK {
			parts, _ := byMiddle(n, r)
			seen["halves, keys"] += lead(t, n, l, parts)
			seen["halves"]++
		}
		fan, pairs := w.Intn(10), w.Intn(18)
		if n.Leaf && len(n.Pairs) <= pairs || !n.Leaf && len(n.Kids) <= fan {
			wantTwo, wantErr2 = wantOne, wantErr
		}
		if l, e := Pieces(n, r, fan, pairs); !allSame(l, wantTwo) || e != wantErr2 {
			t.Fatalf("Pieces by %d, %d of %#v in %#v: %#v %v, not %#v %v", fan, pairs, n, r, l, e, wantTwo, wantErr2)
		}
	}
	if seen["whole, keys"] < 100000 || seen["halves, keys"] < 100000 || seen["halves"] < 5000 {
		t.Errorf("too few of some: %v", seen)
	}
}

// ahead puts a beginning ahead of a leaf's keys.
func ahead(n api.Node, a string) {
	for i := range n.Pairs {
		n.Pairs[i].Key = a + n.Pairs[i].Key
	}
}

// P12.1: Join of mixed leaves in mixed ranges.
func TestMixedJoin(t *testing.T) {
	w := newWorld(122)
	seen := map[api.Errno]int{}
	for range 40000 {
		a := []string{"", "a", "b", "\xff"}[w.Intn(4)]
		first, second := piece(w.some(), a, w.leaf("", 16)), piece(w.some(), a, w.leaf("", 16))
		// Mostly the second one has what stands behind; now and then both have many pairs then.
		switch k := w.some(); w.Intn(8) {
		case 0, 1:
		case 2, 3:
			ahead(first.Node, "a")
			ahead(second.Node, "b")
		default:
			first.Node.Pairs = slices.DeleteFunc(first.Node.Pairs, func(p api.Pair) bool { return p.Key >= k })
			second.Node.Pairs = slices.DeleteFunc(second.Node.Pairs, func(p api.Pair) bool { return p.Key < k })
		}
		r := key.Of(a)
		if w.Intn(3) == 0 {
			r = w.span(a)
		}
		want, wantErr := together(first, second, r)
		got, e := Join(first, second, r)
		if !same(got, want) || e != wantErr {
			t.Fatalf("Join of %#v, %#v in %#v: %#v %v, not %#v %v", first, second, r, got, e, want, wantErr)
		}
		seen[e]++
	}
	if seen[api.OK] < 5000 || seen[api.ErrArg] < 5000 || seen[api.ErrMany] < 500 {
		t.Errorf("too few of some: %v", seen)
	}
}

// P12.2: by a node of hand, key by key.
func TestWhereKeysLead(t *testing.T) {
	n := with(tall(), far("ba", 9, "q"), put("bab", "1"), del("bb"), far("bbc", 8, ""))
	l, e := Halves(n, key.Of("b"))
	if e != api.OK || len(l) != 2 || l[0].Strip != "b" || l[1].Strip != "b" {
		t.Fatalf("Halves: %#v %v", l, e)
	}
	for k, want := range map[string]api.Way{
		"b":    {Kind: 2, Block: 2, Deep: 3, Key: "x"},
		"bZ":   {Kind: 2, Block: 2, Deep: 3, Key: "xZ"},
		"ba":   {Kind: 2, Block: 9, Deep: 3, Key: "q"},
		"bab":  {Kind: 1, Value: "1"},
		"babc": {Kind: 2, Block: 9, Deep: 3, Key: "qbc"},
		"bb":   {},
		"bbb":  {Kind: 2, Block: 4, Deep: 5, Key: "b"},
		"bbc":  {Kind: 2, Block: 8, Deep: 2},
		"bbcd": {Kind: 2, Block: 8, Deep: 2, Key: "d"},
		// The kid from bb on goes from keys that begin with bb alone.
		"bc":    {},
		"b\xff": {},
	} {
		at := 0
		if k >= l[1].Lo {
			at = 1
		}
		if is := node.Step(l[at].Node, k[1:]); is != want || node.Step(n, k) != want {
			t.Errorf("Step of %q: %#v, and in the node %#v, not %#v", k, is, node.Step(n, k), want)
		}
	}
}

// balanced says that of halves of a node the first one has as much as the second one, or one more, and both have all.
func balanced(t *testing.T, n api.Node, l []api.Piece) {
	t.Helper()
	if len(l) != 2 {
		t.Fatalf("halves of %#v: %#v", n, l)
	}
	first, second, all := len(l[0].Node.Kids), len(l[1].Node.Kids), len(n.Kids)
	if n.Leaf {
		first, second, all = len(l[0].Node.Pairs), len(l[1].Node.Pairs), len(n.Pairs)
	}
	if more := first - second; more < 0 || more > 1 || first+second != all {
		t.Fatalf("halves of %#v have %d and %d", n, first, second)
	}
}

// whole says that halves of a trimmed node, put together, are all of it.
func whole(t *testing.T, n api.Node, r api.Range, l []api.Piece) {
	t.Helper()
	if n.Leaf {
		want, e := Whole(n, r)
		got, e2 := Join(l[0], l[1], r)
		if !same(got, want) || e != api.OK || e2 != api.OK {
			t.Fatalf("halves of %#v in %#v joined: %#v %v, not %#v %v", n, r, got, e2, want, e)
		}
		return
	}
	var pivots []string
	var kids []api.Edge
	for i, p := range l {
		if i > 0 {
			pivots = append(pivots, p.Lo)
		}
		for _, pivot := range p.Node.Pivots {
			pivots = append(pivots, p.Strip+pivot)
		}
		for _, kid := range p.Node.Kids {
			if want, ok := trim.Shift(n.Kids[len(kids)].Lift, p.Strip); kid.Lift != want || !ok {
				t.Fatalf("halves of %#v in %#v: kid %d is %#v", n, r, len(kids), kid)
			}
			kid.Lift = n.Kids[len(kids)].Lift
			kids = append(kids, kid)
		}
	}
	if !slices.Equal(pivots, n.Pivots) || !slices.Equal(kids, n.Kids) {
		t.Fatalf("halves of %#v in %#v: together %#v, %#v", n, r, pivots, kids)
	}
}

// P12.3: halves of leaves and of others of each size.
func TestEachSize(t *testing.T) {
	for n := 2; n <= 16; n++ {
		under := leafOf(n)
		ahead(under, "xy")
		for _, c := range []part{
			{n: leafOf(n), r: all}, {n: leafOf(n), r: from("a")}, {n: leafOf(n), r: span("", "q")}, {n: leafOf(n), r: span("a", "zz")},
			{n: under, r: all}, {n: under, r: key.Of("x")}, {n: under, r: key.Of("xy")}, {n: under, r: span("xya", "xyq")},
		} {
			l, _ := Halves(c.n, c.r)
			balanced(t, c.n, l)
			whole(t, c.n, c.r, l)
		}
	}
	for n := 2; n <= 8; n++ {
		for _, m := range []api.Node{forkOf(n), with(forkOf(n), far("", 9, ""), put("b", "1"))} {
			l, _ := Halves(m, all)
			balanced(t, m, l)
			whole(t, m, all, l)
		}
	}
}

// P12.3: halves of mixed nodes that were trimmed by the range.
func TestMixedHalves(t *testing.T) {
	w := newWorld(123)
	prefixes := words(few, 2)
	leaves, others := 0, 0
	for range 30000 {
		a := prefixes[w.Intn(len(prefixes))]
		r := w.span(a)
		n, e := trim.Trim(w.node(a), r, "")
		if e != api.OK {
			continue
		}
		l, e := Halves(n, r)
		switch {
		case n.Leaf && len(n.Pairs) < 2 || !n.Leaf && len(n.Kids) < 2:
			if len(l) != 0 || e != api.ErrArg {
				t.Fatalf("Halves of %#v in %#v: %#v %v", n, r, l, e)
			}
			continue
		case n.Leaf:
			leaves++
		case e != api.OK:
			// A lift that may be in the node may get too long, or go no more, by the half's longer Strip.
			continue
		default:
			others++
		}
		balanced(t, n, l)
		whole(t, n, r, l)
	}
	if leaves < 3000 || others < 3000 {
		t.Errorf("too few: %d leaves, %d others", leaves, others)
	}
}

// part is a piece, the range of its node's keys, and what of a key is taken away ahead of them.
type part struct {
	n     api.Node
	r     api.Range
	strip string
}

// fine are the parts of a part, parted until none has too much.
func fine(t *testing.T, p part, fan, pairs int) []part {
	t.Helper()
	l, e := Pieces(p.n, p.r, fan, pairs)
	if e != api.OK {
		t.Fatalf("Pieces by %d, %d of %#v in %#v: %v", fan, pairs, p.n, p.r, e)
	}
	var done []part
	for i, of := range l {
		r := p.r
		if i > 0 {
			r.Lo = of.Lo
		}
		if i+1 < len(l) {
			r.Hi, r.End = l[i+1].Lo, true
		}
		small := part{of.Node, lift.Over(way(of.Strip, ""), r), p.strip + of.Strip}
		if len(l) == 1 {
			return []part{small}
		}
		done = append(done, fine(t, small, fan, pairs)...)
	}
	return done
}

// P12.2, P12.3: nodes parted into as many pieces as they must be: none has too much, all together have all, and keys
// lead where they led.
func TestInManyPieces(t *testing.T) {
	full := leaf()
	for i, k := range words("ab\xff", 2)[1:] {
		full.Pairs = append(full.Pairs, pair("b"+k, string([]byte{'0' + byte(i)})))
	}
	slices.SortFunc(full.Pairs, func(p, q api.Pair) int { return strings.Compare(p.Key, q.Key) })
	busy := with(forkOf(8), far("", 9, "q"), put("b", "1"), del("cc"), far("e", 7, ""), put("ex", "2"), put("z", "3"))
	for _, n := range []api.Node{leafOf(16), leafOf(15), full, forkOf(8), forkOf(7), busy, tall()} {
		for limit := 1; limit <= 16; limit++ {
			l := fine(t, part{n, all, ""}, limit, limit)
			pairs, kids := 0, 0
			for _, p := range l {
				pairs, kids = pairs+len(p.n.Pairs), kids+len(p.n.Kids)
				if len(p.n.Pairs) > limit || len(p.n.Kids) > limit {
					t.Errorf("too much by %d: %#v", limit, p.n)
				}
			}
			if pairs != len(n.Pairs) || kids != len(n.Kids) {
				t.Errorf("%d pieces by %d of %#v have %d pairs, %d kids", len(l), limit, n, pairs, kids)
			}
			for _, k := range asked(n, all) {
				if is := stepIn(l, k); is != node.Step(n, k) {
					t.Errorf("in %d pieces Step of %q: %#v, not %#v", len(l), k, is, node.Step(n, k))
				}
			}
		}
	}
}

// stepIn is where a key leads in the part in which it is; each key must be in just one.
func stepIn(l []part, k string) api.Way {
	var ways []api.Way
	for _, p := range l {
		if rest, begins := strings.CutPrefix(k, p.strip); begins && in(p.r, rest) {
			ways = append(ways, node.Step(p.n, rest))
		}
	}
	if len(ways) != 1 {
		return api.Way{Kind: 200}
	}
	return ways[0]
}

// P0.1: very long and odd arguments.
func TestHuge(t *testing.T) {
	huge := long(100000)
	for _, n := range []api.Node{leafOf(3), tall(), {}, {Leaf: true, Pairs: make([]api.Pair, 100000)}, {Kids: make([]api.Edge, 100000)}, keyed("\x80", "\xc3\x28"), {Pivots: make([]string, 100000)}} {
		for _, r := range []api.Range{from(huge), span(huge, huge+"a"), span("", huge), {Lo: "a", Hi: huge}, span("\x80", "\xc3\x28")} {
			if p, e := Whole(n, r); e != api.OK && !same(p, api.Piece{}) {
				t.Errorf("beside an error: %#v", p)
			}
			if l, e := Halves(n, r); e != api.OK && len(l) != 0 {
				t.Errorf("beside an error: %#v", l)
			}
			for _, many := range []int{math.MinInt, -1, math.MaxInt} {
				if l, e := Pieces(n, r, many, many); e != api.OK && len(l) != 0 {
					t.Errorf("beside an error: %#v", l)
				}
			}
			if p, e := Join(piece(huge, huge, n), piece(huge, huge+"a", n), r); e != api.OK && !same(p, api.Piece{}) {
				t.Errorf("beside an error: %#v", p)
			}
			Mid(n)
		}
	}
	joined(t, "huge Strips", piece("", huge, keyed("a")), piece("", huge, keyed("b")), from(huge), piece(huge, huge, keyed("a", "b")))
}

// P0.4: nil lists and empty ones.
func TestNoLists(t *testing.T) {
	for _, none := range []api.Node{leaf(), leafOf(2), forkOf(1), forkOf(2), {}} {
		empty := node.Own(none)
		for _, list := range []func(){
			func() { empty.Pairs = append([]api.Pair{}, none.Pairs...) },
			func() { empty.Pivots = append([]string{}, none.Pivots...) },
			func() { empty.Kids = append([]api.Edge{}, none.Kids...) },
			func() { empty.Buffer = append([]api.Msg{}, none.Buffer...) },
		} {
			list()
			for _, r := range []api.Range{all, {End: true}, key.Of("a"), span("", "b")} {
				p, e := Whole(none, r)
				if q, e2 := Whole(empty, r); !same(p, q) || e != e2 {
					t.Errorf("Whole in %#v: %#v %v, and %#v %v", r, p, e, q, e2)
				}
				l, e := Halves(none, r)
				if m, e2 := Halves(empty, r); !allSame(l, m) || e != e2 {
					t.Errorf("Halves in %#v: %#v %v, and %#v %v", r, l, e, m, e2)
				}
				l, e = Pieces(none, r, 1, 1)
				if m, e2 := Pieces(empty, r, 1, 1); !allSame(l, m) || e != e2 {
					t.Errorf("Pieces in %#v: %#v %v, and %#v %v", r, l, e, m, e2)
				}
				p, e = Join(piece("", "", none), piece("", "c", none), r)
				if q, e2 := Join(piece("", "", empty), piece("", "c", empty), r); !same(p, q) || e != e2 {
					t.Errorf("Join in %#v: %#v %v, and %#v %v", r, p, e, q, e2)
				}
			}
			mid, ok := Mid(none)
			if mid2, ok2 := Mid(empty); mid != mid2 || ok != ok2 {
				t.Errorf("Mid: %q %v, and %q %v", mid, ok, mid2, ok2)
			}
		}
	}
}

// scribble writes over a list, and over all the room behind its end.
func scribble[T any](l []T, with T) {
	l = l[:cap(l)]
	for i := range l {
		l[i] = with
	}
}

// scribbleAll writes over all lists of a node.
func scribbleAll(n api.Node) {
	scribble(n.Pairs, pair("junk", "junk"))
	scribble(n.Pivots, "junk")
	scribble(n.Kids, by(77, "junk", "junk"))
	scribble(n.Buffer, far("junk", 77, "junk"))
}

// roomy is a node whose lists have room behind their ends, in which something stands; and all of that room.
func roomy(of api.Node) (api.Node, api.Node) {
	whole := node.Own(of)
	whole.Pairs = append(whole.Pairs, pair("zz", "1"), pair("zzz", "2"))
	whole.Pivots = append(whole.Pivots, "zz", "zzz")
	whole.Kids = append(whole.Kids, by(55, "zz", ""), by(56, "", ""))
	whole.Buffer = append(whole.Buffer, put("zz", "1"), del("zz"))
	n := whole
	n.Pairs, n.Pivots = n.Pairs[:len(of.Pairs)], n.Pivots[:len(of.Pivots)]
	n.Kids, n.Buffer = n.Kids[:len(of.Kids)], n.Buffer[:len(of.Buffer)]
	return n, whole
}

// own are pieces with lists of their own.
func own(l []api.Piece) []api.Piece {
	l = slices.Clone(l)
	for i := range l {
		l[i].Node = node.Own(l[i].Node)
	}
	return l
}

// calls are all calls of the layer that answer pieces, of two nodes.
func calls(r api.Range) map[string]func(n, m api.Node) ([]api.Piece, api.Errno) {
	return map[string]func(n, m api.Node) ([]api.Piece, api.Errno){
		"Whole": func(n, _ api.Node) ([]api.Piece, api.Errno) {
			p, e := Whole(n, r)
			return pieces(p), e
		},
		"Halves":     func(n, _ api.Node) ([]api.Piece, api.Errno) { return Halves(n, r) },
		"one Piece":  func(n, _ api.Node) ([]api.Piece, api.Errno) { return Pieces(n, r, 8, 16) },
		"two Pieces": func(n, _ api.Node) ([]api.Piece, api.Errno) { return Pieces(n, r, 1, 1) },
		"Mid": func(n, _ api.Node) ([]api.Piece, api.Errno) {
			mid, _ := Mid(n)
			return pieces(piece(mid, "", leaf())), 0
		},
		"Join":        func(n, m api.Node) ([]api.Piece, api.Errno) { return joinedList(n, "", m, "x", r) },
		"Join turned": func(n, m api.Node) ([]api.Piece, api.Errno) { return joinedList(m, "x", n, "", r) },
		"Join twice":  func(n, _ api.Node) ([]api.Piece, api.Errno) { return joinedList(n, "", n, "x", r) },
	}
}

func joinedList(n api.Node, a string, m api.Node, b string, r api.Range) ([]api.Piece, api.Errno) {
	p, e := Join(piece("", a, n), piece("", b, m), r)
	return pieces(p), e
}

// P0.3, P0.5: what is handed in stays as it was, also behind a list's end; nothing of it is shared with what is
// answered, nor that with what is answered the next time, which is the same, nor one piece with another one.
func TestHandedIn(t *testing.T) {
	busy := with(tall(), far("b", 9, "q"), put("bab", "1"), del("bb"), put("zz", "2"))
	nodes := []api.Node{busy, tall(), forkOf(1), forkOf(8), leaf(), leafOf(1), leafOf(4), leafOf(16), keyed("b", "ba", "bb", "bbc")}
	for _, n := range wrong() {
		nodes = append(nodes, n)
	}
	for _, of := range nodes {
		for _, r := range []api.Range{all, key.Of("b"), from("a"), span("ba", "bc"), {End: true}} {
			for what, call := range calls(r) {
				handIn(t, what, of, call)
			}
		}
	}
}

func handIn(t *testing.T, what string, of api.Node, call func(n, m api.Node) ([]api.Piece, api.Errno)) {
	t.Helper()
	n, room := roomy(of)
	m, room2 := roomy(keyed("b", "c"))
	before, before2 := node.Own(room), node.Own(room2)
	first, e := call(n, m)
	second, e2 := call(n, m)
	kept := own(second)
	if alone, e3 := call(of, keyed("b", "c")); !allSame(first, alone) || !allSame(second, alone) || e != e2 || e != e3 {
		t.Errorf("%s: otherwise the next time, or by what stands behind a list's end: %#v", what, of)
	}
	for i, p := range first {
		rest := own(first[i+1:])
		scribbleAll(p.Node)
		if !allSame(first[i+1:], rest) {
			t.Errorf("%s: pieces share something: %#v", what, of)
		}
	}
	scribble(first, piece("junk", "junk", leaf()))
	if !node.Same(room, before) || !node.Same(room2, before2) || !allSame(second, kept) {
		t.Errorf("%s: what is answered shares something: %#v", what, of)
	}
	scribbleAll(room)
	scribbleAll(room2)
	if !allSame(second, kept) {
		t.Errorf("%s: what is answered hangs on what was handed in: %#v", what, of)
	}
}
