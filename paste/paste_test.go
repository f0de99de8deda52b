package paste

import (
	"math"
	"math/rand"
	"slices"
	"strings"
	"testing"

	"marcot/api"
	"marcot/node"
)

func put(k, v string) api.Msg { return api.Msg{Kind: api.Put, Key: k, Value: v} }

func del(k string) api.Msg { return api.Msg{Kind: api.Delete, Key: k} }

// far is a Goto; its number tells it from others.
func far(k string, block uint32, add string) api.Msg {
	return api.Msg{Kind: api.Goto, Key: k, Block: block, Deep: uint16(block%7) + 1, Add: add}
}

// by is a kid with a lift; its number tells it from others.
func by(block uint32, strip, add string) api.Edge {
	return api.Edge{Block: block, Deep: uint16(block%7) + 1, Lift: api.Lift{Strip: strip, Add: add}}
}

func pair(k, v string) api.Pair { return api.Pair{Key: k, Value: v} }

func leaf(pairs ...api.Pair) api.Node { return api.Node{Leaf: true, Pairs: pairs} }

// forked is a node with these kids, and these pivots between them.
func forked(kids []api.Edge, pivots ...string) api.Node {
	return api.Node{Kids: kids, Pivots: pivots}
}

func edges(l ...api.Edge) []api.Edge { return l }

// with is a node with these messages.
func with(n api.Node, l ...api.Msg) api.Node {
	n.Buffer = l
	return n
}

// long is a text of so many bytes.
func long(n int) string { return strings.Repeat("\xff", n) }

// letters are so many keys that rise: a and so on.
func letters(n int) []string {
	var some []string
	for i := range n {
		some = append(some, string([]byte{'a' + byte(i)}))
	}
	return some
}

// wide is a node with so many kids, with the pivots a, b and so on between them.
func wide(n int) api.Node {
	f := forked(nil, letters(n-1)...)
	for i := range n {
		f.Kids = append(f.Kids, by(uint32(i)+1, "", ""))
	}
	return f
}

// tall is a node with a kid for keys below b, from b, from ba, from bb, and from c on.
func tall() api.Node {
	return forked(edges(by(1, "", ""), by(2, "b", "x"), by(3, "", "y"), by(4, "bb", ""), by(5, "q", "")), "b", "ba", "bb", "c")
}

// pasted says what Paste answers.
func pasted(t *testing.T, what string, n api.Node, i int, want api.Node) {
	t.Helper()
	got, e := Paste(n, i)
	if !node.Same(got, want) || e != api.OK {
		t.Errorf("%s: Paste of %#v, %d:\n%#v %v, not\n%#v", what, n, i, got, e, want)
	}
}

// refused says with which error Paste answers no node.
func refused(t *testing.T, what string, n api.Node, i int, want api.Errno) {
	t.Helper()
	got, e := Paste(n, i)
	if !node.Same(got, api.Node{}) || e != want {
		t.Errorf("%s: Paste of %#v, %d: %#v %v, not %v", what, n, i, got, e, want)
	}
}

// P13.1: the document's example.
func TestExample(t *testing.T) {
	n := with(forked(edges(by(1, "", ""))), far("m", 9, "x"))
	if i := First(n); i != 0 {
		t.Errorf("First: %d", i)
	}
	pasted(t, "one kid", n, 0, forked(edges(by(1, "", ""), by(9, "m", "x"), by(1, "", "")), "m", "n"))
}

// P13.1: the oldest Goto, of any node.
func TestFirst(t *testing.T) {
	odd := api.Msg{Kind: 200, Key: "a", Deep: 1}
	for _, c := range []struct {
		what string
		n    api.Node
		want int
	}{
		{"nothing", api.Node{}, -1},
		{"a leaf", leaf(pair("a", "1")), -1},
		{"no message", tall(), -1},
		{"no Goto", with(tall(), put("a", "1"), del("b")), -1},
		{"the first one", with(tall(), far("a", 9, "")), 0},
		{"the first one of several", with(tall(), far("a", 9, ""), put("a", ""), far("b", 8, "")), 0},
		{"between", with(tall(), put("a", ""), del("a"), far("a", 9, ""), del("c")), 2},
		{"the last one", with(tall(), put("a", ""), far("a", 9, "")), 1},
		{"twice the same", with(tall(), put("a", ""), far("a", 9, ""), far("a", 9, "")), 1},
		{"an older one with a greater key", with(tall(), put("a", ""), far("z", 9, ""), far("", 1, "")), 1},
		{"behind 15", with(tall(), append(slices.Repeat([]api.Msg{put("a", "")}, 15), far("", 9, ""))...), 15},
		{"behind 99", with(tall(), append(slices.Repeat([]api.Msg{odd}, 99), far("", 9, ""))...), 99},
		{"other kinds", with(tall(), odd, api.Msg{}, api.Msg{Kind: 4}), -1},
		{"a Goto that may not be", with(tall(), odd, api.Msg{Kind: api.Goto}), 1},
		{"a leaf's", with(leaf(), put("a", ""), far("a", 9, "")), 1},
		{"of no kids", with(api.Node{}, far("a", 9, "")), 0},
	} {
		if got := First(c.n); got != c.want {
			t.Errorf("%s: First: %d, not %d", c.what, got, c.want)
		}
	}
}

// P13.1: kids and pivots, by where the Goto's range lies among the kids' ranges.
func TestKids(t *testing.T) {
	k := tall().Kids
	g := func(s string) api.Edge { return by(9, s, "z") }
	top := forked(edges(k[0], k[1], k[2]), "a", long(2))
	for _, c := range []struct {
		what string
		n    api.Node
		key  string
		want api.Node
	}{
		{"in the first kid's", tall(), "a", forked(edges(k[0], g("a"), k[1], k[2], k[3], k[4]), "a", "b", "ba", "bb", "c")},
		{"in the first kid's, with keys behind it", tall(), "aa", forked(edges(k[0], g("aa"), k[0], k[1], k[2], k[3], k[4]), "aa", "ab", "b", "ba", "bb", "c")},
		{"in the last kid's", tall(), "d", forked(edges(k[0], k[1], k[2], k[3], k[4], g("d"), k[4]), "b", "ba", "bb", "c", "d", "e")},
		{"all of the last kid's but its end", tall(), "c", forked(edges(k[0], k[1], k[2], k[3], g("c"), k[4]), "b", "ba", "bb", "c", "d")},
		{"just one kid's range", tall(), "ba", forked(edges(k[0], k[1], g("ba"), k[3], k[4]), "b", "ba", "bb", "c")},
		{"from a pivot on, in a kid's", tall(), "bb", forked(edges(k[0], k[1], k[2], g("bb"), k[3], k[4]), "b", "ba", "bb", "bc", "c")},
		{"from within a kid's to a pivot", tall(), "b\xff", forked(edges(k[0], k[1], k[2], k[3], g("b\xff"), k[4]), "b", "ba", "bb", "b\xff", "c")},
		{"within a kid's", tall(), "bax", forked(edges(k[0], k[1], k[2], g("bax"), k[2], k[3], k[4]), "b", "ba", "bax", "bay", "bb", "c")},
		{"within a kid's, the last byte 255", tall(), "bax\xff", forked(edges(k[0], k[1], k[2], g("bax\xff"), k[2], k[3], k[4]), "b", "ba", "bax\xff", "bay", "bb", "c")},
		{"just behind a pivot", tall(), "ba\x00", forked(edges(k[0], k[1], k[2], g("ba\x00"), k[2], k[3], k[4]), "b", "ba", "ba\x00", "ba\x01", "bb", "c")},
		{"several kids' ranges", tall(), "b", forked(edges(k[0], g("b"), k[4]), "b", "c")},
		{"all keys", tall(), "", forked(edges(g("")))},
		{"all keys of one kid", wide(1), "", forked(edges(g("")))},
		{"all keys of the most kids", wide(8), "", forked(edges(g("")))},
		{"without an end, of one kid", wide(1), "\xff", forked(edges(k[0], g("\xff")), "\xff")},
		{"without an end", tall(), long(16), forked(edges(k[0], k[1], k[2], k[3], k[4], g(long(16))), "b", "ba", "bb", "c", long(16))},
		{"without an end, from a pivot on", top, long(2), forked(edges(k[0], k[1], g(long(2))), "a", long(2))},
		{"without an end, from ahead of a pivot on", top, "\xff", forked(edges(k[0], k[1], g("\xff")), "a", "\xff")},
		{"without an end, from behind a pivot on", top, long(3), forked(edges(k[0], k[1], k[2], g(long(3))), "a", long(2), long(3))},
		{"the least key", wide(1), "\x00", forked(edges(k[0], g("\x00"), k[0]), "\x00", "\x01")},
		{"the first kid has but the empty key", forked(edges(k[0], k[1]), "\x00"), "\x00", forked(edges(k[0], g("\x00"), k[1]), "\x00", "\x01")},
		{"goes from the first kid's on", forked(edges(k[0], k[1], k[2]), "ab", "ac"), "a", forked(edges(k[0], g("a"), k[2]), "a", "b")},
		{"goes from the first kid's on to a pivot", forked(edges(k[0], k[1], k[2]), "ab", "b"), "a", forked(edges(k[0], g("a"), k[2]), "a", "b")},
		{"a kid that is there twice already", forked(edges(k[0], k[0], k[0]), "a", "b"), "aa", forked(edges(k[0], k[0], g("aa"), k[0], k[0]), "a", "aa", "ab", "b")},
		{"the longest Key", wide(2), "a" + long(14) + "\xfe", forked(edges(k[0], by(2, "", ""), g("a"+long(14)+"\xfe"), by(2, "", "")), "a", "a"+long(14)+"\xfe", "a"+long(15))},
		{"the longest Key, with a short one behind it", wide(2), "a" + long(15), forked(edges(k[0], by(2, "", ""), g("a"+long(15)), by(2, "", "")), "a", "a"+long(15), "b")},
	} {
		pasted(t, c.what, with(c.n, far(c.key, 9, "z")), 0, c.want)
	}
}

// P13.1, P13.3: a node of the most kids has up to two more.
func TestMostKids(t *testing.T) {
	n := wide(8)
	k := n.Kids
	for i, lo := range letters(7) {
		g := by(9, lo+"x", "")
		pivots := slices.Insert(slices.Clone(n.Pivots), i+1, lo+"x", lo+"y")
		kids := slices.Insert(slices.Clone(k), i+2, g, k[i+1])
		pasted(t, "in a kid's", with(n, far(lo+"x", 9, "")), 0, forked(kids, pivots...))
	}
	pasted(t, "in the first kid's", with(n, far("A", 9, "")), 0,
		forked(slices.Concat(k[:1], edges(by(9, "A", "")), k), slices.Concat([]string{"A", "B"}, n.Pivots)...))
	pasted(t, "to the end", with(n, far("\xff", 9, "")), 0,
		forked(slices.Concat(k, edges(by(9, "\xff", ""))), slices.Concat(n.Pivots, []string{"\xff"})...))
	pasted(t, "a kid's own", with(n, far("b", 9, "")), 0, forked(slices.Concat(k[:2], edges(by(9, "b", "")), k[3:]), n.Pivots...))
	got, _ := Paste(with(n, far("bx", 9, ""), far("cx", 8, "")), 0)
	refused(t, "a second one, of 10 kids", got, 0, api.ErrForm)
}

// P13.1: the pasted kid's Block, Deep and lift.
func TestPastedKid(t *testing.T) {
	for _, m := range []api.Msg{
		{Kind: api.Goto, Key: "ab", Block: 7, Deep: 3, Add: "x"},
		{Kind: api.Goto, Key: "ab", Block: 7, Deep: 3},
		{Kind: api.Goto, Deep: 1},
		{Kind: api.Goto, Block: math.MaxUint32, Deep: math.MaxUint16, Add: long(16)},
		{Kind: api.Goto, Key: long(16), Block: 1, Deep: 2, Add: "abc"},
	} {
		got, e := Paste(with(wide(1), m), 0)
		i := min(1, len(got.Kids)-1)
		if want := (api.Edge{Block: m.Block, Deep: m.Deep, Lift: api.Lift{Strip: m.Key, Add: m.Add}}); e != api.OK || got.Kids[i] != want {
			t.Errorf("%#v: %#v %v", m, got, e)
		}
	}
}

// P13.1: which messages are left.
func TestMessages(t *testing.T) {
	g := far("b", 9, "")
	want := forked(edges(by(1, "", ""), by(9, "b", ""), by(5, "q", "")), "b", "c")
	l := func(l ...api.Msg) []api.Msg { return l }
	for _, c := range []struct {
		what         string
		ahead        []api.Msg
		behind, left []api.Msg
	}{
		{"alone", nil, nil, nil},
		{"of the Key, ahead", l(put("b", "1")), nil, nil},
		{"deleted, ahead", l(del("b")), nil, nil},
		{"of the Key and more, ahead", l(put("b\x00", "1"), del("bzz"), put("b"+long(15), "2")), nil, nil},
		{"of other keys, ahead", l(put("a", "1"), del("c"), put("", "2")), nil, l(put("a", "1"), del("c"), put("", "2"))},
		{"just beside, ahead", l(put("a"+long(15), "1"), put("b", "2"), del("b"+long(15)), del("c")), nil, l(put("a"+long(15), "1"), del("c"))},
		{"both, mixed, ahead", l(put("a", "1"), put("b", "2"), put("c", "3"), del("ba"), del("a")), nil, l(put("a", "1"), put("c", "3"), del("a"))},
		{"of the keys, behind", nil, l(put("b", "1"), del("ba"), put("bzz", "2")), l(put("b", "1"), del("ba"), put("bzz", "2"))},
		{"of other keys, behind", nil, l(del("a"), put("c", "1"), del("")), l(del("a"), put("c", "1"), del(""))},
		{"Gotos behind", nil, l(far("b", 9, ""), far("ba", 8, ""), far("", 7, "")), l(far("b", 9, ""), far("ba", 8, ""), far("", 7, ""))},
		{"twice the same, ahead", l(put("a", "1"), put("a", "1")), nil, l(put("a", "1"), put("a", "1"))},
		{"the same on both sides", l(put("b", "1"), del("a")), l(put("b", "1"), del("a")), l(del("a"), put("b", "1"), del("a"))},
		{"all on both sides", l(put("ba", "1"), put("a", "2")), l(far("b", 9, ""), put("ba", "3"), put("a", "4")), l(put("a", "2"), far("b", 9, ""), put("ba", "3"), put("a", "4"))},
		{"15 ahead, gone", slices.Repeat(l(put("bb", "")), 15), nil, nil},
		{"15 ahead, left", slices.Repeat(l(put("a", "")), 15), nil, slices.Repeat(l(put("a", "")), 15)},
		{"15 behind", nil, slices.Repeat(l(far("b", 9, "")), 15), slices.Repeat(l(far("b", 9, "")), 15)},
	} {
		pasted(t, c.what, with(tall(), slices.Concat(c.ahead, l(g), c.behind)...), len(c.ahead), with(want, c.left...))
	}
	pasted(t, "of all keys", with(tall(), put("a", ""), del(""), put(long(16), ""), far("", 9, ""), put("a", "")), 3,
		with(forked(edges(by(9, "", ""))), put("a", "")))
	pasted(t, "of greatest bytes", with(wide(1), put("\xff", ""), del("\xff\xfe"), del("\xfe"+long(15)), put(long(2), ""), put(long(16), ""), far(long(2), 9, "")), 5,
		with(forked(edges(by(1, "", ""), by(9, long(2), "")), long(2)), put("\xff", ""), del("\xff\xfe"), del("\xfe"+long(15))))
}

// P13.1: Gotos pasted one behind the other, from the oldest one on.
func TestOneByOne(t *testing.T) {
	n := with(wide(2), put("ab", "1"), far("ab", 9, "x"), put("abc", "2"), put("b", "3"), far("b", 8, ""), del("abd"), far("ab", 7, "y"), put("ab", "4"))
	k := n.Kids
	first := with(forked(edges(k[0], k[1], by(9, "ab", "x"), k[1]), "a", "ab", "ac"), n.Buffer[2:]...)
	pasted(t, "the first", n, First(n), first)
	second := with(forked(edges(k[0], k[1], by(9, "ab", "x"), k[1], by(8, "b", ""), k[1]), "a", "ab", "ac", "b", "c"), n.Buffer[2], n.Buffer[5], n.Buffer[6], n.Buffer[7])
	pasted(t, "the second", first, First(first), second)
	third := with(forked(edges(k[0], k[1], by(7, "ab", "y"), k[1], by(8, "b", ""), k[1]), "a", "ab", "ac", "b", "c"), n.Buffer[7])
	pasted(t, "the third", second, First(second), third)
	if i := First(third); i != -1 {
		t.Errorf("no Goto is left, but First is %d", i)
	}
}

// P13.2: where keys lead, told by hand.
func TestWhere(t *testing.T) {
	n := with(tall(), put("bab", "1"), del("a"), far("ba", 9, "z"), put("bac", "2"), del("bad"))
	got, _ := Paste(n, 2)
	for k, want := range map[string]api.Way{
		"":        {Kind: 2, Block: 1, Deep: 2},
		"a":       {},
		"aa":      {Kind: 2, Block: 1, Deep: 2, Key: "aa"},
		"b":       {Kind: 2, Block: 2, Deep: 3, Key: "x"},
		"b\xff":   {},
		"ba":      {Kind: 2, Block: 9, Deep: 3, Key: "z"},
		"ba\xff":  {Kind: 2, Block: 9, Deep: 3, Key: "z\xff"},
		"bab":     {Kind: 2, Block: 9, Deep: 3, Key: "zb"},
		"bac":     {Kind: 1, Value: "2"},
		"bad":     {},
		"bade":    {Kind: 2, Block: 9, Deep: 3, Key: "zde"},
		"bb":      {Kind: 2, Block: 4, Deep: 5},
		"bbx":     {Kind: 2, Block: 4, Deep: 5, Key: "x"},
		"c":       {},
		"p":       {},
		"q":       {Kind: 2, Block: 5, Deep: 6},
		long(100): {},
	} {
		if before, behind := node.Step(n, k), node.Step(got, k); before != want || behind != want {
			t.Errorf("%q leads to %#v, and pasted to %#v, not to %#v", k, before, behind, want)
		}
	}
}

// wrong are nodes that may not be, each with a Goto in the first place, where it may have messages at all.
func wrong() map[string]api.Node {
	g := far("a", 9, "")
	three := wide(3).Kids
	two := func(a, b api.Edge) api.Node { return with(forked(edges(a, b), "a"), g) }
	nodes := map[string]api.Node{
		"nothing":                {},
		"messages alone":         with(api.Node{}, g),
		"a leaf with a message":  with(leaf(pair("a", "")), g),
		"a leaf with a kid":      {Leaf: true, Kids: three[:1], Buffer: []api.Msg{g}},
		"a leaf's keys fall":     leaf(pair("b", ""), pair("a", "")),
		"17 pairs":               {Leaf: true, Pairs: make([]api.Pair, 17), Buffer: []api.Msg{g}},
		"kids and a pair":        {Kids: three, Pivots: []string{"a", "b"}, Pairs: []api.Pair{pair("a", "")}, Buffer: []api.Msg{g}},
		"no kid, a pivot":        with(forked(nil, "a"), g),
		"9 kids":                 with(wide(9), g),
		"10 kids":                with(wide(10), g),
		"a pivot too many":       with(forked(three, "a", "b", "c"), g),
		"a pivot too few":        with(forked(three, "a"), g),
		"an empty pivot":         with(forked(three, "", "a"), g),
		"pivots that fall":       with(forked(three, "b", "a"), g),
		"a pivot twice":          with(forked(three, "a", "a"), g),
		"a pivot too long":       with(forked(three, "a", long(17)), g),
		"a kid of no depth":      two(by(1, "", ""), api.Edge{Block: 1}),
		"a Strip of 17 bytes":    two(by(1, long(17), ""), by(2, "", "")),
		"an Add of 17 bytes":     two(by(1, "", ""), by(2, "", long(17))),
		"17 messages":            with(wide(3), slices.Repeat([]api.Msg{g}, 17)...),
		"the Goto of no depth":   with(wide(3), api.Msg{Kind: api.Goto, Key: "a", Block: 1}),
		"the Goto has a Value":   with(wide(3), api.Msg{Kind: api.Goto, Key: "a", Deep: 1, Value: "a"}),
		"the Goto's Key is long": with(wide(3), far(long(17), 9, "")),
		"the Goto's Add is long": with(wide(3), far("a", 9, long(17))),
	}
	for what, m := range map[string]api.Msg{
		"a message of no Kind":  {},
		"a message of Kind 4":   {Kind: 4, Key: "a", Deep: 1},
		"a Put too long":        put(long(17), ""),
		"a Put's Value is long": put("a", long(33)),
		"a Delete with a Value": {Kind: api.Delete, Key: "a", Value: "1"},
		"a Goto of no depth":    {Kind: api.Goto, Key: "a"},
	} {
		nodes[what+", behind it"] = with(wide(3), g, m)
		nodes[what+", ahead of it"] = with(wide(3), m, g)
	}
	return nodes
}

// places are places in lists, and far from them.
var places = []int{0, 1, -1, 2, 15, 16, 17, -2, 100, math.MaxInt32, math.MinInt32, 1 << 32, -1 << 32, math.MaxInt, math.MinInt}

// P13.1, P0.2: a node that may not be is ErrForm, whatever the place is.
func TestWrongNodes(t *testing.T) {
	for what, n := range wrong() {
		for _, i := range places {
			refused(t, what, n, i, api.ErrForm)
		}
	}
}

// P13.1: of a leaf, and of no messages, there is none at any place.
func TestNoMessages(t *testing.T) {
	for _, n := range []api.Node{leaf(), leaf(pair("a", "1")), leaf(pair("", ""), pair(long(16), long(32))), wide(1), wide(8), tall()} {
		for _, i := range places {
			refused(t, "no message", n, i, api.ErrArg)
		}
	}
}

// P13.1: at each place but that of the oldest Goto there is ErrArg.
func TestWrongPlaces(t *testing.T) {
	for what, l := range map[string][]api.Msg{
		"no Goto":             {put("a", "1"), del("a")},
		"a Goto":              {far("a", 9, "")},
		"two":                 {far("a", 9, ""), far("b", 8, "")},
		"twice the same":      {far("a", 9, ""), far("a", 9, "")},
		"between":             {put("a", "1"), far("a", 9, ""), del("a")},
		"behind others":       {put("a", "1"), del("b"), far("c", 9, "")},
		"ahead of others":     {far("c", 9, ""), put("c", "1"), del("b")},
		"a wider one behind":  {put("a", "1"), far("ab", 9, ""), far("", 8, "")},
		"a wider one ahead":   {put("a", "1"), far("", 9, ""), far("ab", 8, "")},
		"the most messages":   append(slices.Repeat([]api.Msg{put("a", "")}, 15), far("", 9, "")),
		"the most Gotos":      slices.Repeat([]api.Msg{far("b", 9, "")}, 16),
		"Puts like Gotos":     {put("b", "x"), put("ba", "y"), far("b", 9, "x")},
		"Deletes behind them": {far("b", 9, "x"), del("b")},
	} {
		n := with(tall(), l...)
		right := slices.IndexFunc(l, func(m api.Msg) bool { return m.Kind == api.Goto })
		for _, i := range slices.Concat(places, []int{-3, 3, 4, 5, 6, 7, 8, 9, 10, 11, 12, 13, 14, 18, 19}) {
			if i != right || right == -1 {
				refused(t, what, n, i, api.ErrArg)
			} else if _, e := Paste(n, i); e != api.OK {
				t.Errorf("%s: the oldest Goto, at %d: %v", what, i, e)
			}
		}
	}
}

// above is the least key behind all that begin so, found another way; false, if there is none.
func above(p string) (string, bool) {
	for len(p) > 0 && p[len(p)-1] == 255 {
		p = p[:len(p)-1]
	}
	if p == "" {
		return "", false
	}
	b := []byte(p)
	b[len(b)-1]++
	return string(b), true
}

// told is a node with a Goto pasted, by the document's words.
func told(n api.Node, i int) api.Node {
	m := n.Buffer[i]
	end, ends := above(m.Key)
	var kids []api.Edge
	var los []string
	for j, kid := range n.Kids {
		lo := ""
		if j > 0 {
			lo = n.Pivots[j-1]
		}
		if lo < m.Key {
			kids, los = append(kids, kid), append(los, lo)
		}
	}
	kids = append(kids, api.Edge{Block: m.Block, Deep: m.Deep, Lift: api.Lift{Strip: m.Key, Add: m.Add}})
	los = append(los, m.Key)
	first := true
	for j, kid := range n.Kids {
		if !ends || j < len(n.Pivots) && n.Pivots[j] <= end {
			continue
		}
		if first {
			kids, los = append(kids, kid), append(los, end)
		} else {
			kids, los = append(kids, kid), append(los, n.Pivots[j-1])
		}
		first = false
	}
	var left []api.Msg
	for j, old := range n.Buffer {
		if j > i || j < i && !strings.HasPrefix(old.Key, m.Key) {
			left = append(left, old)
		}
	}
	return with(forked(kids, los[1:]...), left...)
}

// leads is where a key leads, by the document's words, also in a node with more kids than may be.
func leads(n api.Node, k string) api.Way {
	on := func(e api.Edge) api.Way {
		rest, ok := strings.CutPrefix(k, e.Lift.Strip)
		if !ok {
			return api.Way{}
		}
		return api.Way{Kind: 2, Block: e.Block, Deep: e.Deep, Key: e.Lift.Add + rest}
	}
	for _, m := range slices.Backward(n.Buffer) {
		switch {
		case m.Kind == api.Put && m.Key == k:
			return api.Way{Kind: 1, Value: m.Value}
		case m.Kind == api.Delete && m.Key == k:
			return api.Way{}
		case m.Kind == api.Goto && strings.HasPrefix(k, m.Key):
			return on(api.Edge{Block: m.Block, Deep: m.Deep, Lift: api.Lift{Strip: m.Key, Add: m.Add}})
		}
	}
	i := len(n.Pivots)
	for i > 0 && k < n.Pivots[i-1] {
		i--
	}
	return on(n.Kids[i])
}

// mayButForKids tells whether a node may be, but for how many kids it has.
func mayButForKids(n api.Node) bool {
	if len(n.Kids) <= api.MaxFan {
		return node.May(n) == api.OK
	}
	if len(n.Pivots) != len(n.Kids)-1 {
		return false
	}
	// Each two kids that stand beside each other are both in one of these parts.
	for lo := 0; lo+api.MaxFan <= len(n.Kids); lo++ {
		part := n
		part.Kids, part.Pivots = n.Kids[lo:lo+api.MaxFan], n.Pivots[lo:lo+api.MaxFan-1]
		if node.May(part) != api.OK {
			return false
		}
	}
	return true
}

// keysOf are the keys at which something begins or ends in a node, and those beside them.
func keysOf(n api.Node) []string {
	keys := []string{"", "\x00", long(17)}
	marks := slices.Clone(n.Pivots)
	for _, m := range n.Buffer {
		end, _ := above(m.Key)
		marks = append(marks, m.Key, end)
	}
	for _, k := range marks {
		keys = append(keys, k, k+"\x00", k+"a", k+"\xff", k+long(16))
		if last := len(k) - 1; last >= 0 {
			keys = append(keys, k[:last], k[:last]+string([]byte{k[last] - 1})+long(16))
		}
	}
	return keys
}

// held holds what is pasted of a node that may be against the document's words: P13.1, P13.2, P13.3.
func held(t *testing.T, n api.Node, keys []string) {
	t.Helper()
	i := First(n)
	got, e := Paste(n, i)
	if want := told(n, i); !node.Same(got, want) || e != api.OK {
		t.Fatalf("P13.1: Paste of %#v, %d:\n%#v %v, not\n%#v", n, i, got, e, want)
	}
	for _, k := range keys {
		before := leads(n, k)
		if step := node.Step(n, k); step != before {
			t.Fatalf("%q leads in %#v to %#v, by layer 7 to %#v", k, n, before, step)
		}
		if behind := leads(got, k); behind != before {
			t.Fatalf("P13.2: %q leads in %#v to %#v, and in %#v to %#v", k, n, before, got, behind)
		}
		if step := node.Step(got, k); len(got.Kids) <= api.MaxFan && step != before {
			t.Fatalf("P13.2: %q leads in %#v to %#v, and in %#v to %#v", k, n, before, got, step)
		}
	}
	if len(got.Buffer) >= len(n.Buffer) || len(got.Kids) > len(n.Kids)+2 || got.Leaf || !mayButForKids(got) {
		t.Fatalf("P13.3: Paste of %#v: %#v", n, got)
	}
}

// world are all keys of up to so many of these bytes.
func world(letters string, longest int) []string {
	keys := []string{""}
	for at := 0; at < len(keys); at++ {
		if len(keys[at]) == longest {
			break
		}
		for i := range len(letters) {
			keys = append(keys, keys[at]+letters[i:i+1])
		}
	}
	return keys
}

// P13.1 to P13.3: all Gotos of a small world, in all nodes of up to three pivots of it.
func TestSmallWorld(t *testing.T) {
	keys := world("\x00a\xff", 2)
	probes := world("\x00a\xff", 3)
	pivots := slices.Clone(keys[1:])
	slices.Sort(pivots)
	for a := range pivots {
		for b := a; b < len(pivots); b++ {
			for c := b; c < len(pivots); c++ {
				n := forked(wide(4).Kids, slices.Compact([]string{pivots[a], pivots[b], pivots[c]})...)
				n.Kids = n.Kids[:len(n.Pivots)+1]
				for _, k := range keys {
					held(t, with(n, put("a", "1"), del("a\xff"), far(k, 9, "z"), put("\xff", "2"), far("aa", 8, "")), probes)
				}
			}
		}
	}
}

// P13.1: each message of a small world ahead of each Goto of it.
func TestSmallWorldOfMessages(t *testing.T) {
	keys := world("\x00a\xff", 3)
	for _, k := range keys {
		for _, old := range keys {
			held(t, with(wide(2), put(old, "1"), far(k, 9, "")), []string{old, k})
			held(t, with(wide(2), del(old), far(k, 9, "")), []string{old, k})
			held(t, with(wide(2), far(k, 9, ""), del(old)), []string{old, k})
		}
	}
}

// anyKey is a key of few bytes, sometimes of as many as may be.
func anyKey(r *rand.Rand) string {
	b := make([]byte, r.Intn(4))
	if r.Intn(12) == 0 {
		b = make([]byte, api.MaxKey-r.Intn(2))
	}
	for i := range b {
		b[i] = "\x00ab\xfe\xff"[r.Intn(5)]
	}
	return string(b)
}

// anyMsg is a message that may be.
func anyMsg(r *rand.Rand) api.Msg {
	switch r.Intn(4) {
	case 0:
		return far(anyKey(r), uint32(r.Intn(100)), anyKey(r))
	case 1:
		return del(anyKey(r))
	}
	return put(anyKey(r), anyKey(r))
}

// anyNode is a node that may be, with kids.
func anyNode(r *rand.Rand) api.Node {
	var pivots []string
	for range r.Intn(api.MaxFan) {
		if k := anyKey(r); k != "" {
			pivots = append(pivots, k)
		}
	}
	slices.Sort(pivots)
	n := forked(nil, slices.Compact(pivots)...)
	for i := range len(n.Pivots) + 1 {
		n.Kids = append(n.Kids, by(uint32(i), anyKey(r), anyKey(r)))
	}
	for range r.Intn(api.MaxBuffer + 1) {
		n.Buffer = append(n.Buffer, anyMsg(r))
	}
	return n
}

// P13.1 to P13.3: mixed nodes, whose Gotos are pasted one behind the other while they may be.
func TestMixed(t *testing.T) {
	r := rand.New(rand.NewSource(13))
	for range 6000 {
		n := anyNode(r)
		for node.May(n) == api.OK && First(n) >= 0 {
			held(t, n, keysOf(n))
			for i := -1; i <= len(n.Buffer); i++ {
				if i != First(n) {
					refused(t, "another place", n, i, api.ErrArg)
				}
			}
			n, _ = Paste(n, First(n))
		}
		if node.May(n) != api.OK && len(n.Kids) <= api.MaxFan {
			t.Fatalf("P13.3: %#v", n)
		}
		if First(n) < 0 && slices.ContainsFunc(n.Buffer, func(m api.Msg) bool { return m.Kind == api.Goto }) {
			t.Fatalf("First: %#v", n)
		}
	}
}

// P0.1, P0.2: very long and odd arguments.
func TestHuge(t *testing.T) {
	huge := long(100000)
	for _, n := range []api.Node{
		{Leaf: true, Pairs: make([]api.Pair, 100000)},
		{Kids: make([]api.Edge, 100000)},
		{Pivots: make([]string, 100000)},
		{Buffer: make([]api.Msg, 100000)},
		with(wide(2), slices.Repeat([]api.Msg{far("a", 9, "")}, 100000)...),
		with(wide(2), far(huge, 9, "")),
		with(wide(2), far("", 9, huge)),
		with(wide(2), put("a", huge), far("a", 9, "")),
		with(forked(wide(2).Kids, huge), far("a", 9, "")),
		with(forked(edges(by(1, huge, huge))), far("a", 9, "")),
	} {
		for _, i := range places {
			refused(t, "huge", n, i, api.ErrForm)
		}
	}
	if i := First(api.Node{Buffer: append(make([]api.Msg, 100000), far("", 9, ""))}); i != 100000 {
		t.Errorf("First: %d", i)
	}
	pasted(t, "no UTF-8", with(wide(1), far("\xc3\x28", 9, "\x80")), 0, forked(edges(by(1, "", ""), by(9, "\xc3\x28", "\x80"), by(1, "", "")), "\xc3\x28", "\xc3\x29"))
}

// P0.4: nil lists and empty ones.
func TestNoLists(t *testing.T) {
	for _, n := range []api.Node{{}, leaf(), wide(1), with(wide(1), far("", 9, "")), with(wide(1), far("a", 9, "")), with(wide(2), put("b", ""), far("b", 9, ""))} {
		empty := api.Node{
			Leaf:   n.Leaf,
			Pairs:  append([]api.Pair{}, n.Pairs...),
			Pivots: append([]string{}, n.Pivots...),
			Kids:   append([]api.Edge{}, n.Kids...),
			Buffer: append([]api.Msg{}, n.Buffer...),
		}
		if a, b := First(n), First(empty); a != b {
			t.Errorf("First: %d, and %d", a, b)
		}
		for i := range 3 {
			got, e := Paste(n, i)
			if other, e2 := Paste(empty, i); !node.Same(got, other) || e != e2 {
				t.Errorf("Paste of %#v, %d: %#v %v, and %#v %v", n, i, got, e, other, e2)
			}
		}
	}
}

// scribble writes over a list, and over all the room behind its end.
func scribble[T any](l []T, with T) {
	l = l[:cap(l)]
	for i := range l {
		l[i] = with
	}
}

// scribbleAll writes over all lists of a node.
func scribbleAll(n api.Node) {
	scribble(n.Pairs, pair("junk", "junk"))
	scribble(n.Pivots, "junk")
	scribble(n.Kids, by(77, "junk", "junk"))
	scribble(n.Buffer, far("junk", 77, "junk"))
}

// roomy is a node whose lists have room behind their ends, in which something stands; and all of that room.
func roomy(of api.Node) (api.Node, api.Node) {
	whole := node.Own(of)
	whole.Pairs = append(whole.Pairs, pair("zz", "1"), pair("zzz", "2"))
	whole.Pivots = append(whole.Pivots, "zz", "zzz")
	whole.Kids = append(whole.Kids, by(55, "zz", ""), by(56, "", ""))
	whole.Buffer = append(whole.Buffer, put("zz", "1"), far("zz", 57, ""))
	n := whole
	n.Pairs, n.Pivots = n.Pairs[:len(of.Pairs)], n.Pivots[:len(of.Pivots)]
	n.Kids, n.Buffer = n.Kids[:len(of.Kids)], n.Buffer[:len(of.Buffer)]
	return n, whole
}

// P0.3, P0.5: what is handed in stays as it was, also behind a list's end; nothing of it is shared with what is
// answered, nor that with what is answered the next time, which is the same.
func TestHandedIn(t *testing.T) {
	nodes := []api.Node{
		tall(), wide(1), wide(8), leaf(), leaf(pair("a", "1")),
		with(wide(1), far("", 9, "")),
		with(wide(1), far("m", 9, "")),
		with(wide(8), far("z", 9, ""), put("a", "1")),
		with(tall(), put("a", "1"), far("b", 9, "z")),
		with(tall(), put("b", "1"), put("a", "1"), far("bb", 9, "z"), put("bb", "2"), far("c", 8, "")),
		with(tall(), put("ba", "1"), far("ba", 9, ""), del("ba")),
		with(tall(), far("", 9, ""), del("ba"), far("a", 8, "")),
	}
	for _, n := range wrong() {
		nodes = append(nodes, n)
	}
	r := rand.New(rand.NewSource(3))
	for range 300 {
		nodes = append(nodes, anyNode(r))
	}
	for _, n := range nodes {
		for i := -1; i <= len(n.Buffer); i++ {
			handIn(t, n, i)
		}
	}
}

func handIn(t *testing.T, of api.Node, i int) {
	t.Helper()
	n, room := roomy(of)
	before := node.Own(room)
	first, e := Paste(n, i)
	second, e2 := Paste(n, i)
	kept := node.Own(second)
	if alone, e3 := Paste(of, i); !node.Same(first, alone) || !node.Same(second, alone) || e != e2 || e != e3 || First(n) != First(of) {
		t.Errorf("otherwise the next time, or by what stands behind a list's end: %#v, %d", of, i)
	}
	scribbleAll(first)
	if !node.Same(room, before) || !node.Same(second, kept) {
		t.Errorf("what is answered shares something: %#v, %d", of, i)
	}
	scribbleAll(room)
	if !node.Same(second, kept) {
		t.Errorf("what is answered hangs on what was handed in: %#v, %d", of, i)
	}
}
