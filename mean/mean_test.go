package mean

import (
	"cmp"
	"iter"
	"math"
	"math/rand"
	"slices"
	"strings"
	"testing"

	"marcot/api"
	"marcot/graph"
	"marcot/node"
)

// The greatest block, and the most ways.
const (
	top  = 1<<32 - 1
	full = 1 << 30
)

func put(k, v string) api.Msg { return api.Msg{Kind: api.Put, Key: k, Value: v} }

func del(k string) api.Msg { return api.Msg{Kind: api.Delete, Key: k} }

// far is a Goto to a leaf; settled says another Deep.
func far(k string, block uint32, add string) api.Msg {
	return api.Msg{Kind: api.Goto, Key: k, Block: block, Deep: 1, Add: add}
}

// to is a kid that is a leaf; settled says another Deep.
func to(block uint32, strip, add string) api.Edge {
	return api.Edge{Block: block, Deep: 1, Lift: api.Lift{Strip: strip, Add: add}}
}

// pairs are pairs of these keys and values, by turns.
func pairs(texts ...string) []api.Pair {
	var all []api.Pair
	for i := 0; i+1 < len(texts); i += 2 {
		all = append(all, api.Pair{Key: texts[i], Value: texts[i+1]})
	}
	return all
}

func leaf(texts ...string) api.Node { return api.Node{Leaf: true, Pairs: pairs(texts...)} }

// fork is a node with these kids, and the first bytes of a text as pivots between them.
func fork(pivots string, kids ...api.Edge) api.Node {
	n := api.Node{Kids: kids}
	for i := range len(kids) - 1 {
		n.Pivots = append(n.Pivots, pivots[i:i+1])
	}
	return n
}

// with is a node with these messages behind those that it has.
func with(n api.Node, buffer ...api.Msg) api.Node {
	n.Buffer = append(slices.Clone(n.Buffer), buffer...)
	return n
}

// at is a node in a block.
func at(block uint32, n api.Node) api.Item { return api.Item{Block: block, Node: n} }

func items(l ...api.Item) []api.Item { return l }

func span(lo, hi string) api.Range { return api.Range{Lo: lo, Hi: hi, End: true} }

func from(lo string) api.Range { return api.Range{Lo: lo} }

// again is a graph with lists of its own.
func again(l []api.Item) []api.Item {
	var all []api.Item
	for _, item := range l {
		all = append(all, at(item.Block, node.Own(item.Node)))
	}
	return all
}

// same tells whether two graphs are the same, item by item.
func same(a, b []api.Item) bool {
	return slices.EqualFunc(a, b, func(x, y api.Item) bool {
		return x.Block == y.Block && node.Same(x.Node, y.Node)
	})
}

// settled is a graph by rising blocks, in which each kid and each Goto says how deep its target is.
func settled(l ...api.Item) []api.Item {
	l = again(l)
	slices.SortFunc(l, func(a, b api.Item) int { return cmp.Compare(a.Block, b.Block) })
	for range l {
		deeps := map[uint32]uint16{}
		for _, item := range l {
			deeps[item.Block] = node.Deep(item.Node)
		}
		for _, item := range l {
			for i := range item.Node.Kids {
				kid := &item.Node.Kids[i]
				kid.Deep = deeps[kid.Block]
			}
			for i := range item.Node.Buffer {
				if m := &item.Node.Buffer[i]; m.Kind == api.Goto {
					m.Deep = deeps[m.Block]
				}
			}
		}
	}
	return l
}

// shared is a right graph: leaves in 0, 3 and top, nodes with kids in 5, 6 and 9, and several ways to most of them.
func shared() []api.Item {
	return settled(
		at(0, leaf("", "e", "a", "1", "ab", "2", "b", "", "c", "3")),
		at(3, leaf("x", "4", "xa", "5", "xb", "6", "\xff", "7")),
		at(5, with(fork("b", to(0, "", ""), to(3, "", "x")),
			put("a", "new"), del("ab"), far("c", 3, "x"), put("cb", "last"))),
		at(6, with(fork("bd", to(5, "", ""), to(0, "b", "a"), to(5, "d", "")),
			far("d", 0, ""), del("da"), far("dab", 5, "c"))),
		at(9, with(fork("m\xff", to(6, "", "d"), to(6, "m", ""), to(3, "\xff", "\xff")),
			far("z", 6, ""), far("zd", 3, "x"), put("\xff\xff", "far"))),
		at(top, leaf()),
	)
}

// meant are all pairs of the blocks of shared, told by hand.
func meant() map[uint32][]api.Pair {
	return map[uint32][]api.Pair{
		0: pairs("", "e", "a", "1", "ab", "2", "b", "", "c", "3"),
		3: pairs("x", "4", "xa", "5", "xb", "6", "\xff", "7"),
		5: pairs("", "e", "a", "new", "b", "6", "c", "4", "ca", "5", "cb", "last"),
		6: pairs("", "e", "a", "new", "b", "1", "bb", "2",
			"d", "e", "dab", "4", "daba", "5", "dabb", "last", "db", "", "dc", "3"),
		9: pairs("", "e", "ab", "4", "aba", "5", "abb", "last", "b", "", "c", "3",
			"m", "e", "ma", "new", "mb", "1", "mbb", "2",
			"md", "e", "mdab", "4", "mdaba", "5", "mdabb", "last", "mdb", "", "mdc", "3",
			"z", "e", "za", "new", "zb", "1", "zbb", "2", "zd", "4", "zda", "5", "zdb", "6",
			"\xff", "7", "\xff\xff", "far"),
		top: nil,
	}
}

// step is what the document says of where a key leads: of a kind as layer 7 numbers them.
func step(n api.Node, k string) (kind int, value string, block uint32, there string) {
	for _, p := range n.Pairs {
		if p.Key == k {
			return 1, p.Value, 0, ""
		}
	}
	if n.Leaf {
		return 0, "", 0, ""
	}
	for i := len(n.Buffer) - 1; i >= 0; i-- {
		switch m := n.Buffer[i]; {
		case m.Kind == api.Put && m.Key == k:
			return 1, m.Value, 0, ""
		case m.Kind == api.Delete && m.Key == k:
			return 0, "", 0, ""
		case m.Kind == api.Goto && strings.HasPrefix(k, m.Key):
			return 2, "", m.Block, m.Add + strings.TrimPrefix(k, m.Key)
		}
	}
	i := 0
	for i < len(n.Pivots) && n.Pivots[i] <= k {
		i++
	}
	kid := n.Kids[i]
	if !strings.HasPrefix(k, kid.Lift.Strip) {
		return 0, "", 0, ""
	}
	return 2, "", kid.Block, kid.Lift.Add + strings.TrimPrefix(k, kid.Lift.Strip)
}

// find is the node in a block of a right graph.
func find(l []api.Item, block uint32) (api.Node, bool) {
	i := slices.IndexFunc(l, func(item api.Item) bool { return item.Block == block })
	if i < 0 || !graph.Right(l) {
		return api.Node{}, false
	}
	return l[i].Node, true
}

// get is what the document says of the value of a key.
func get(l []api.Item, root uint32, k string) (string, bool) {
	n, ok := find(l, root)
	if !ok {
		return "", false
	}
	kind, value, block, there := step(n, k)
	if kind == 2 {
		return get(l, block, there)
	}
	return value, kind == 1
}

// back are keys of a target, as they are ahead of a lift that leads there.
func back(strip, add string, below []string) []string {
	var all []string
	for _, k := range below {
		if strings.HasPrefix(k, add) {
			all = append(all, strip+strings.TrimPrefix(k, add))
		}
	}
	return all
}

// known are all keys that may have a value in a block, rising: those of leaves and of Puts, as they are from there on
// by any way, whether it is the one by which a key leads or not.
func known(l []api.Item, root uint32) []string {
	n, _ := find(l, root)
	var all []string
	for _, p := range n.Pairs {
		all = append(all, p.Key)
	}
	for _, kid := range n.Kids {
		all = append(all, back(kid.Lift.Strip, kid.Lift.Add, known(l, kid.Block))...)
	}
	for _, m := range n.Buffer {
		switch m.Kind {
		case api.Put:
			all = append(all, m.Key)
		case api.Goto:
			all = append(all, back(m.Key, m.Add, known(l, m.Block))...)
		}
	}
	slices.Sort(all)
	return slices.Compact(all)
}

// within tells whether a key is in a range.
func within(r api.Range, k string) bool { return r.Lo <= k && !(r.End && r.Hi <= k) }

// first are the pairs of a range, of all pairs of a block, asked one by one: the first most of them.
func first(whole []api.Pair, r api.Range, most int) []api.Pair {
	var some []api.Pair
	for _, p := range whole {
		if within(r, p.Key) && len(some) != most {
			some = append(some, p)
		}
	}
	return some
}

// everything are all pairs of a block that the document says.
func everything(l []api.Item, root uint32) []api.Pair {
	var all []api.Pair
	for _, k := range known(l, root) {
		if v, ok := get(l, root, k); ok {
			all = append(all, api.Pair{Key: k, Value: v})
		}
	}
	return all
}

// ways is what the document says of ways, of graphs that have few.
func ways(l []api.Item, root uint32) int {
	n, ok := find(l, root)
	if !ok {
		return 0
	}
	sum := 1
	for _, kid := range n.Kids {
		sum += ways(l, kid.Block)
	}
	for _, m := range n.Buffer {
		if m.Kind == api.Goto {
			sum += ways(l, m.Block)
		}
	}
	return sum
}

// told are all pairs that are gone through.
func told(seq iter.Seq[api.Pair]) []api.Pair { return slices.Collect(seq) }

// ask holds what all calls answer of a block against the document's words, by these keys, and ranges between them.
func ask(t *testing.T, l []api.Item, root uint32, some []string, ranges []api.Range) {
	t.Helper()
	whole := everything(l, root)
	for _, k := range append(known(l, root), some...) {
		want, there := get(l, root, k)
		if v, ok := Get(l, root, k); v != want || ok != there {
			t.Fatalf("Get of %q in %d of %#v: %q %t", k, root, l, v, ok)
		}
	}
	for _, r := range append(ranges, api.Range{}) {
		for _, most := range []int{-1, 0, 1, 2, len(whole)} {
			if got := Pairs(l, root, r, most); !slices.Equal(got, first(whole, r, most)) {
				t.Fatalf("Pairs of %#v, %d, in %d of %#v: %q, not %q", r, most, root, l, got, first(whole, r, most))
			}
		}
		got := told(All(l, root, r))
		if !slices.Equal(got, first(whole, r, -1)) {
			t.Fatalf("All of %#v in %d of %#v: %q, not %q", r, root, l, got, first(whole, r, -1))
		}
		askBoth(t, l, root, r, got, some)
	}
	if got := Ways(l, root); got != ways(l, root) {
		t.Fatalf("Ways of %d in %#v: %d, not %d", root, l, got, ways(l, root))
	}
}

// askBoth holds the pairs of a range against Get, and against those of its parts.
func askBoth(t *testing.T, l []api.Item, root uint32, r api.Range, got []api.Pair, some []string) {
	t.Helper()
	for _, k := range some {
		v, ok := Get(l, root, k)
		if slices.Contains(got, api.Pair{Key: k, Value: v}) != (ok && within(r, k)) {
			t.Fatalf("%q is %q %t in %d of %#v, the pairs of %#v are %q", k, v, ok, root, l, r, got)
		}
		if !within(r, k) {
			continue
		}
		low, high := Pairs(l, root, span(r.Lo, k), -1), Pairs(l, root, api.Range{Lo: k, Hi: r.Hi, End: r.End}, -1)
		if !slices.Equal(append(low, high...), got) {
			t.Fatalf("parts of %#v at %q, in %d of %#v: %q and %q, not %q", r, k, root, l, low, high, got)
		}
	}
}

// P10.1: the document's example.
func TestExample(t *testing.T) {
	l := settled(at(5, with(fork("", to(9, "", "")), far("b", 7, "a"))), at(7, leaf("a", "1")), at(9, leaf()))
	if v, ok := Get(l, 5, "b"); v != "1" || !ok {
		t.Errorf("Get: %q %t", v, ok)
	}
	if v, ok := Get(l, 5, "a"); v != "" || ok {
		t.Errorf("Get of a: %q %t", v, ok)
	}
	if p := Pairs(l, 5, api.Range{}, -1); !slices.Equal(p, pairs("b", "1")) {
		t.Errorf("Pairs: %q", p)
	}
	if p := told(All(l, 5, api.Range{})); !slices.Equal(p, pairs("b", "1")) {
		t.Errorf("All: %q", p)
	}
	if w := Ways(l, 5); w != 3 {
		t.Errorf("Ways: %d", w)
	}
}

// P10.1: all pairs, and all ways, of the blocks of a graph, told by hand.
func TestShared(t *testing.T) {
	l := shared()
	if !graph.Right(l) {
		t.Fatal("shared isn't right")
	}
	for block, want := range meant() {
		if p := Pairs(l, block, api.Range{}, -1); !slices.Equal(p, want) {
			t.Errorf("Pairs of %d: %q", block, p)
		}
		if p := told(All(l, block, api.Range{})); !slices.Equal(p, want) {
			t.Errorf("All of %d: %q", block, p)
		}
		for _, p := range want {
			if v, ok := Get(l, block, p.Key); v != p.Value || !ok {
				t.Errorf("Get of %q in %d: %q %t", p.Key, block, v, ok)
			}
		}
	}
	for block, want := range map[uint32]int{0: 1, 3: 1, 5: 4, 6: 15, 9: 48, top: 1, 1: 0, top - 1: 0} {
		if w := Ways(l, block); w != want {
			t.Errorf("Ways of %d: %d", block, w)
		}
	}
}

// P10.1: Get, of keys with a value, keys that lead nowhere, and blocks that aren't there.
func TestGet(t *testing.T) {
	sixteen := strings.Repeat("k", 16)
	l := settled(append(shared(),
		at(20, leaf("b\x00", "0", sixteen, "long")),
		// Its kids go from some keys alone; the second one has room for none from which it goes.
		at(21, fork("bc", to(20, "aa", "b"), to(20, "a", ""), to(20, sixteen, ""))),
		at(22, with(fork("", to(21, sixteen, "")), put("p", "1"), put("p", "2"), far("q", 20, ""), put("qb\x00", "3"), far("qb", 20, "b"),
			put("", "none"), del("r"), put("r", ""), put("s", "1"), del("s"), far("t", 0, ""), far("", 0, ""), far("u", 3, "x"))),
		at(23, with(fork("", to(0, "", "")), far("a", 0, "b"), far("ab", 0, ""))),
		at(24, with(fork("", to(0, "", "")), far("ab", 0, ""), far("a", 0, "b"))),
	)...)
	for _, c := range []struct {
		block uint32
		k     string
		want  string
		ok    bool
	}{
		{0, "", "e", true},
		{0, "b", "", true},
		{0, "d", "", false},
		{0, "a\x00", "", false},
		{3, "", "", false},
		{top, "", "", false},
		{1, "", "", false},
		{1, "a", "", false},
		{top - 1, "a", "", false},
		{5, "ab", "", false},
		{5, "aba", "", false},
		{5, "a", "new", true},
		{5, "b", "6", true},
		{5, "c", "4", true},
		{5, "cb", "last", true},
		{5, "cba", "", false},
		{5, "xa", "", false},
		{6, "b", "1", true},
		{6, "c", "", false},
		{6, "da", "", false},
		{6, "daa", "", false},
		{6, "dab", "4", true},
		{6, "e", "", false},
		{9, "", "e", true},
		{9, "\xff\xff", "far", true},
		{9, "\xff\xfe", "", false},
		{9, "\xfe", "", false},
		{20, sixteen, "long", true},
		{20, sixteen[1:], "", false},
		{20, sixteen + "k", "", false},
		{21, "aa\x00", "0", true},
		{21, "ab\x00", "", false},
		{21, "b", "", false},
		{21, "ba", "", false},
		{21, sixteen + sixteen, "long", true},
		{21, sixteen + sixteen[1:], "", false},
		{22, "p", "", false},
		{22, "u", "4", true},
		{22, "ub", "6", true},
		{22, "c", "3", true},
		{22, "", "e", true},
		{22, sixteen + sixteen + sixteen, "", false},
		{23, "a", "", true},
		{23, "ab", "e", true},
		{23, "abb", "", true},
		{23, "aba", "1", true},
		{23, "ac", "", false},
		{24, "a", "", true},
		{24, "ab", "", false},
		{24, "aba", "", false},
		{24, "c", "3", true},
	} {
		if v, ok := Get(l, c.block, c.k); v != c.want || ok != c.ok {
			t.Errorf("Get of %q in %d: %q %t", c.k, c.block, v, ok)
		}
	}
	// Without the Goto of all keys what was said ahead of it counts.
	l[slices.IndexFunc(l, func(item api.Item) bool { return item.Block == 22 })].Node.Buffer[11] = del("no")
	for _, c := range []struct {
		k    string
		want string
		ok   bool
	}{
		{"", "none", true},
		{"p", "2", true},
		{"q", "", false},
		{"qb\x00", "0", true},
		{"q" + sixteen, "long", true},
		{"r", "", true},
		{"s", "", false},
		{"tab", "2", true},
		{"td", "", false},
		{"u", "4", true},
		{"aa\x00", "", false},
		{sixteen, "", false},
		{sixteen + "aa\x00", "0", true},
		{sixteen + sixteen + sixteen, "long", true},
	} {
		if v, ok := Get(l, 22, c.k); v != c.want || ok != c.ok {
			t.Errorf("Get of %q in 22, without a Goto: %q %t", c.k, v, ok)
		}
	}
}

// P10.1, P10.2: ranges of all kinds, of a leaf and of a node with ways of all kinds.
func TestRanges(t *testing.T) {
	l := shared()
	for _, r := range []api.Range{
		{}, {Hi: "b"}, {End: true}, from("a"), from("ab"), from("ab\x00"), from("b"), from("\xff"), from("\xff\xff"), from("\xff\xff\xff"),
		{Lo: "c", Hi: "a"}, {Lo: "d", Hi: "dab"}, span("c", "a"), span("c", "c"), span("c", ""), span("\xff", "\xfe"),
		span("", "\x00"), span("", "a"), span("", "b"), span("a", "b"), span("a", "a\x00"), span("a\x00", "b"), span("aa", "aab"),
		span("d", "e"), span("da", "db"), span("dab", "dabb"), span("dab\x00", "dabb\x00"), span("ab", "mdab"), span("mb", "md"),
		span("z", "{"), span("zc", "zdb"), span("zd", "zd\x00"), span("zda", "\xff"), span("z", "\xff\xff"), span("\xff", "\xff\x00"),
		span("\xff", "\xff\xff\xff"), span("n", "z"), span("e", "m"), span("", "\xff\xff\xff"), span(strings.Repeat("m", 40), strings.Repeat("z", 40)),
	} {
		for block, all := range meant() {
			want := first(all, r, -1)
			if p := Pairs(l, block, r, -1); !slices.Equal(p, want) {
				t.Errorf("Pairs of %#v in %d: %q, not %q", r, block, p, want)
			}
			if p := told(All(l, block, r)); !slices.Equal(p, want) {
				t.Errorf("All of %#v in %d: %q, not %q", r, block, p, want)
			}
		}
	}
	for _, r := range []api.Range{{End: true}, span("b", "a"), span("a", "a"), {}, from("a")} {
		if p := Pairs(l, 1, r, -1); len(p) != 0 {
			t.Errorf("Pairs of %#v where no block is: %q", r, p)
		}
		if p := Pairs(l, top, r, -1); len(p) != 0 {
			t.Errorf("Pairs of %#v where no pair is: %q", r, p)
		}
	}
}

// P10.1: Pairs, with a most of 0, of 1, below 0, and of more than there are.
func TestMost(t *testing.T) {
	l := shared()
	for block, all := range meant() {
		for _, r := range []api.Range{{}, from("b"), span("ab", "mdb"), span("b", "a")} {
			some := first(all, r, -1)
			for _, most := range []int{math.MinInt, -2, -1, math.MaxInt, 1 << 31, len(some) + 1, len(some)} {
				if p := Pairs(l, block, r, most); most != 0 && !slices.Equal(p, some) {
					t.Errorf("Pairs of %#v, %d, in %d: %q", r, most, block, p)
				}
			}
			for most := range len(some) {
				if p := Pairs(l, block, r, most); !slices.Equal(p, some[:most]) {
					t.Errorf("Pairs of %#v, %d, in %d: %q", r, most, block, p)
				}
			}
			if p := Pairs(l, block, r, 0); len(p) != 0 {
				t.Errorf("Pairs of %#v, none of them, in %d: %q", r, block, p)
			}
		}
	}
}

// P10.1, P10.2: pivots, lifts and messages beside one another, and at the edges of what they speak of.
func TestEdges(t *testing.T) {
	below := at(1, leaf("", "0", "\x00", "1", "a", "2", "a\x00", "3", "a\xff", "4", "b", "5", "\xff", "6", "\xff\xff", "7"))
	for what, c := range map[string]struct {
		n    api.Node
		want []api.Pair
	}{
		"a kid":                          {fork("", to(1, "", "")), below.Node.Pairs},
		"a kid that strips":              {fork("", to(1, "k", "")), pairs("k", "0", "k\x00", "1", "ka", "2", "ka\x00", "3", "ka\xff", "4", "kb", "5", "k\xff", "6", "k\xff\xff", "7")},
		"a kid that adds":                {fork("", to(1, "", "a")), pairs("", "2", "\x00", "3", "\xff", "4")},
		"a kid that does both":           {fork("", to(1, "k", "\xff")), pairs("k", "6", "k\xff", "7")},
		"a kid that adds what none has":  {fork("", to(1, "", "c")), nil},
		"kids that part at a key":        {fork("a", to(1, "", ""), to(1, "", "")), below.Node.Pairs},
		"kids that part at the greatest": {fork("\xff", to(1, "", ""), to(1, "\xff", "")), pairs("", "0", "\x00", "1", "a", "2", "a\x00", "3", "a\xff", "4", "b", "5", "\xff", "0", "\xff\x00", "1", "\xffa", "2", "\xffa\x00", "3", "\xffa\xff", "4", "\xffb", "5", "\xff\xff", "6", "\xff\xff\xff", "7")},
		"a kid cut on both sides":        {fork("ab", to(1, "c", ""), to(1, "", ""), to(1, "a", "")), pairs("a", "2", "a\x00", "3", "a\xff", "4")},
		"a kid that goes behind its own": {fork("a", to(1, "b", ""), to(1, "\x00", "")), nil},
		"a kid with some of what it has": {fork("b", to(1, "a", ""), to(1, "b", "")), pairs("a", "0", "a\x00", "1", "aa", "2", "aa\x00", "3", "aa\xff", "4", "ab", "5", "a\xff", "6", "a\xff\xff", "7", "b", "0", "b\x00", "1", "ba", "2", "ba\x00", "3", "ba\xff", "4", "bb", "5", "b\xff", "6", "b\xff\xff", "7")},
		"a Put ahead of all":             {with(fork("", to(1, "", "b")), put("", "p")), pairs("", "p")},
		"a Put just behind":              {with(fork("", to(1, "", "b")), put("\x00", "p")), pairs("", "5", "\x00", "p")},
		"a Put at a pivot":               {with(fork("b", to(1, "", "b"), to(1, "bc", "b")), put("b", "p")), pairs("", "5", "b", "p", "bc", "5")},
		"a Put behind all":               {with(fork("", to(1, "", "\xff")), put("\xff\xff", "p")), pairs("", "6", "\xff", "7", "\xff\xff", "p")},
		"Puts, the newest counts":        {with(fork("", to(1, "z", "c")), put("a", "1"), put("b", "1"), put("a", "2")), pairs("a", "2", "b", "1")},
		"a Put of nothing":               {with(fork("", to(1, "z", "c")), put("a", "")), pairs("a", "")},
		"Deletes":                        {with(fork("", to(1, "", "")), del(""), del("a"), del("\xff"), del("no")), pairs("\x00", "1", "a\x00", "3", "a\xff", "4", "b", "5", "\xff\xff", "7")},
		"a Delete, then a Put":           {with(fork("", to(1, "", "a")), del(""), put("", "p")), pairs("", "p", "\x00", "3", "\xff", "4")},
		"a Put, then a Delete":           {with(fork("", to(1, "", "a")), put("", "p"), del("")), pairs("\x00", "3", "\xff", "4")},
		"a Goto of all":                  {with(fork("b", to(1, "", ""), to(1, "", "")), put("k", "p"), far("", 1, "a")), pairs("", "2", "\x00", "3", "\xff", "4")},
		"a Goto at a pivot":              {with(fork("b", to(1, "", "a"), to(1, "", "")), far("b", 1, "\xff")), pairs("", "2", "\x00", "3", "b", "6", "b\xff", "7", "\xff", "6", "\xff\xff", "7")},
		"a Goto over a pivot":            {with(fork("m", to(1, "", "c"), to(1, "", "c")), far("m", 1, "a")), pairs("m", "2", "m\x00", "3", "m\xff", "4")},
		"a Goto to the end":              {with(fork("", to(1, "", "b")), far("\xff", 1, "a")), pairs("", "5", "\xff", "2", "\xff\x00", "3", "\xff\xff", "4")},
		"a Goto within a Goto":           {with(fork("", to(1, "", "c")), far("k", 1, "a"), far("k\x00", 1, "b")), pairs("k", "2", "k\x00", "5", "k\xff", "4")},
		"a Goto over a Goto":             {with(fork("", to(1, "", "c")), far("k\x00", 1, "b"), far("k", 1, "a")), pairs("k", "2", "k\x00", "3", "k\xff", "4")},
		"a Put within a Goto":            {with(fork("", to(1, "", "c")), far("k", 1, "a"), put("k", "p"), put("ka", "q")), pairs("k", "p", "k\x00", "3", "ka", "q", "k\xff", "4")},
		"a Goto over a Put":              {with(fork("", to(1, "", "c")), put("k", "p"), put("ka", "q"), put("l", "r"), far("k", 1, "a")), pairs("k", "2", "k\x00", "3", "k\xff", "4", "l", "r")},
		"a Goto to nothing, over a kid":  {with(fork("", to(1, "", "")), far("a", 1, "c"), far("\xff", 1, "c")), pairs("", "0", "\x00", "1", "b", "5")},
		"a Delete within a Goto":         {with(fork("", to(1, "", "c")), far("k", 1, "a"), del("k\x00")), pairs("k", "2", "k\xff", "4")},
	} {
		l := settled(at(0, c.n), below)
		if p := Pairs(l, 0, api.Range{}, -1); !slices.Equal(p, c.want) {
			t.Errorf("Pairs of %s: %q", what, p)
		}
		some := []string{"", "\x00", "a", "a\x00", "b", "k", "k\x00", "ka", "m", "\xff", "\xff\xff"}
		ask(t, l, 0, some, []api.Range{from("a"), from("k"), span("\x00", "b"), span("a", "k\x00"), span("k", "\xff"), span("b", "b")})
	}
}

// P10.3: the pairs of a range are those of its parts, one behind the other: of two parts at each key, and of many.
func TestParts(t *testing.T) {
	l := shared()
	for block, all := range meant() {
		cuts := []string{"", "\x00", "aa", "ab\x00", "b", "d", "dab", "m", "mda", "n", "z", "zd", "zdz", "\xff", "\xff\x00", "\xff\xff\xff"}
		for _, p := range all {
			cuts = append(cuts, p.Key, p.Key+"\x00")
		}
		slices.Sort(cuts)
		for _, r := range []api.Range{{}, from("b"), span("a", "zda"), span("ab", "\xff\xff")} {
			whole := Pairs(l, block, r, -1)
			askBoth(t, l, block, r, whole, cuts)
			var joined []api.Pair
			lo := r.Lo
			for _, k := range cuts {
				if within(r, k) {
					joined = append(joined, Pairs(l, block, span(lo, k), -1)...)
					lo = k
				}
			}
			joined = append(joined, Pairs(l, block, api.Range{Lo: lo, Hi: r.Hi, End: r.End}, -1)...)
			if !slices.Equal(joined, whole) {
				t.Errorf("many parts of %#v in %d: %q, not %q", r, block, joined, whole)
			}
		}
	}
}

// P10.1: All stopped at each pair: none is handed on behind it; and ranged over again, and within itself.
func TestAllStopped(t *testing.T) {
	l := shared()
	for block, all := range meant() {
		seq := All(l, block, api.Range{})
		for stop := range len(all) {
			var some []api.Pair
			seq(func(p api.Pair) bool {
				some = append(some, p)
				return len(some) <= stop
			})
			if !slices.Equal(some, all[:stop+1]) {
				t.Errorf("All of %d, stopped at %d: %q", block, stop, some)
			}
		}
		if p := told(seq); !slices.Equal(p, all) {
			t.Errorf("All of %d, ranged over again: %q", block, p)
		}
		var outer []api.Pair
		for p := range seq {
			outer = append(outer, p)
			if inner := told(seq); !slices.Equal(inner, all) {
				t.Errorf("All of %d, ranged over within itself: %q", block, inner)
			}
		}
		if !slices.Equal(outer, all) {
			t.Errorf("All of %d, ranged over around itself: %q", block, outer)
		}
	}
}

// P10.1: All that panics in whoever ranges over it goes through all pairs the next time.
func TestAllThrownOutOf(t *testing.T) {
	seq := All(shared(), 9, api.Range{})
	for stop := range len(meant()[9]) {
		func() {
			defer func() { recover() }()
			seen := 0
			for range seq {
				if seen == stop {
					panic("enough")
				}
				seen++
			}
		}()
		if p := told(seq); !slices.Equal(p, meant()[9]) {
			t.Errorf("All, thrown out of at %d: %q", stop, p)
		}
	}
}

// doubled is a graph of so many nodes, each of which leads twice to the one ahead of it, by these kids; in 0 stands
// the one to which all leads.
func doubled(levels int, bottom api.Node, kids func(below uint32) api.Node) []api.Item {
	l := items(at(0, bottom))
	for i := range uint32(levels) {
		n := kids(i)
		for k := range n.Kids {
			n.Kids[k].Deep = uint16(i) + 1
		}
		l = append(l, at(i+1, n))
	}
	return l
}

// stripping is a node of which all keys are behind an a or a b.
func stripping(below uint32) api.Node { return fork("b", to(below, "a", ""), to(below, "b", "")) }

// P10.1: Ways of a leaf, of a target that several lead to, by kids and by Gotos, whether keys go there or not.
func TestWays(t *testing.T) {
	l := settled(
		at(1, leaf("a", "1")),
		at(2, fork("", to(1, "", ""))),
		at(3, fork("ab", to(1, "", ""), to(1, "", ""), to(1, "", ""))),
		at(4, with(fork("", to(1, "", "")), far("a", 1, ""), far("a", 1, ""))),
		at(5, fork("a", to(1, "b", ""), to(1, "", "zz"))),
		at(6, with(fork("a", to(2, "", ""), to(3, "", "")), put("a", "1"), far("", 4, ""), del("a"), far("", 4, ""))),
		at(7, fork("a", to(6, "", ""), to(6, "", ""))),
		at(8, leaf()),
	)
	for block, want := range []int{0, 1, 2, 4, 4, 3, 1 + 2 + 4 + 4 + 4, 31, 1, 0} {
		if w := Ways(l, uint32(block)); w != want {
			t.Errorf("Ways of %d: %d", block, w)
		}
	}
	if w := Ways(l, top); w != 0 {
		t.Errorf("Ways where no block is: %d", w)
	}
}

// P10.1: Ways up to 2^30, and of graphs whose ways would be more.
func TestWaysToTheBrim(t *testing.T) {
	l := doubled(100, leaf(), stripping)
	for level := range 30 {
		if w := Ways(l, uint32(level)); w != 1<<(level+1)-1 {
			t.Errorf("Ways of %d: %d", level, w)
		}
	}
	for level := 30; level <= 100; level++ {
		if w := Ways(l, uint32(level)); w != full {
			t.Errorf("Ways of %d: %d", level, w)
		}
	}
	// In 29 there are 2^30 - 1 ways; and one leaf is led to beside it.
	all := fork("bcdefgh", to(29, "", ""), to(28, "", ""), to(29, "", ""), to(30, "", ""), to(99, "", ""), to(0, "", ""), to(29, "", ""), to(29, "", ""))
	for range 16 {
		all = with(all, far("", 29, ""))
	}
	for what, c := range map[string]struct {
		n    api.Node
		want int
	}{
		"just as many":         {fork("", to(29, "", "")), full},
		"one more":             {fork("b", to(29, "", ""), to(0, "", "")), full},
		"one more, ahead":      {fork("b", to(0, "", ""), to(29, "", "")), full},
		"one less":             {fork("b", to(28, "", ""), to(28, "", "")), full - 1},
		"by a Goto":            {with(fork("", to(0, "", "")), far("", 29, "")), full},
		"by many":              {all, full},
		"twice as many":        {fork("b", to(30, "", ""), to(30, "", "")), full},
		"of more, and a leaf":  {fork("b", to(99, "", ""), to(0, "", "")), full},
		"of a leaf, and more":  {fork("b", to(0, "", ""), to(99, "", "")), full},
		"of many, by one kid":  {fork("", to(100, "", "")), full},
		"half as many, and 1":  {fork("", to(28, "", "")), full / 2},
		"half as many, thrice": {fork("bc", to(28, "", ""), to(28, "", ""), to(28, "", "")), full},
	} {
		if w := Ways(settled(append(again(l), at(200, c.n))...), 200); w != c.want {
			t.Errorf("Ways of %s: %d", what, w)
		}
	}
}

// P0.1, P10.1: calls end, however many ways there are, and whether or not they lead to pairs.
func TestManyWays(t *testing.T) {
	const levels = 80
	as, ab := strings.Repeat("a", levels), strings.Repeat("ab", levels/2)
	for what, kids := range map[string]func(below uint32) api.Node{
		"stripping": stripping,
		"as they are": func(below uint32) api.Node {
			return fork("b", to(below, "", ""), to(below, "", ""))
		},
		"adding": func(below uint32) api.Node {
			return fork("b", to(below, "", "a"), to(below, "", "b"))
		},
		"all at once": func(below uint32) api.Node {
			return with(fork("bc", to(below, "a", "b"), to(below, "b", "c"), to(below, "", "a")), put("aa", "1"), del("aa"))
		},
	} {
		l := settled(append(doubled(levels, leaf(), kids), at(500, fork("c", to(levels, "", ""), to(501, "", ""))), at(501, leaf("a", "1", "c", "2")))...)
		for _, r := range []api.Range{{}, from("b"), from(ab), span(as, ab), span("b", "c")} {
			if p := Pairs(l, levels, r, -1); len(p) != 0 {
				t.Errorf("Pairs of %#v, %s: %q", r, what, p)
			}
			if p := Pairs(l, 500, api.Range{Lo: r.Lo}, -1); !slices.Equal(p, pairs("c", "2")) {
				t.Errorf("Pairs from %q on, behind many ways, %s: %q", r.Lo, what, p)
			}
		}
		if v, ok := Get(l, levels, ab); v != "" || ok {
			t.Errorf("Get, %s: %q %t", what, v, ok)
		}
		if w := Ways(l, 500); w != full {
			t.Errorf("Ways, %s: %d", what, w)
		}
	}
	l := doubled(levels, leaf("", "1", "z", "2"), stripping)
	if v, ok := Get(l, levels, ab); v != "1" || !ok {
		t.Errorf("Get: %q %t", v, ok)
	}
	if p := Pairs(l, levels, api.Range{}, 4); !slices.Equal(p, pairs(as, "1", as+"z", "2", as[1:]+"b", "1", as[1:]+"bz", "2")) {
		t.Errorf("Pairs, the first ones: %q", p)
	}
	if p := Pairs(l, levels, from(ab+"\x00"), 2); !slices.Equal(p, pairs(ab+"z", "2", ab[:levels-2]+"ba", "1")) {
		t.Errorf("Pairs from one on: %q", p)
	}
	if p := Pairs(l, levels, span(ab, ab+"\x00"), -1); !slices.Equal(p, pairs(ab, "1")) {
		t.Errorf("Pairs of one key: %q", p)
	}
	if p := Pairs(l, levels, span(as+"zz", as[1:]+"b"), -1); len(p) != 0 {
		t.Errorf("Pairs of a range without any: %q", p)
	}
}

// chain is a row of so many nodes from 0 on, each the kid or the Goto's target of the one ahead of it, that takes an a
// away; the last one is a leaf; and a leaf without pairs in the greatest block.
func chain(length int, byGoto bool) []api.Item {
	var all []api.Item
	for i := range length - 1 {
		next, deep := uint32(i)+1, uint16(length-1-i)
		kid := api.Edge{Block: next, Deep: deep, Lift: api.Lift{Strip: "a"}}
		n := fork("", kid)
		if byGoto {
			n = with(fork("", to(top, "", "")), api.Msg{Kind: api.Goto, Key: "a", Block: next, Deep: deep})
		}
		all = append(all, at(uint32(i), n))
	}
	return append(all, at(uint32(length)-1, leaf("", "end")), at(top, leaf()))
}

// P10.1: graphs as deep as may be, and one deeper, that isn't right.
func TestDeepest(t *testing.T) {
	for _, byGoto := range []bool{false, true} {
		for _, length := range []int{65534, 65535, 65536} {
			l, k := chain(length, byGoto), strings.Repeat("a", length-1)
			want, ways := pairs(k, "end"), length
			if byGoto {
				ways = 2*length - 1
			}
			if length > 65535 {
				want, ways = nil, 0
			}
			if p := Pairs(l, 0, api.Range{}, -1); !slices.Equal(p, want) {
				t.Errorf("%d nodes in a row, by Gotos %t: %d pairs", length, byGoto, len(p))
			}
			if p := Pairs(l, 0, span(k[1:], k), -1); len(p) != 0 {
				t.Errorf("%d nodes in a row, by Gotos %t: %d pairs ahead", length, byGoto, len(p))
			}
			if v, ok := Get(l, 0, k); ok != (want != nil) || ok != (v == "end") {
				t.Errorf("%d nodes in a row, by Gotos %t: Get: %q %t", length, byGoto, v, ok)
			}
			if w := Ways(l, 0); w != ways {
				t.Errorf("%d nodes in a row, by Gotos %t: Ways: %d", length, byGoto, w)
			}
		}
	}
}

// P10.1: keys may be longer on the way than those of a node may be.
func TestLongKeys(t *testing.T) {
	long := strings.Repeat("0123456789abcdef", 100)
	var l []api.Item
	for i := range 200 {
		lift := api.Lift{Add: long[:16]}
		if i >= 100 {
			lift = api.Lift{Strip: long[:16]}
		}
		l = append(l, at(uint32(i), fork("", api.Edge{Block: uint32(i) + 1, Deep: uint16(200 - i), Lift: lift})))
	}
	l = append(l, at(200, leaf("", "end", "a", "1")))
	if p := Pairs(l, 0, api.Range{}, -1); !slices.Equal(p, pairs("", "end", "a", "1")) {
		t.Errorf("Pairs: %q", p)
	}
	if p := Pairs(l, 100, api.Range{}, -1); !slices.Equal(p, pairs(long, "end", long+"a", "1")) {
		t.Errorf("Pairs within: %q", p)
	}
	if v, ok := Get(l, 100, long+"a"); v != "1" || !ok {
		t.Errorf("Get within: %q %t", v, ok)
	}
	if p := Pairs(l, 50, span(long[:800]+"a", long[:800]+"b"), -1); !slices.Equal(p, pairs(long[:800]+"a", "1")) {
		t.Errorf("Pairs half the way: %q", p)
	}
}

// texts are all texts of at most so many of these letters.
func texts(letters string, most int) []string {
	all := []string{""}
	for done := 0; most > 0; most-- {
		upTo := len(all)
		for _, s := range all[done:upTo] {
			for i := range len(letters) {
				all = append(all, s+letters[i:i+1])
			}
		}
		done = upTo
	}
	return all
}

// spans are all ranges whose ends are some of these.
func spans(ends []string) []api.Range {
	var all []api.Range
	for _, lo := range ends {
		all = append(all, from(lo))
		for _, hi := range ends {
			all = append(all, span(lo, hi))
		}
	}
	return all
}

// shapes are nodes of a small world with one kid or two, by all lifts of it.
func shapes(world []uint32) []api.Node {
	var kids []api.Edge
	for _, block := range world {
		for _, strip := range []string{"", "a", "b"} {
			kids = append(kids, to(block, strip, ""), to(block, strip, "a"))
		}
	}
	var all []api.Node
	for _, kid := range kids {
		all = append(all, fork("", kid))
		for _, other := range kids {
			for _, pivot := range []string{"a", "ab", "b"} {
				all = append(all, api.Node{Kids: []api.Edge{kid, other}, Pivots: []string{pivot}})
			}
		}
	}
	return all
}

// P10.1, P10.2, P10.3: all nodes of a small world upon others, its keys and its ranges.
func TestSmallWorld(t *testing.T) {
	below := items(
		at(3, leaf("", "0", "a", "1", "b", "2")),
		at(5, leaf("a", "3", "aa", "4", "bb", "5")),
		at(7, with(fork("b", to(3, "", ""), to(5, "b", "a")), put("aa", "6"), far("ab", 5, ""))),
	)
	messages := []api.Msg{put("a", "7"), put("ab", "8"), del("a"), del(""), far("", 3, "a"), far("a", 7, ""), far("a", 5, "b"), far("ab", 3, "")}
	some := texts("ab", 3)
	ranges := spans(texts("ab", 2))
	round := 0
	each := func(n api.Node) {
		round++
		// Of all ranges some by turns, else there are too many.
		var few []api.Range
		for i := range 3 {
			few = append(few, ranges[(round*3+i)%len(ranges)])
		}
		ask(t, settled(append(again(below), at(9, n))...), 9, some[round%4*4:][:3], few)
	}
	for i, n := range shapes([]uint32{3, 5, 7}) {
		each(n)
		for j, m := range messages {
			each(with(n, m))
			if i%12 == j {
				for _, newer := range messages {
					each(with(n, m, newer))
				}
			}
		}
	}
}

// world makes graphs by chance.
type world struct{ *rand.Rand }

func newWorld(seed int64) world { return world{rand.New(rand.NewSource(seed))} }

// text is one of few texts, the empty one more often than others.
func (w world) text() string {
	all := texts("\x00ab\xff", 2)
	return all[max(0, w.Intn(len(all)+6)-6)]
}

// short is a text of at most one letter, most often the empty one.
func (w world) short() string { return []string{"", "", "", "a", "b", "\xff"}[w.Intn(6)] }

// some are so many texts, rising, each once.
func (w world) some(times int) []string {
	var all []string
	for range times {
		all = append(all, w.text())
	}
	slices.Sort(all)
	return slices.Compact(all)
}

// inner is a node that leads to some of these blocks.
func (w world) inner(below []api.Item) api.Node {
	pick := func() uint32 { return below[max(0, len(below)-1-w.Intn(4))].Block }
	var n api.Node
	for _, pivot := range w.some(w.Intn(3)) {
		if pivot != "" {
			n.Pivots = append(n.Pivots, pivot)
		}
	}
	for range len(n.Pivots) + 1 {
		n.Kids = append(n.Kids, to(pick(), w.short(), w.short()))
	}
	for range w.Intn(5) {
		switch w.Intn(4) {
		case 0:
			n = with(n, put(w.text(), "p"+w.text()))
		case 1:
			n = with(n, del(w.text()))
		default:
			n = with(n, far(w.text(), pick(), w.short()))
		}
	}
	return n
}

// right is a graph that is: each node leads to those that were made ahead of it.
func (w world) right() []api.Item {
	var l []api.Item
	for i, block := range w.Perm(9)[:w.Intn(7)+1] {
		n := leaf()
		for _, k := range w.some(w.Intn(12)) {
			n.Pairs = append(n.Pairs, api.Pair{Key: k, Value: k + "v"})
		}
		if i > 1 {
			n = w.inner(l)
		}
		l = append(l, at(uint32(block), n))
	}
	return settled(l...)
}

// spoil is a graph with something changed, that may make it one that isn't right.
func (w world) spoil(l []api.Item) []api.Item {
	l = again(l)
	i := w.Intn(len(l))
	n := &l[i].Node
	switch w.Intn(6) {
	case 0:
		return slices.Delete(l, i, i+1)
	case 1:
		l[i].Block = uint32(w.Intn(10))
	case 2:
		n.Leaf = !n.Leaf
	case 3:
		for k := range n.Kids {
			n.Kids[k].Deep += uint16(w.Intn(2))
		}
	case 4:
		for k := range n.Buffer {
			n.Buffer[k].Block = uint32(w.Intn(10))
		}
	case 5:
		slices.Reverse(n.Pairs)
		slices.Reverse(n.Pivots)
	}
	return l
}

// P10.1, P10.2, P10.3: mixed graphs, right ones and spoilt ones.
func TestMixed(t *testing.T) {
	w := newWorld(10)
	right, wrong, met := 0, 0, 0
	for range 3000 {
		l := w.right()
		if !graph.Right(l) {
			t.Fatalf("a graph that was made right isn't: %v", l)
		}
		if w.Intn(4) == 0 {
			l = w.spoil(l)
		}
		if graph.Right(l) {
			right++
		} else {
			wrong++
		}
		for root := range uint32(10) {
			var ranges []api.Range
			for range 3 {
				ranges = append(ranges, api.Range{Lo: w.text() + w.text(), Hi: w.text() + w.text(), End: w.Intn(3) > 0})
			}
			ask(t, l, root, append(w.some(3), w.text()+w.text()), ranges)
			met += len(Pairs(l, root, api.Range{}, -1))
		}
	}
	if right < 2000 || wrong < 300 || met < 40000 {
		t.Errorf("right: %d, not: %d, pairs: %d", right, wrong, met)
	}
}

// wrong are graphs that aren't right, each by one thing alone; in 1 there is always a leaf with a pair.
func wrong() map[string][]api.Item {
	one := at(1, leaf("a", "1"))
	most := leaf()
	for i := range 17 {
		most.Pairs = append(most.Pairs, api.Pair{Key: string([]byte{'a' + byte(i)})})
	}
	deep := func(e api.Edge, d uint16) api.Edge { e.Deep = d; return e }
	return map[string][]api.Item{
		"one block twice":             items(one, one),
		"blocks that fall":            items(at(2, leaf()), one),
		"a node without anything":     items(one, at(2, api.Node{})),
		"a leaf with too much":        items(one, at(2, most)),
		"a leaf whose keys fall":      items(one, at(2, leaf("b", "1", "a", "2"))),
		"a leaf with a kid":           items(one, at(2, api.Node{Leaf: true, Kids: []api.Edge{to(1, "", "")}})),
		"a key that is too long":      items(one, at(2, leaf(strings.Repeat("k", 17), ""))),
		"pivots that don't fit":       items(one, at(2, api.Node{Kids: []api.Edge{to(1, "", ""), to(1, "", "")}})),
		"pivots, and no kids":         items(one, at(2, api.Node{Pivots: []string{"a"}})),
		"pivots that fall":            items(one, at(2, fork("ba", to(1, "", ""), to(1, "", ""), to(1, "", "")))),
		"a lift that is too long":     items(one, at(2, fork("", to(1, strings.Repeat("k", 17), "")))),
		"a message of another Kind":   items(one, at(2, with(fork("", to(1, "", "")), api.Msg{Kind: 4, Key: "a"}))),
		"a kid that isn't there":      items(one, at(2, fork("", to(3, "", "")))),
		"a Goto that isn't there":     items(one, at(2, with(fork("", to(1, "", "")), far("a", 3, "")))),
		"a kid that says 0":           items(one, at(2, fork("", deep(to(1, "", ""), 0)))),
		"a kid that says 2":           items(one, at(2, fork("", deep(to(1, "", ""), 2)))),
		"a kid that says 65535":       items(one, at(2, fork("", deep(to(1, "", ""), 65535)))),
		"one that leads to itself":    items(one, at(2, fork("", to(2, "", "")))),
		"to itself, by a Goto":        items(one, at(2, with(fork("", to(1, "", "")), api.Msg{Kind: api.Goto, Block: 2, Deep: 2}))),
		"to itself, as deep as it is": items(one, at(2, fork("", deep(to(2, "", ""), 65535)))),
		"a ring":                      items(one, at(2, fork("", deep(to(3, "", ""), 65535))), at(3, fork("", deep(to(2, "", ""), 65535)))),
	}
}

// P10.1, P0.1: in graphs that aren't right nothing has a value or ways, also what hangs on nothing that is wrong.
func TestWrong(t *testing.T) {
	graphs := wrong()
	huge := api.Node{Leaf: true, Pairs: make([]api.Pair, 3000), Pivots: []string{"", strings.Repeat("x", 3000)}}
	for range 3000 {
		huge.Kids = append(huge.Kids, to(2, "", ""))
		huge.Buffer = append(huge.Buffer, far("", 2, ""), api.Msg{Kind: 255, Block: 9})
	}
	graphs["a huge node"] = items(at(1, leaf("a", "1")), at(2, huge))
	graphs["none"] = nil
	graphs["one without lists"] = items(at(0, api.Node{}))
	for what, l := range graphs {
		for _, root := range []uint32{0, 1, 2, 3, top} {
			for _, k := range []string{"", "a", strings.Repeat("a", 100)} {
				if v, ok := Get(l, root, k); v != "" || ok {
					t.Errorf("%s: Get of %q in %d: %q %t", what, k, root, v, ok)
				}
			}
			for _, r := range []api.Range{{}, from("a"), span("a", "b"), span("b", "a")} {
				for _, most := range []int{-1, 0, 1, math.MaxInt, math.MinInt} {
					if p := Pairs(l, root, r, most); len(p) != 0 {
						t.Errorf("%s: Pairs of %#v, %d, in %d: %q", what, r, most, root, p)
					}
				}
				if p := told(All(l, root, r)); len(p) != 0 {
					t.Errorf("%s: All of %#v in %d: %q", what, r, root, p)
				}
			}
			if w := Ways(l, root); w != 0 {
				t.Errorf("%s: Ways of %d: %d", what, root, w)
			}
		}
	}
}

// P0.4: a nil list is the same as an empty one.
func TestNoLists(t *testing.T) {
	empty := api.Node{Leaf: true, Pairs: []api.Pair{}, Pivots: []string{}, Kids: []api.Edge{}, Buffer: []api.Msg{}}
	kid := fork("", to(1, "", ""))
	kid.Pairs, kid.Pivots, kid.Buffer = []api.Pair{}, []string{}, []api.Msg{}
	l := items(at(0, kid), at(1, empty))
	for root, ways := range []int{2, 1, 0} {
		if v, ok := Get(l, uint32(root), ""); v != "" || ok {
			t.Errorf("Get in %d: %q %t", root, v, ok)
		}
		if len(Pairs(l, uint32(root), api.Range{}, -1)) != 0 || len(told(All(l, uint32(root), api.Range{}))) != 0 {
			t.Errorf("Pairs of %d", root)
		}
		if w := Ways(l, uint32(root)); w != ways {
			t.Errorf("Ways of %d: %d", root, w)
		}
		none := []api.Item{}
		if _, ok := Get(none, uint32(root), ""); ok || len(Pairs(none, uint32(root), api.Range{}, -1)) != 0 || Ways(none, uint32(root)) != 0 {
			t.Errorf("%d in an empty graph", root)
		}
	}
}

// scribble writes over a list, and over all the room behind its end.
func scribble[T any](l []T, with T) {
	l = l[:cap(l)]
	for i := range l {
		l[i] = with
	}
}

// scribbleAll writes over a graph, and over all lists of its nodes.
func scribbleAll(l []api.Item) {
	for _, item := range l {
		scribble(item.Node.Pairs, api.Pair{Key: "junk", Value: "junk"})
		scribble(item.Node.Pivots, "junk")
		scribble(item.Node.Kids, to(777, "", ""))
		scribble(item.Node.Buffer, put("junk", "junk"))
	}
	scribble(l, at(777, leaf("junk", "junk")))
}

// roomy is a list with room behind its end, in which something stands.
func roomy[T any](of []T, behind ...T) []T {
	return append(append([]T(nil), of...), behind...)[:len(of)]
}

// roomyGraph is a graph whose lists, and those of its nodes, have room behind their ends.
func roomyGraph(of []api.Item) []api.Item {
	l := roomy(of, at(98, fork("", to(99, "", ""))), at(99, leaf()))
	for i := range l {
		n := &l[i].Node
		n.Pairs = roomy(n.Pairs, api.Pair{Key: "behind"}, api.Pair{})
		n.Pivots = roomy(n.Pivots, "behind", "")
		n.Kids = roomy(n.Kids, to(97, "", ""), to(96, "", ""))
		n.Buffer = roomy(n.Buffer, far("", 95, ""), put("", "behind"))
	}
	return l
}

// bare is a graph with all the room behind its end, and behind those of its nodes' lists, as a part of them.
func bare(l []api.Item) []api.Item {
	all := slices.Clone(l[:cap(l)])
	for i := range all {
		n := &all[i].Node
		n.Pairs, n.Pivots = n.Pairs[:cap(n.Pairs)], n.Pivots[:cap(n.Pivots)]
		n.Kids, n.Buffer = n.Kids[:cap(n.Kids)], n.Buffer[:cap(n.Buffer)]
	}
	return all
}

// P0.3, P0.5: no call changes what is handed in, also behind a list's end; what stands there isn't asked; and each
// answer is the same one time and the next.
func TestHandedIn(t *testing.T) {
	graphs := wrong()
	graphs["right"] = shared()
	for what, of := range graphs {
		l := roomyGraph(of)
		before := again(bare(l))
		for range 2 {
			for _, root := range []uint32{0, 1, 2, 3, 5, 6, 9, 98, 99, top} {
				ask(t, l, root, []string{"", "a", "ab", "behind"}, []api.Range{from("a"), span("a", "dabb")})
			}
		}
		if !same(bare(l), before) {
			t.Errorf("%s: the graph that was handed in is another one", what)
		}
	}
}

// P0.3: what Pairs and All answer shares nothing with what was handed in, nor with what is answered the next time;
// and the graph isn't kept: whatever becomes of it, what All answered goes through what it was.
func TestKeepsNothing(t *testing.T) {
	for root, want := range meant() {
		l := roomyGraph(shared())
		first, second := Pairs(l, root, api.Range{}, -1), Pairs(l, root, api.Range{}, -1)
		scribble(first, api.Pair{Key: "junk", Value: "junk"})
		if !slices.Equal(second, want) || !same(l, shared()) {
			t.Errorf("what Pairs answered of %d shares something", root)
		}
		seq, twice := All(l, root, api.Range{}), All(l, root, api.Range{})
		var some []api.Pair
		for p := range twice {
			some = append(some, p)
			scribbleAll(l)
		}
		if !slices.Equal(some, want) {
			t.Errorf("All of %d, while the graph is written over: %q", root, some)
		}
		scribbleAll(l)
		for range 2 {
			if p := told(seq); !slices.Equal(p, want) {
				t.Errorf("All of %d, of a graph that is another one by now: %q", root, p)
			}
		}
		if !slices.Equal(second, want) {
			t.Errorf("what Pairs answered of %d hangs on what was handed in", root)
		}
	}
}
