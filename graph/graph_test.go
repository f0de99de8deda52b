package graph

import (
	"math/rand"
	"slices"
	"strings"
	"testing"

	"marcot/api"
	"marcot/node"
)

// The greatest block, and the greatest count.
const top = 1<<32 - 1

func put(k, v string) api.Msg { return api.Msg{Kind: api.Put, Key: k, Value: v} }

func del(k string) api.Msg { return api.Msg{Kind: api.Delete, Key: k} }

// far is a Goto.
func far(k string, block uint32, deep uint16) api.Msg {
	return api.Msg{Kind: api.Goto, Key: k, Block: block, Deep: deep, Add: "x"}
}

// to is a kid.
func to(block uint32, deep uint16) api.Edge { return api.Edge{Block: block, Deep: deep} }

func leaf(keys ...string) api.Node {
	n := api.Node{Leaf: true}
	for _, k := range keys {
		n.Pairs = append(n.Pairs, api.Pair{Key: k, Value: "v"})
	}
	return n
}

// fork is a node with these kids, and pivots that fit.
func fork(kids ...api.Edge) api.Node {
	n := api.Node{Kids: kids}
	for i := 1; i < len(kids); i++ {
		n.Pivots = append(n.Pivots, string([]byte{byte(i)}))
	}
	return n
}

// with is a node with these messages behind those that it has.
func with(n api.Node, buffer ...api.Msg) api.Node {
	n.Buffer = append(n.Buffer, buffer...)
	return n
}

// at is a node in a block.
func at(block uint32, n api.Node) api.Item { return api.Item{Block: block, Node: n} }

func items(l ...api.Item) []api.Item { return l }

func ref(block, times uint32) api.Ref { return api.Ref{Block: block, N: times} }

func refs(l ...api.Ref) []api.Ref { return l }

// roots are volumes whose roots stand in these blocks.
func roots(blocks ...uint32) []api.Volume {
	var all []api.Volume
	for i, block := range blocks {
		all = append(all, api.Volume{Name: string([]byte{'a' + byte(i)}), Block: block, Deep: uint16(i)})
	}
	return all
}

func blocks(l ...uint32) []uint32 { return l }

// shared is a right graph in which several ways lead to one block.
func shared() []api.Item {
	return items(
		at(0, with(fork(to(4, 3), to(9, 1)), put("a", "1"), far("b", 6, 2), far("c", top, 1), del("d"))),
		at(4, with(fork(to(6, 2)), far("", 9, 1), far("", 9, 1))),
		at(6, fork(to(9, 1), to(9, 1), to(top, 1))),
		at(9, leaf("k")),
		at(top, leaf()),
	)
}

// same tells whether two graphs are the same, item by item.
func same(a, b []api.Item) bool {
	return slices.EqualFunc(a, b, func(x, y api.Item) bool {
		return x.Block == y.Block && node.Same(x.Node, y.Node)
	})
}

// again is a graph with lists of its own.
func again(l []api.Item) []api.Item {
	var all []api.Item
	for _, item := range l {
		all = append(all, at(item.Block, node.Own(item.Node)))
	}
	return all
}

// P9.1: the document's example.
func TestExample(t *testing.T) {
	l := items(at(5, fork(to(7, 1), to(7, 1))))
	if c := Counts(l, roots(5), nil); !slices.Equal(c, refs(ref(5, 1), ref(7, 2))) {
		t.Errorf("Counts: %v", c)
	}
}

// P9.1: graphs that are right.
func TestRight(t *testing.T) {
	full := leaf("0", "1", "2", "3", "4", "5", "6", "7", "8", "9", "a", "b", "c", "d", "e", "f")
	many := fork(to(8, 1), to(8, 1), to(8, 1), to(8, 1), to(8, 1), to(8, 1), to(8, 1), to(8, 1))
	for range 16 {
		many = with(many, far("k", 8, 1))
	}
	for what, l := range map[string][]api.Item{
		"none":                          nil,
		"one leaf":                      items(at(5, leaf("a", "b"))),
		"one leaf with nothing":         items(at(5, leaf())),
		"leaves alone":                  items(at(1, leaf()), at(2, leaf()), at(3, leaf("a"))),
		"a kid behind":                  items(at(1, fork(to(2, 1))), at(2, leaf())),
		"a kid ahead":                   items(at(1, leaf()), at(2, fork(to(1, 1)))),
		"two kids in one block":         items(at(5, fork(to(7, 1), to(7, 1))), at(7, leaf())),
		"a kid and a Goto in one block": items(at(5, with(fork(to(7, 1)), far("a", 7, 1))), at(7, leaf())),
		"a Goto that is deeper than the kid": items(
			at(1, with(fork(to(3, 1)), far("a", 2, 2))), at(2, fork(to(3, 1))), at(3, leaf())),
		"a kid that is deeper than the Goto": items(
			at(1, with(fork(to(2, 2)), far("a", 3, 1))), at(2, fork(to(3, 1))), at(3, leaf())),
		"several ways to one block":            shared(),
		"the least and the greatest block":     items(at(0, fork(to(top, 1))), at(top, leaf())),
		"from the greatest block to the least": items(at(0, leaf()), at(top, fork(to(0, 1)))),
		"just beside each other":               items(at(top-1, fork(to(top, 1))), at(top, leaf())),
		"all that may be":                      items(at(7, many), at(8, full)),
		"Puts and Deletes, which lead nowhere": items(at(1, with(fork(to(2, 1)), put("a", "1"), del("b"))), at(2, leaf())),
	} {
		if !Right(l) {
			t.Errorf("%s isn't right", what)
		}
	}
}

// wrong are graphs that aren't right, each by one thing alone.
func wrong() map[string][]api.Item {
	most := leaf()
	for i := range 17 {
		most.Pairs = append(most.Pairs, api.Pair{Key: string([]byte{byte(i)})})
	}
	return map[string][]api.Item{
		"one block twice":                   items(at(5, leaf()), at(5, leaf())),
		"block 0 twice":                     items(at(0, leaf()), at(0, leaf())),
		"the greatest block twice":          items(at(top, leaf()), at(top, leaf())),
		"one block twice, others":           items(at(1, fork(to(5, 1))), at(5, leaf()), at(5, leaf("a")), at(6, leaf())),
		"blocks that fall":                  items(at(6, leaf()), at(5, leaf())),
		"blocks that fall last":             items(at(1, leaf()), at(7, leaf()), at(6, leaf())),
		"blocks that fall from the end":     items(at(top, leaf()), at(0, leaf())),
		"one that comes back":               items(at(5, leaf()), at(6, leaf()), at(5, leaf())),
		"no leaf, and no kids":              items(at(5, api.Node{})),
		"a leaf with too much":              items(at(5, most)),
		"a leaf with kids":                  items(at(5, api.Node{Leaf: true, Kids: []api.Edge{to(6, 1)}}), at(6, leaf())),
		"a leaf with a Goto":                items(at(5, with(leaf(), far("a", 6, 1))), at(6, leaf())),
		"a leaf whose keys fall":            items(at(5, leaf("b", "a"))),
		"pivots that don't fit":             items(at(5, api.Node{Kids: []api.Edge{to(6, 1), to(6, 1)}}), at(6, leaf())),
		"a message of no Kind":              items(at(5, with(fork(to(6, 1)), api.Msg{})), at(6, leaf())),
		"a message of another Kind":         items(at(5, with(fork(to(6, 1)), api.Msg{Kind: 4, Block: 6, Deep: 1})), at(6, leaf())),
		"a Put with a Block":                items(at(5, with(fork(to(6, 1)), api.Msg{Kind: api.Put, Block: 6})), at(6, leaf())),
		"a last node that may not be":       items(at(5, fork(to(6, 1))), at(6, leaf()), at(7, api.Node{})),
		"a kid that isn't there":            items(at(5, fork(to(6, 1)))),
		"a second kid that isn't there":     items(at(5, fork(to(6, 1), to(7, 1))), at(6, leaf())),
		"a Goto that isn't there":           items(at(5, with(fork(to(6, 1)), far("a", 7, 1))), at(6, leaf())),
		"a second Goto that isn't there":    items(at(5, with(fork(to(6, 1)), far("a", 6, 1), far("b", 4, 1))), at(6, leaf())),
		"a kid in 0 that isn't there":       items(at(5, fork(to(0, 1)))),
		"a Goto to the greatest, not there": items(at(5, with(fork(to(6, 1)), far("a", top, 1))), at(6, leaf())),
		"a kid of no depth":                 items(at(5, fork(to(6, 0))), at(6, leaf())),
		"a Goto of no depth":                items(at(5, with(fork(to(6, 1)), far("a", 6, 0))), at(6, leaf())),
		"a kid that says one more":          items(at(5, fork(to(6, 2))), at(6, leaf())),
		"a second kid that says one more":   items(at(5, fork(to(6, 1), to(6, 2))), at(6, leaf())),
		"a Goto that says one more":         items(at(5, with(fork(to(6, 1)), far("a", 6, 2))), at(6, leaf())),
		"a last Goto that says one more":    items(at(5, with(fork(to(6, 1)), far("a", 6, 1), far("a", 6, 2))), at(6, leaf())),
		"a kid that says one less":          items(at(5, fork(to(6, 1))), at(6, fork(to(7, 1))), at(7, leaf())),
		"a Goto that says one less":         items(at(5, with(fork(to(7, 1)), far("a", 6, 1))), at(6, fork(to(7, 1))), at(7, leaf())),
		"a depth that hangs on a Goto":      items(at(5, fork(to(6, 2))), at(6, with(fork(to(8, 1)), far("a", 7, 2))), at(7, fork(to(8, 1))), at(8, leaf())),
		"a kid that says 65535, of a leaf":  items(at(5, fork(to(6, 65535))), at(6, leaf())),
		"a kid that says 65534, of a leaf":  items(at(5, fork(to(6, 65534))), at(6, leaf())),
		"a node that leads to itself":       items(at(5, fork(to(5, 1)))),
		"to itself, as deep as it is":       items(at(5, fork(to(5, 2)))),
		"to itself, as deep as can be":      items(at(5, fork(to(5, 65535)))),
		"to itself, just less deep":         items(at(5, fork(to(5, 65534)))),
		"to itself by a Goto":               items(at(5, with(fork(to(6, 1)), far("a", 5, 2))), at(6, leaf())),
		"to itself by a Goto, deepest":      items(at(5, with(fork(to(6, 1)), far("a", 5, 65535))), at(6, leaf())),
		"a ring":                            items(at(5, fork(to(6, 2))), at(6, fork(to(5, 2)))),
		"a ring, as deep as can be":         items(at(5, fork(to(6, 65535))), at(6, fork(to(5, 65535)))),
		"a ring that gets deep":             items(at(5, fork(to(6, 65535))), at(6, fork(to(5, 65534)))),
		"a ring of three":                   items(at(5, fork(to(6, 4))), at(6, fork(to(7, 3))), at(7, fork(to(5, 2)))),
		"a ring of three, deepest":          items(at(5, fork(to(6, 65535))), at(6, fork(to(7, 65535))), at(7, with(fork(to(8, 1)), far("", 5, 65535))), at(8, leaf())),
	}
}

// P9.1: graphs that aren't right, each by one thing alone.
func TestNotRight(t *testing.T) {
	for what, l := range wrong() {
		if Right(l) {
			t.Errorf("%s is right", what)
		}
	}
}

// chain is a row of so many nodes, the last one a leaf, each other one with the next one as its kid, or by its
// newest Goto (and a leaf as its kid).
func chain(length int, byGoto bool) []api.Item {
	var all []api.Item
	for i := range length - 1 {
		next, deep := uint32(i)+1, uint16(length-1-i)
		n := fork(to(next, deep))
		if byGoto {
			n = with(fork(to(uint32(length)-1, 1)), far("a", next, deep))
		}
		all = append(all, at(uint32(i), n))
	}
	return append(all, at(uint32(length)-1, leaf()))
}

// P9.1, P9.3: a kid and a Goto may say 65534, whoever has them is 65535 deep, and nobody may lead to that one:
// it says the same depth as one that leads to it.
func TestDeepest(t *testing.T) {
	for _, byGoto := range []bool{false, true} {
		for length, want := range map[int]bool{65534: true, 65535: true, 65536: false} {
			l := chain(length, byGoto)
			if Right(l) != want {
				t.Errorf("%d nodes in a row, by Gotos %t: %t", length, byGoto, !want)
			}
			if d := node.Deep(l[0].Node); d != uint16(min(length, 65535)) {
				t.Errorf("%d nodes in a row, by Gotos %t: the first one's depth is %d", length, byGoto, d)
			}
			if r := Reach(l, blocks(0)); len(r) != length || r[length-1] != uint32(length)-1 {
				t.Errorf("%d nodes in a row, by Gotos %t: %d reached", length, byGoto, len(r))
			}
		}
	}
}

// P9.1: Find, of blocks that one item has, several have, none has.
func TestFind(t *testing.T) {
	first, second, third := leaf("first"), fork(to(5, 1)), api.Node{}
	twice := items(at(5, first), at(3, second), at(5, third), at(top, second), at(0, first), at(0, second))
	for _, c := range []struct {
		l     []api.Item
		block uint32
		want  api.Node
		ok    bool
	}{
		{nil, 0, api.Node{}, false},
		{nil, top, api.Node{}, false},
		{shared(), 0, shared()[0].Node, true},
		{shared(), 4, shared()[1].Node, true},
		{shared(), 9, leaf("k"), true},
		{shared(), top, leaf(), true},
		{shared(), 1, api.Node{}, false},
		{shared(), 5, api.Node{}, false},
		{shared(), top - 1, api.Node{}, false},
		{twice, 5, first, true},
		{twice[1:], 5, third, true},
		{twice, 3, second, true},
		{twice, 0, first, true},
		{twice, top, second, true},
		{twice, 4, api.Node{}, false},
		{items(at(5, api.Node{})), 5, api.Node{}, true},
		{items(at(1, leaf())), 0, api.Node{}, false},
		{items(at(0, leaf())), 0, leaf(), true},
		{items(at(5, fork(to(7, 1)))), 7, api.Node{}, false},
	} {
		if n, ok := Find(c.l, c.block); ok != c.ok || !node.Same(n, c.want) {
			t.Errorf("Find of %d in %v: %#v %t", c.block, c.l, n, ok)
		}
	}
}

// P9.1: Counts, by roots, by kids and Gotos, by what is pending, and by all of them.
func TestCounts(t *testing.T) {
	twice := items(at(5, fork(to(7, 1))), at(5, fork(to(7, 1), to(8, 1))))
	for what, c := range map[string]struct {
		l     []api.Item
		roots []api.Volume
		pend  []api.Ref
		want  []api.Ref
	}{
		"nothing":                        {},
		"leaves alone, which none names": {l: items(at(1, leaf("a")), at(2, leaf()))},
		"a root":                         {roots: roots(5), want: refs(ref(5, 1))},
		"roots, also the same":           {roots: roots(5, top, 0, 5, 5, 0), want: refs(ref(0, 2), ref(5, 3), ref(top, 1))},
		"volumes with one name":          {roots: []api.Volume{{Name: "a", Block: 3, Deep: 1}, {Name: "a", Block: 3, Deep: 1}}, want: refs(ref(3, 2))},
		"kids and Gotos":                 {l: shared(), want: refs(ref(4, 1), ref(6, 2), ref(9, 5), ref(top, 2))},
		"all of them": {l: shared(), roots: roots(0, 9, 0), pend: refs(ref(9, 10), ref(4, 1), ref(3, 7)),
			want: refs(ref(0, 2), ref(3, 7), ref(4, 2), ref(6, 2), ref(9, 16), ref(top, 2))},
		"what is pending":              {pend: refs(ref(5, 3), ref(2, 1)), want: refs(ref(2, 1), ref(5, 3))},
		"what is pending twice":        {pend: refs(ref(5, 3), ref(2, 1), ref(5, 4)), want: refs(ref(2, 1), ref(5, 7))},
		"pending no times":             {pend: refs(ref(5, 0), ref(0, 0), ref(top, 0))},
		"pending no times, and some":   {pend: refs(ref(5, 0), ref(5, 1), ref(5, 0)), want: refs(ref(5, 1))},
		"pending no times, but a root": {roots: roots(5), pend: refs(ref(5, 0), ref(6, 0)), want: refs(ref(5, 1))},
		"by Gotos to what isn't there": {l: items(at(5, with(fork(to(6, 1)), far("", 8, 9), far("", 2, 1), far("", 8, 1)))),
			want: refs(ref(2, 1), ref(6, 1), ref(8, 2))},
		"by Puts and Deletes":           {l: items(at(5, with(fork(to(6, 1)), put("", ""), del("")))), want: refs(ref(6, 1))},
		"by each node in one block":     {l: twice, want: refs(ref(7, 2), ref(8, 1))},
		"by nodes in falling blocks":    {l: items(at(9, fork(to(1, 1))), at(8, fork(to(0, 1), to(1, 1)))), want: refs(ref(0, 1), ref(1, 2))},
		"by itself":                     {l: items(at(5, with(fork(to(5, 1)), far("", 5, 1)))), want: refs(ref(5, 2))},
		"by a ring":                     {l: items(at(5, fork(to(6, 2))), at(6, fork(to(5, 2)))), want: refs(ref(5, 1), ref(6, 1))},
		"by a leaf's kids and Gotos":    {l: items(at(5, api.Node{Leaf: true, Kids: []api.Edge{to(1, 0)}, Buffer: []api.Msg{far("", 2, 0)}})), want: refs(ref(1, 1), ref(2, 1))},
		"by a Block that leads nowhere": {l: items(at(5, with(fork(to(6, 1)), api.Msg{Kind: api.Put, Block: 7}, api.Msg{Kind: 4, Block: 7}, api.Msg{Block: 7}))), want: refs(ref(6, 1))},
	} {
		if got := Counts(c.l, c.roots, c.pend); !slices.Equal(got, c.want) {
			t.Errorf("Counts of %s: %v", what, got)
		}
	}
}

// P9.1: a block is told to be named at most 2^32 - 1 times, by whomever, and whoever comes last.
func TestCountsToTheBrim(t *testing.T) {
	l := items(at(1, with(fork(to(5, 1), to(5, 1)), far("", 5, 1))))
	for _, c := range []struct {
		l     []api.Item
		roots []api.Volume
		pend  []api.Ref
		want  uint32
	}{
		{nil, nil, refs(ref(5, top-1)), top - 1},
		{nil, nil, refs(ref(5, top)), top},
		{nil, roots(5), refs(ref(5, top-2)), top - 1},
		{nil, roots(5), refs(ref(5, top-1)), top},
		{nil, roots(5), refs(ref(5, top)), top},
		{nil, nil, refs(ref(5, 1), ref(5, top)), top},
		{nil, nil, refs(ref(5, top), ref(5, 1)), top},
		{nil, nil, refs(ref(5, top), ref(5, top)), top},
		{nil, nil, refs(ref(5, top), ref(5, top), ref(5, 2)), top},
		{nil, nil, refs(ref(5, 1<<31), ref(5, 1<<31)), top},
		{nil, nil, refs(ref(5, 1<<31), ref(5, 1<<31-1)), top},
		{nil, nil, refs(ref(5, 1<<31-1), ref(5, 1<<31-1)), top - 1},
		{l, nil, refs(ref(5, top-4)), top - 1},
		{l, nil, refs(ref(5, top-3)), top},
		{l, nil, refs(ref(5, top-2)), top},
		{l, roots(5, 5), refs(ref(5, top-5)), top},
		{l, roots(5, 5), refs(ref(5, top-6)), top - 1},
		{l, roots(5, 5), refs(ref(5, top-4)), top},
	} {
		// What another block comes to mustn't be touched by it.
		pend := append(refs(ref(4, 1)), append(c.pend, ref(6, top), ref(4, 1))...)
		want := refs(ref(4, 2), ref(5, c.want), ref(6, top))
		if got := Counts(c.l, c.roots, pend); !slices.Equal(got, want) {
			t.Errorf("Counts of %v, %v, %v: %v", c.l, c.roots, pend, got)
		}
	}
}

// P9.1: Reach, of roots in right graphs and in others.
func TestReach(t *testing.T) {
	ring := items(at(5, fork(to(6, 2))), at(6, fork(to(7, 2))), at(7, with(fork(to(9, 1)), far("", 5, 2))))
	twice := items(at(5, fork(to(1, 1))), at(5, fork(to(2, 1))), at(1, fork(to(5, 1))), at(2, fork(to(3, 1))))
	for what, c := range map[string]struct {
		l           []api.Item
		roots, want []uint32
	}{
		"nothing":                    {},
		"no roots":                   {shared(), nil, nil},
		"no graph":                   {nil, blocks(7, 3, 7), blocks(3, 7)},
		"the first root":             {shared(), blocks(0), blocks(0, 4, 6, 9, top)},
		"one within":                 {shared(), blocks(6), blocks(6, 9, top)},
		"one that leads on, and on":  {shared(), blocks(4), blocks(4, 6, 9, top)},
		"a leaf":                     {shared(), blocks(9), blocks(9)},
		"several":                    {shared(), blocks(top, 9), blocks(9, top)},
		"the same twice":             {shared(), blocks(9, 9, 6, 9, 6), blocks(6, 9, top)},
		"where no node is":           {shared(), blocks(5, 1, top-1), blocks(1, 5, top-1)},
		"where one is and none":      {shared(), blocks(7, 6), blocks(6, 7, 9, top)},
		"a target that isn't there":  {items(at(5, with(fork(to(2, 1)), far("", 8, 1)))), blocks(5), blocks(2, 5, 8)},
		"a Block that leads nowhere": {items(at(5, with(fork(to(6, 1)), api.Msg{Kind: api.Put, Block: 7}, api.Msg{Block: 7}))), blocks(5), blocks(5, 6)},
		"a leaf's kids and Gotos": {items(at(5, api.Node{Leaf: true, Kids: []api.Edge{to(1, 0)}, Buffer: []api.Msg{far("", 2, 0)}})),
			blocks(5), blocks(1, 2, 5)},
		"one that leads to itself":    {items(at(0, fork(to(0, 1)))), blocks(0), blocks(0)},
		"a ring":                      {ring, blocks(6), blocks(5, 6, 7, 9)},
		"beside a ring":               {ring, blocks(9), blocks(9)},
		"all of a ring":               {ring, blocks(7, 6, 5), blocks(5, 6, 7, 9)},
		"of several in one block one": {twice, blocks(5), blocks(1, 5)},
		"the first one behind it too": {twice, blocks(1), blocks(1, 5)},
		"not by another one there":    {twice, blocks(2), blocks(2, 3)},
	} {
		if got := Reach(c.l, c.roots); !slices.Equal(got, c.want) {
			t.Errorf("Reach of %s: %v", what, got)
		}
	}
}

// leads are the block and the Deep of each kid and each Goto of a node.
func leads(n api.Node) []api.Edge {
	var all []api.Edge
	for _, kid := range n.Kids {
		all = append(all, to(kid.Block, kid.Deep))
	}
	for _, m := range n.Buffer {
		if m.Kind == api.Goto {
			all = append(all, to(m.Block, m.Deep))
		}
	}
	return all
}

// right is what the document says of a right graph, asked of each two items.
func right(l []api.Item) bool {
	for i, item := range l {
		for _, behind := range l[i+1:] {
			if behind.Block <= item.Block {
				return false
			}
		}
		if node.May(item.Node) != api.OK {
			return false
		}
		for _, e := range leads(item.Node) {
			fits := func(other api.Item) bool {
				return other.Block == e.Block && node.Deep(other.Node) == e.Deep
			}
			if e.Deep >= 65535 || !slices.ContainsFunc(l, fits) {
				return false
			}
		}
	}
	return true
}

// mentioned are all blocks that a graph, roots and what is pending speak of, and some more, rising.
func mentioned(l []api.Item, roots []api.Volume, pend []api.Ref) []uint32 {
	all := blocks(0, 1, 77, top-1, top)
	for _, item := range l {
		all = append(all, item.Block)
		for _, e := range leads(item.Node) {
			all = append(all, e.Block)
		}
	}
	for _, root := range roots {
		all = append(all, root.Block)
	}
	for _, r := range pend {
		all = append(all, r.Block)
	}
	slices.Sort(all)
	return slices.Compact(all)
}

// counts is what the document says of how often blocks are named, asked of one block behind the other.
func counts(l []api.Item, roots []api.Volume, pend []api.Ref) []api.Ref {
	var all []api.Ref
	for _, block := range mentioned(l, roots, pend) {
		var times uint64
		for _, root := range roots {
			if root.Block == block {
				times++
			}
		}
		for _, item := range l {
			for _, e := range leads(item.Node) {
				if e.Block == block {
					times++
				}
			}
		}
		for _, r := range pend {
			if r.Block == block {
				times += uint64(r.N)
			}
		}
		if times > 0 {
			all = append(all, ref(block, uint32(min(times, top))))
		}
	}
	return all
}

// find is the first node in a block.
func find(l []api.Item, block uint32) (api.Node, bool) {
	i := slices.IndexFunc(l, func(item api.Item) bool { return item.Block == block })
	if i < 0 {
		return api.Node{}, false
	}
	return l[i].Node, true
}

// reach is what the document says of what is reached: targets are added, till there are no more.
func reach(l []api.Item, roots []uint32) []uint32 {
	all := append(blocks(), roots...)
	for {
		more := append(blocks(), all...)
		for _, block := range all {
			n, _ := find(l, block)
			for _, e := range leads(n) {
				more = append(more, e.Block)
			}
		}
		slices.Sort(more)
		more = slices.Compact(more)
		if slices.Equal(more, all) {
			return all
		}
		all = more
	}
}

// both are the blocks of two rising lists, rising, each once.
func both(a, b []uint32) []uint32 {
	all := append(append(blocks(), a...), b...)
	slices.Sort(all)
	return slices.Compact(all)
}

// asked is how many graphs were right, and how many weren't.
type asked struct{ right, wrong int }

// ask holds what all calls answer of a graph, right or not, against the document's words.
func (a *asked) ask(t *testing.T, l []api.Item, roots []api.Volume, pend []api.Ref, some, more []uint32) {
	t.Helper()
	want := right(l)
	if want {
		a.right++
		askDeeper(t, l)
	} else {
		a.wrong++
	}
	if Right(l) != want {
		t.Fatalf("Right of %v: %t", l, !want)
	}
	if got := Counts(l, roots, pend); !slices.Equal(got, counts(l, roots, pend)) {
		t.Fatalf("Counts of %v, %v, %v: %v", l, roots, pend, got)
	}
	for _, block := range mentioned(l, roots, pend) {
		n, ok := Find(l, block)
		if want, there := find(l, block); ok != there || !node.Same(n, want) {
			t.Fatalf("Find of %d in %v: %v %t", block, l, n, ok)
		}
	}
	bySome, byMore := Reach(l, some), Reach(l, more)
	if !slices.Equal(bySome, reach(l, some)) || !slices.Equal(byMore, reach(l, more)) {
		t.Fatalf("Reach of %v and %v in %v: %v %v", some, more, l, bySome, byMore)
	}
	if all := Reach(l, append(append(blocks(), some...), more...)); !slices.Equal(all, both(bySome, byMore)) {
		t.Fatalf("Reach of %v and %v in %v, at once: %v", some, more, l, all)
	}
}

// askDeeper asks of each node of a right graph whether it is deeper than all to which it leads, and isn't
// reached from those.
func askDeeper(t *testing.T, l []api.Item) {
	t.Helper()
	for _, item := range l {
		targets := node.Targets(item.Node)
		for _, block := range targets {
			n, ok := Find(l, block)
			if !ok || node.Deep(item.Node) <= node.Deep(n) {
				t.Fatalf("%d leads to %d, which isn't less deep, in %v", item.Block, block, l)
			}
		}
		if slices.Contains(Reach(l, targets), item.Block) {
			t.Fatalf("%d leads to itself in %v", item.Block, l)
		}
	}
}

// enough tells whether both, right and wrong graphs, were asked often.
func (a *asked) enough(t *testing.T, least int) {
	t.Helper()
	if a.right < least || a.wrong < least {
		t.Errorf("right: %d, not: %d", a.right, a.wrong)
	}
}

// littles are nodes of a small world: all blocks and depths of it, by kids and by Gotos, and some that may not be.
func littles(world []uint32, deeps []uint16) []api.Node {
	all := []api.Node{leaf(), {}, with(leaf(), far("", world[0], 1))}
	for _, block := range world {
		for _, deep := range deeps {
			e := to(block, deep)
			all = append(all, fork(e), with(fork(to(world[0], 1)), far("a", block, deep)), fork(e, to(world[1], 1)))
		}
	}
	return all
}

// P9.1, P9.2, P9.3: all graphs of up to two items, of a small world; and all roots in it.
func TestSmallWorld(t *testing.T) {
	world := blocks(0, 3, top)
	nodes := littles(world, []uint16{0, 1, 2, 3, 65534, 65535})
	var a asked
	a.ask(t, nil, nil, nil, nil, nil)
	round := 0
	for _, n := range nodes {
		for _, block := range world {
			one := items(at(block, n))
			a.ask(t, one, roots(block), refs(ref(block, 1)), world[:round%4], world[round%3:])
			for _, m := range nodes {
				for _, other := range world {
					round++
					l := append(one[:1:1], at(other, m))
					a.ask(t, l, roots(world[:round%4]...), refs(ref(block, 2), ref(other, uint32(round%3))), world[:round%4], world[round%3:])
				}
			}
		}
	}
	a.enough(t, 15)
}

// P9.1, P9.2, P9.3: all graphs of three items in blocks that rise, of a small world.
func TestSmallWorldOfThree(t *testing.T) {
	world := blocks(0, 3, top)
	nodes := littles(world, []uint16{1, 2, 3})
	var a asked
	round := 0
	for _, n := range nodes {
		for _, m := range nodes {
			for _, o := range nodes {
				round++
				l := items(at(0, n), at(3, m), at(top, o))
				a.ask(t, l, nil, nil, world[round%3:][:1], world[(round+1)%3:][:1])
			}
		}
	}
	a.enough(t, 40)
}

// world makes graphs by chance.
type world struct{ *rand.Rand }

func newWorld(seed int64) world { return world{rand.New(rand.NewSource(seed))} }

// some are so many of these blocks, also the same ones.
func (w world) some(of []uint32, times int) []uint32 {
	var all []uint32
	for range times {
		all = append(all, of[w.Intn(len(of))])
	}
	return all
}

// inner is a node that leads to nodes of a graph, as deep as they are.
func (w world) inner(below []api.Item) api.Node {
	// Many take the newest ones, so that graphs become deep.
	pick := func() api.Item {
		if w.Intn(2) == 0 {
			return below[len(below)-1]
		}
		return below[w.Intn(len(below))]
	}
	var kids []api.Edge
	for range w.Intn(api.MaxFan) + 1 {
		kid := pick()
		kids = append(kids, to(kid.Block, node.Deep(kid.Node)))
	}
	n := fork(kids...)
	for range w.Intn(6) {
		switch goal := pick(); w.Intn(3) {
		case 0:
			n = with(n, far("a", goal.Block, node.Deep(goal.Node)))
		case 1:
			n = with(n, put("a", "1"))
		case 2:
			n = with(n, del("b"))
		}
	}
	return n
}

// right is a graph that is: each node leads to those that were made ahead of it.
func (w world) right() []api.Item {
	given := w.Perm(24)
	var l []api.Item
	for i := range w.Intn(16) {
		// Also the least and the greatest block.
		block := uint32(given[i])
		if given[i] == 23 {
			block = top
		}
		n := leaf("k")
		if i > 1 && w.Intn(5) > 0 {
			n = w.inner(l)
		}
		l = append(l, at(block, n))
	}
	slices.SortFunc(l, func(a, b api.Item) int {
		if a.Block < b.Block {
			return -1
		}
		return 1
	})
	return l
}

// spoil is a graph with something changed, that may make it one that isn't right.
func (w world) spoil(l []api.Item) []api.Item {
	l = again(l)
	if len(l) == 0 {
		return items(at(5, api.Node{}))
	}
	i, j := w.Intn(len(l)), w.Intn(len(l))
	n := &l[i].Node
	deeps := []uint16{0, 1, 2, 3, 65534, 65535}
	deep := deeps[w.Intn(len(deeps))]
	switch w.Intn(10) {
	case 0:
		l[i], l[j] = l[j], l[i]
	case 1:
		l[i].Block = l[j].Block
	case 2:
		return slices.Delete(l, i, i+1)
	case 3:
		l[i].Block = uint32(w.Intn(30))
	case 4:
		n.Leaf = !n.Leaf
	case 5:
		*n = fork(to(l[j].Block, deep))
	case 6:
		*n = with(*n, far("z", l[j].Block, deep))
	case 7:
		for k := range n.Kids {
			n.Kids[k].Deep += uint16(w.Intn(3)) - 1
		}
	case 8:
		for k := range n.Buffer {
			n.Buffer[k].Block++
		}
	case 9:
		return append(l, at(l[j].Block, leaf()))
	}
	return l
}

// P9.1, P9.2, P9.3: mixed graphs, right ones and spoilt ones.
func TestMixed(t *testing.T) {
	w := newWorld(9)
	var a asked
	var everywhere []uint32
	for i := range uint32(26) {
		everywhere = append(everywhere, i)
	}
	everywhere = append(everywhere, top-1, top)
	for range 20000 {
		l := w.right()
		if !right(l) {
			t.Fatalf("a graph that was made right isn't: %v", l)
		}
		for range w.Intn(4) {
			l = w.spoil(l)
		}
		var pend []api.Ref
		for _, block := range w.some(everywhere, w.Intn(6)) {
			pend = append(pend, ref(block, blocks(0, 1, 2, 1<<31, top-1, top)[w.Intn(6)]))
		}
		a.ask(t, l, roots(w.some(everywhere, w.Intn(6))...), pend, w.some(everywhere, w.Intn(5)), w.some(everywhere, w.Intn(5)))
	}
	a.enough(t, 4000)
}

// P9.2: what two sets of roots reach, which have blocks in common, and which have none.
func TestTwoSets(t *testing.T) {
	ring := items(at(1, fork(to(2, 2))), at(2, fork(to(1, 2))), at(3, fork(to(4, 1))), at(4, leaf()))
	for _, c := range []struct {
		l          []api.Item
		some, more []uint32
		want       []uint32
	}{
		{shared(), blocks(4), blocks(6), blocks(4, 6, 9, top)},
		{shared(), blocks(9), blocks(top), blocks(9, top)},
		{shared(), blocks(9, 5), blocks(5, 9), blocks(5, 9)},
		{shared(), blocks(6), nil, blocks(6, 9, top)},
		{shared(), nil, nil, nil},
		{ring, blocks(1), blocks(3), blocks(1, 2, 3, 4)},
		{ring, blocks(1), blocks(2), blocks(1, 2)},
		{ring, blocks(4), blocks(3, 7), blocks(3, 4, 7)},
	} {
		if got := both(Reach(c.l, c.some), Reach(c.l, c.more)); !slices.Equal(got, c.want) {
			t.Errorf("Reach of %v, and of %v: %v", c.some, c.more, got)
		}
		for _, all := range [][]uint32{append(append(blocks(), c.some...), c.more...), append(append(blocks(), c.more...), c.some...)} {
			if got := Reach(c.l, all); !slices.Equal(got, c.want) {
				t.Errorf("Reach of %v: %v", all, got)
			}
		}
	}
}

// P9.3: whoever leads to a node is deeper than it, by kids and by Gotos.
func TestDeeper(t *testing.T) {
	askDeeper(t, shared())
	askDeeper(t, items(at(1, with(fork(to(3, 1)), far("a", 2, 2))), at(2, fork(to(3, 1))), at(3, leaf())))
	// Whoever isn't deeper makes a graph that isn't right, whatever depth is told.
	for deep := range 1 << 16 {
		told := uint16(deep)
		for _, l := range [][]api.Item{
			items(at(1, fork(to(1, told)))),
			items(at(1, fork(to(2, told))), at(2, fork(to(1, told)))),
			items(at(1, fork(to(2, told))), at(2, fork(to(1, told+1)))),
			items(at(1, with(fork(to(2, 1)), far("", 1, told))), at(2, leaf())),
		} {
			if Right(l) {
				t.Fatalf("a ring is right: %v", l)
			}
		}
	}
}

// P0.1: graphs of any nodes at all; each call ends and answers.
func TestAnything(t *testing.T) {
	huge := api.Node{Leaf: true, Pairs: make([]api.Pair, 3000), Pivots: []string{"", strings.Repeat("x", 3000)}}
	for range 3000 {
		huge.Kids = append(huge.Kids, to(5, 0), to(6, 65535))
		huge.Buffer = append(huge.Buffer, far("", 5, 0), api.Msg{Kind: 255, Block: 9})
	}
	all := wrong()
	all["huge nodes"] = items(at(5, huge), at(5, huge), at(6, huge))
	var many []api.Item
	for i := range uint32(3000) {
		many = append(many, at(3000-i, fork(to(i, 1), to(2999-i, 1), to(i/2, 7))))
	}
	all["many"] = many
	for what, l := range all {
		if Right(l) {
			t.Errorf("%s: right", what)
		}
		named := Counts(l, nil, nil)
		if !slices.IsSortedFunc(named, func(a, b api.Ref) int { return int(int64(a.Block) - int64(b.Block)) }) {
			t.Errorf("%s: Counts don't rise: %v", what, named)
		}
		var sum int
		for _, r := range named {
			sum += int(r.N)
		}
		var leading int
		for _, item := range l {
			leading += len(leads(item.Node))
		}
		if sum != leading {
			t.Errorf("%s: %d names, not %d", what, sum, leading)
		}
		for _, item := range l {
			if n, ok := Find(l, item.Block); !ok || len(n.Kids) > 6000 {
				t.Errorf("%s: Find of %d", what, item.Block)
			}
		}
		if got := Reach(l, blocks(5, 0, top)); !slices.Equal(got, reach(l, blocks(5, 0, top))) {
			t.Errorf("%s: Reach: %v", what, got)
		}
	}
}

// P0.4: a nil list is the same as an empty one, handed in and answered.
func TestNoLists(t *testing.T) {
	empty := api.Node{Leaf: true, Pairs: []api.Pair{}, Pivots: []string{}, Kids: []api.Edge{}, Buffer: []api.Msg{}}
	if !Right(nil) || !Right([]api.Item{}) || !Right(items(at(5, empty))) || !Right(items(at(4, fork(to(5, 1))), at(5, empty))) {
		t.Error("Right of empty lists")
	}
	kids := fork(to(5, 1))
	kids.Pairs, kids.Pivots, kids.Buffer = []api.Pair{}, []string{}, []api.Msg{}
	if !Right(items(at(4, kids), at(5, empty))) {
		t.Error("Right of a node with empty lists")
	}
	if Right(items(at(5, api.Node{Pairs: []api.Pair{}, Pivots: []string{}, Kids: []api.Edge{}, Buffer: []api.Msg{}}))) {
		t.Error("Right of a node without kids")
	}
	if n, ok := Find(items(at(5, empty)), 5); !ok || !node.Same(n, leaf()) {
		t.Errorf("Find of an empty leaf: %v %t", n, ok)
	}
	if n, ok := Find([]api.Item{}, 0); ok || !node.Same(n, api.Node{}) {
		t.Errorf("Find in an empty graph: %v %t", n, ok)
	}
	if len(Counts(nil, nil, nil)) != 0 || len(Counts([]api.Item{}, []api.Volume{}, []api.Ref{})) != 0 {
		t.Error("Counts of nothing")
	}
	if c := Counts([]api.Item{}, roots(5), []api.Ref{}); !slices.Equal(c, Counts(nil, roots(5), nil)) {
		t.Errorf("Counts of empty lists: %v", c)
	}
	if len(Reach(nil, nil)) != 0 || len(Reach([]api.Item{}, []uint32{})) != 0 || len(Reach(shared(), []uint32{})) != 0 {
		t.Error("Reach of nothing")
	}
	if r := Reach([]api.Item{}, blocks(5)); !slices.Equal(r, blocks(5)) {
		t.Errorf("Reach in an empty graph: %v", r)
	}
}

// scribble writes over a list, and over all the room behind its end.
func scribble[T any](l []T, with T) {
	l = l[:cap(l)]
	for i := range l {
		l[i] = with
	}
}

// scribbleAll writes over all lists of a node.
func scribbleAll(n api.Node) {
	scribble(n.Pairs, api.Pair{Key: "junk", Value: "junk"})
	scribble(n.Pivots, "junk")
	scribble(n.Kids, to(777, 7))
	scribble(n.Buffer, far("junk", 777, 7))
}

// roomy is a list with room behind its end, in which something stands; and all of that room.
func roomy[T any](of []T, behind ...T) ([]T, []T) {
	whole := append(append([]T(nil), of...), behind...)
	return whole[:len(of)], whole
}

// roomyGraph is a graph whose lists, and those of its nodes, have room behind their ends; and all of that room.
func roomyGraph(of []api.Item) ([]api.Item, []api.Item) {
	l, whole := roomy(of, at(98, fork(to(99, 1))), at(99, leaf()))
	for i := range whole {
		n := &whole[i].Node
		n.Pairs, _ = roomy(n.Pairs, api.Pair{Key: "behind"}, api.Pair{})
		n.Pivots, _ = roomy(n.Pivots, "behind", "")
		n.Kids, _ = roomy(n.Kids, to(97, 1), to(96, 1))
		n.Buffer, _ = roomy(n.Buffer, far("", 95, 1), far("", 94, 1))
	}
	return l, whole
}

// bare is a graph with all the room behind the ends of its nodes' lists as parts of them.
func bare(l []api.Item) []api.Item {
	all := slices.Clone(l)
	for i := range all {
		n := &all[i].Node
		n.Pairs, n.Pivots = n.Pairs[:cap(n.Pairs)], n.Pivots[:cap(n.Pivots)]
		n.Kids, n.Buffer = n.Kids[:cap(n.Kids)], n.Buffer[:cap(n.Buffer)]
	}
	return all
}

// P0.3, P0.5: no call changes what is handed in, also behind a list's end; what stands there isn't asked; and
// each answer is the same one time and the next.
func TestHandedIn(t *testing.T) {
	graphs := wrong()
	graphs["right"] = shared()
	graphs["none"] = nil
	for what, of := range graphs {
		l, whole := roomyGraph(of)
		before := again(bare(whole))
		vols, allVols := roomy(roots(5, 0, 5), api.Volume{Block: 93})
		pend, allPend := roomy(refs(ref(6, 2), ref(5, 0)), ref(92, 3))
		from, allFrom := roomy(blocks(6, 5, 5, 0), 91, 90)
		for range 2 {
			if Right(l) != right(of) {
				t.Errorf("%s: Right: %t", what, !right(of))
			}
			if got := Counts(l, vols, pend); !slices.Equal(got, counts(of, vols, pend)) {
				t.Errorf("%s: Counts: %v", what, got)
			}
			if got := Reach(l, from); !slices.Equal(got, reach(of, from)) {
				t.Errorf("%s: Reach: %v", what, got)
			}
			for _, block := range blocks(0, 5, 6, 98, top) {
				want, there := find(of, block)
				if n, ok := Find(l, block); ok != there || !node.Same(n, want) {
					t.Errorf("%s: Find of %d: %v %t", what, block, n, ok)
				}
			}
		}
		if !same(bare(whole), before) {
			t.Errorf("%s: the graph that was handed in is another one", what)
		}
		if !slices.Equal(allVols, append(roots(5, 0, 5), api.Volume{Block: 93})) || !slices.Equal(allPend, refs(ref(6, 2), ref(5, 0), ref(92, 3))) {
			t.Errorf("%s: roots, or what is pending, are others: %v %v", what, allVols, allPend)
		}
		if !slices.Equal(allFrom, blocks(6, 5, 5, 0, 91, 90)) {
			t.Errorf("%s: roots are others: %v", what, allFrom)
		}
	}
}

// P0.3: what Find answers shares nothing with the graph, nor with what it answers the next time.
func TestFindKeepsNothing(t *testing.T) {
	full := api.Node{Leaf: true, Pairs: leaf("a", "b").Pairs, Pivots: []string{"p"}, Kids: []api.Edge{to(1, 1), to(2, 1)}, Buffer: []api.Msg{put("a", "1")}}
	for _, of := range [][]api.Item{items(at(5, full)), shared(), items(at(5, leaf("a"))), items(at(5, with(fork(to(5, 1), to(6, 1)), far("", 1, 1))))} {
		l, whole := roomyGraph(of)
		before := again(bare(whole))
		for _, item := range of {
			first, _ := Find(l, item.Block)
			second, _ := Find(l, item.Block)
			scribbleAll(first)
			if !node.Same(second, item.Node) || !same(bare(whole), before) {
				t.Errorf("what Find answered of %d shares something", item.Block)
			}
			third, _ := Find(l, item.Block)
			if !node.Same(third, item.Node) {
				t.Errorf("Find of %d, otherwise the next time: %v", item.Block, third)
			}
		}
		kept, _ := Find(l, of[0].Block)
		for _, item := range whole {
			scribbleAll(item.Node)
		}
		if !node.Same(kept, of[0].Node) {
			t.Errorf("what Find answered of %d hangs on what was handed in", of[0].Block)
		}
	}
}

// P0.3: what Counts and Reach answer is new memory.
func TestListsAreNew(t *testing.T) {
	l, vols, pend := shared(), roots(0), refs(ref(0, 1), ref(9, 1))
	firstCounts, secondCounts := Counts(l, vols, pend), Counts(l, vols, pend)
	scribble(firstCounts, ref(1, 1))
	if !slices.Equal(secondCounts, counts(l, vols, pend)) || !slices.Equal(pend, refs(ref(0, 1), ref(9, 1))) {
		t.Errorf("what Counts answered shares something: %v %v", secondCounts, pend)
	}
	onlyPend := refs(ref(3, 1), ref(4, 1))
	scribble(Counts(nil, nil, onlyPend), ref(1, 1))
	if !slices.Equal(onlyPend, refs(ref(3, 1), ref(4, 1))) {
		t.Errorf("what Counts answered is what was handed in: %v", onlyPend)
	}
	from := blocks(3, 9)
	first, second := Reach(l, from), Reach(l, from)
	scribble(first, 1)
	if !slices.Equal(from, blocks(3, 9)) || !slices.Equal(second, blocks(3, 9)) || !same(l, shared()) {
		t.Errorf("what Reach answered shares something: %v %v", from, second)
	}
	scribble(from, 1)
	if !slices.Equal(second, blocks(3, 9)) {
		t.Errorf("what Reach answered hangs on what was handed in: %v", second)
	}
}

// P0.5: in which order roots and what is pending are told matters not.
func TestOrder(t *testing.T) {
	w := newWorld(5)
	l := shared()
	vols, pend, from := roots(9, 0, 4, 9, 3), refs(ref(9, 4), ref(2, top), ref(4, 0), ref(2, 5), ref(9, 1)), blocks(4, 5, 3, 9, 4)
	wantCounts, wantReach := counts(l, vols, pend), reach(l, from)
	for range 200 {
		w.Shuffle(len(vols), func(i, j int) { vols[i], vols[j] = vols[j], vols[i] })
		w.Shuffle(len(pend), func(i, j int) { pend[i], pend[j] = pend[j], pend[i] })
		w.Shuffle(len(from), func(i, j int) { from[i], from[j] = from[j], from[i] })
		if got := Counts(l, vols, pend); !slices.Equal(got, wantCounts) {
			t.Fatalf("Counts of %v, %v: %v", vols, pend, got)
		}
		if got := Reach(l, from); !slices.Equal(got, wantReach) {
			t.Fatalf("Reach of %v: %v", from, got)
		}
	}
}
