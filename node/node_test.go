package node

import (
	"math/rand"
	"slices"
	"strconv"
	"strings"
	"testing"

	"marcot/api"
	"marcot/key"
)

func put(k, v string) api.Msg { return api.Msg{Kind: api.Put, Key: k, Value: v} }

func del(k string) api.Msg { return api.Msg{Kind: api.Delete, Key: k} }

// far is a Goto; its number tells it from others.
func far(k string, block uint32, deep uint16, add string) api.Msg {
	return api.Msg{Kind: api.Goto, Key: k, Block: block, Deep: deep, Add: add}
}

// to is a kid whose lift leaves keys as they are.
func to(block uint32, deep uint16) api.Edge { return api.Edge{Block: block, Deep: deep} }

// by is a kid with a lift.
func by(block uint32, strip, add string) api.Edge {
	return api.Edge{Block: block, Deep: 1, Lift: api.Lift{Strip: strip, Add: add}}
}

func pair(k, v string) api.Pair { return api.Pair{Key: k, Value: v} }

func leaf(pairs ...api.Pair) api.Node { return api.Node{Leaf: true, Pairs: pairs} }

// span is the range from lo on, ahead of hi.
func span(lo, hi string) api.Range { return api.Range{Lo: lo, Hi: hi, End: true} }

// nothing is the empty range.
var nothing = api.Range{End: true}

// long is a text of so many bytes.
func long(n int) string { return strings.Repeat("\xff", n) }

// rising are so many keys that rise, and aren't empty.
func rising(n int) []string {
	var all []string
	for i := range n {
		all = append(all, string([]byte{byte(i) + 1}))
	}
	return all
}

// pairs are so many pairs whose keys rise.
func pairs(n int) []api.Pair {
	var all []api.Pair
	for _, k := range rising(n) {
		all = append(all, pair(k, "v"))
	}
	return all
}

// kids are so many kids, of the blocks 1 and so on.
func kids(n int) []api.Edge {
	var all []api.Edge
	for i := range n {
		all = append(all, to(uint32(i)+1, 1))
	}
	return all
}

// puts are so many messages.
func puts(n int) []api.Msg {
	var all []api.Msg
	for i := range n {
		all = append(all, put("k", strconv.Itoa(i)))
	}
	return all
}

// fork is a node with so many kids and pivots, without messages.
func fork(kidCount, pivotCount int) api.Node {
	return api.Node{Kids: kids(kidCount), Pivots: rising(pivotCount)}
}

// with is a node with so many kids, and these messages.
func with(kidCount int, buffer ...api.Msg) api.Node {
	n := fork(kidCount, kidCount-1)
	n.Buffer = buffer
	return n
}

// split is a node with these pivots, and kids that fit.
func split(pivots ...string) api.Node {
	return api.Node{Kids: kids(len(pivots) + 1), Pivots: pivots}
}

// mixed is a node with all that one may have: lifts of several sorts, and messages of all Kinds.
func mixed() api.Node {
	return api.Node{
		Pivots: []string{"b", "ba", "c"},
		Kids:   []api.Edge{to(1, 1), {Block: 2, Deep: 3, Lift: api.Lift{Strip: "b", Add: "xy"}}, by(3, "ba", ""), by(4, "", "q")},
		Buffer: []api.Msg{
			put("bz", "old"), far("ca", 9, 4, "zz"), put("cab", "1"), del("a"), far("cad", 8, 2, ""), del("cae"), put("bz", "new"),
		},
	}
}

// words are all keys of at most so many of these letters, the empty one too.
func words(letters string, most int) []string {
	all := []string{""}
	from := 0
	for range most {
		upto := len(all)
		for _, w := range all[from:upto] {
			for i := range len(letters) {
				all = append(all, w+letters[i:i+1])
			}
		}
		from = upto
	}
	return all
}

// The letters of small worlds: the least and the greatest byte, and one between.
const few = "\x00a\xff"

// P7.1: the document's examples.
func TestExamples(t *testing.T) {
	l := leaf(pair("a", "1"))
	if w := Step(l, "a"); w != (api.Way{Kind: 1, Value: "1"}) {
		t.Errorf("Step of a: %#v", w)
	}
	if w := Step(l, "b"); w != (api.Way{}) {
		t.Errorf("Step of b: %#v", w)
	}
	n := split("m")
	if Kid(n, "lz") != 0 || Kid(n, "m") != 1 {
		t.Errorf("Kid: %d %d", Kid(n, "lz"), Kid(n, "m"))
	}
}

// P7.1: nodes that may be, up to just as much as may be.
func TestMay(t *testing.T) {
	for what, n := range map[string]api.Node{
		"a leaf of nothing":          {Leaf: true},
		"a leaf with empty lists":    {Leaf: true, Pairs: []api.Pair{}, Pivots: []string{}, Kids: []api.Edge{}, Buffer: []api.Msg{}},
		"a pair":                     leaf(pair("a", "1")),
		"the empty key and value":    leaf(pair("", ""), pair("\x00", "")),
		"16 pairs":                   leaf(pairs(16)...),
		"a key of 16 bytes":          leaf(pair(long(16), "")),
		"a value of 32 bytes":        leaf(pair("", long(32))),
		"a beginning ahead":          leaf(pair("a", ""), pair("a\x00", ""), pair("aa", ""), pair("b", "")),
		"keys in the order of bytes": leaf(pair("\x7f", ""), pair("\x80", ""), pair("\xff", "")),
		"the same value twice":       leaf(pair("a", "1"), pair("b", "1")),
		"one kid":                    fork(1, 0),
		"one kid, empty lists":       {Kids: kids(1), Pairs: []api.Pair{}, Pivots: []string{}, Buffer: []api.Msg{}},
		"two kids":                   fork(2, 1),
		"8 kids":                     fork(8, 7),
		"a Deep of 1":                {Kids: []api.Edge{to(0, 1)}},
		"a Deep of 65535":            {Kids: []api.Edge{to(1<<32-1, 1<<16-1)}},
		"a kid twice":                {Kids: []api.Edge{to(7, 1), to(7, 1)}, Pivots: []string{"a"}},
		"a Strip of 16 bytes":        {Kids: []api.Edge{by(1, long(16), "")}},
		"an Add of 16 bytes":         {Kids: []api.Edge{by(1, "", long(16))}},
		"both of 16 bytes":           {Kids: []api.Edge{by(1, long(16), long(16))}},
		"a lift that never goes":     {Kids: []api.Edge{by(1, "z", ""), to(2, 1)}, Pivots: []string{"a"}},
		"a pivot of 16 bytes":        split(long(16)),
		"pivots side by side":        split("\x00", "a", "a\x00", "a\x00\x00", "b", "\xff", "\xff\xff"),
		"16 messages":                with(1, puts(16)...),
		"messages of all Kinds":      with(2, put("a", "1"), del("a"), far("a", 0, 1, "x"), far("", 5, 9, "")),
		"the same message twice":     with(1, del("a"), del("a")),
		"messages of all bytes":      with(1, put(long(16), long(32)), del(long(16)), far(long(16), 1, 1<<16-1, long(16))),
		"all at once":                {Kids: kids(8), Pivots: rising(7), Buffer: puts(16)},
		"a mixed one":                mixed(),
	} {
		if e := May(n); e != api.OK {
			t.Errorf("%s: %v", what, e)
		}
	}
}

// wrong are nodes of which no list is too long, but that may not be.
func wrong() map[string]api.Node {
	return map[string]api.Node{
		"nothing":                    {},
		"empty lists":                {Pairs: []api.Pair{}, Pivots: []string{}, Kids: []api.Edge{}, Buffer: []api.Msg{}},
		"a key of 17 bytes":          leaf(pair(long(17), "")),
		"a value of 33 bytes":        leaf(pair("", long(33))),
		"the last key of 17 bytes":   leaf(pair("a", ""), pair("b", ""), pair(long(17), "")),
		"a value of 33 between":      leaf(pair("a", ""), pair("b", long(33)), pair("c", "")),
		"a key twice":                leaf(pair("a", "1"), pair("a", "2")),
		"the empty key twice":        leaf(pair("", ""), pair("", "")),
		"keys that fall":             leaf(pair("b", ""), pair("a", "")),
		"a beginning behind":         leaf(pair("aa", ""), pair("a", "")),
		"keys not in order of bytes": leaf(pair("\xff", ""), pair("\x7f", "")),
		"the last two keys fall":     leaf(pair("a", ""), pair("c", ""), pair("b", "")),
		"a leaf with a kid":          {Leaf: true, Kids: kids(1)},
		"a leaf with two kids":       {Leaf: true, Kids: kids(2), Pivots: rising(1)},
		"a leaf with a pivot":        {Leaf: true, Pivots: rising(1)},
		"a leaf with a message":      {Leaf: true, Buffer: puts(1)},
		"a leaf with pairs, a kid":   {Leaf: true, Pairs: pairs(2), Kids: kids(1)},
		"a leaf with pairs, a pivot": {Leaf: true, Pairs: pairs(2), Pivots: rising(1)},
		"a leaf with pairs, a Put":   {Leaf: true, Pairs: pairs(2), Buffer: puts(1)},
		"a leaf with 16 pairs, 8":    {Leaf: true, Pairs: pairs(16), Kids: kids(8), Pivots: rising(7), Buffer: puts(16)},
		"no kids, a message":         {Buffer: puts(1)},
		"no kids, a pivot":           fork(0, 1),
		"no kids, pairs":             {Pairs: pairs(1)},
		"kids and a pair":            {Kids: kids(2), Pivots: rising(1), Pairs: pairs(1)},
		"kids and 16 pairs":          {Kids: kids(1), Pairs: pairs(16)},
		"as many pivots as kids":     fork(2, 2),
		"one kid, one pivot":         fork(1, 1),
		"8 kids, 8 pivots":           fork(8, 8),
		"two pivots less":            fork(3, 1),
		"two kids, no pivot":         fork(2, 0),
		"8 kids, 6 pivots":           fork(8, 6),
		"many pivots":                fork(2, 200),
		"a Deep of 0":                {Kids: []api.Edge{to(1, 0)}},
		"the last Deep is 0":         {Kids: []api.Edge{to(1, 1), to(1, 1), to(1, 0)}, Pivots: rising(2)},
		"a Strip of 17 bytes":        {Kids: []api.Edge{by(1, long(17), "")}},
		"an Add of 17 bytes":         {Kids: []api.Edge{by(1, "", long(17))}},
		"the last Add of 17 bytes":   {Kids: []api.Edge{to(1, 1), by(1, "", long(17))}, Pivots: rising(1)},
		"a pivot of 17 bytes":        split(long(17)),
		"the last pivot of 17 bytes": split("a", "b", long(17)),
		"an empty pivot":             split(""),
		"an empty pivot ahead":       split("", "a"),
		"an empty pivot behind":      split("a", ""),
		"a pivot twice":              split("a", "a"),
		"the last pivot twice":       split("a", "b", "b"),
		"pivots that fall":           split("b", "a"),
		"the last pivots fall":       split("a", "c", "b"),
		"a pivot's beginning behind": split("aa", "a"),
		"a message of no Kind":       with(1, api.Msg{}),
		"a message of another Kind":  with(1, put("a", ""), api.Msg{Kind: 4, Key: "a"}),
		"a Put of 17 bytes":          with(2, put(long(17), "")),
		"a Put of a value of 33":     with(2, put("", long(33))),
		"a Put with a Block":         with(2, api.Msg{Kind: api.Put, Block: 1}),
		"a Delete of 17 bytes":       with(2, del(long(17))),
		"a Delete with a value":      with(2, api.Msg{Kind: api.Delete, Value: "v"}),
		"a Goto with a Deep of 0":    with(2, far("a", 1, 0, "")),
		"a Goto of 17 bytes":         with(2, far(long(17), 1, 1, "")),
		"a Goto's Add of 17 bytes":   with(2, far("", 1, 1, long(17))),
		"the last message":           with(2, append(puts(15), far("a", 1, 0, ""))...),
	}
}

// tooMany are nodes with more than may be; some have also what may not be.
func tooMany() map[string]api.Node {
	return map[string]api.Node{
		"17 pairs":                    leaf(pairs(17)...),
		"9 kids":                      fork(9, 8),
		"17 messages":                 with(1, puts(17)...),
		"200 pairs":                   leaf(pairs(200)...),
		"200 kids":                    fork(200, 199),
		"200 messages":                with(8, puts(200)...),
		"17 pairs, a key twice":       leaf(append(pairs(16), pairs(1)...)...),
		"17 pairs, a key too long":    leaf(append([]api.Pair{pair(long(17), "")}, pairs(16)...)...),
		"17 pairs, a value too long":  leaf(append(pairs(16), pair("z", long(33)))...),
		"17 pairs and kids":           {Pairs: pairs(17), Kids: kids(2), Pivots: rising(1)},
		"17 pairs, not a leaf":        {Pairs: pairs(17)},
		"17 pairs, and all else":      {Leaf: true, Pairs: pairs(17), Kids: kids(2), Pivots: rising(1), Buffer: puts(1)},
		"a leaf with 9 kids":          {Leaf: true, Kids: kids(9)},
		"a leaf with 17 messages":     {Leaf: true, Buffer: puts(17)},
		"9 kids, 9 pivots":            fork(9, 9),
		"9 kids, no pivot":            fork(9, 0),
		"9 kids, an empty pivot":      split("", "b", "c", "d", "e", "f", "g", "h"),
		"9 kids, a Deep of 0":         {Kids: append(kids(8), to(1, 0)), Pivots: rising(8)},
		"9 kids and a pair":           {Kids: kids(9), Pivots: rising(8), Pairs: pairs(1)},
		"17 messages, no kids":        {Buffer: puts(17)},
		"17 messages, one of no Kind": with(1, append(puts(16), api.Msg{})...),
		"17 messages, a pivot twice":  {Kids: kids(3), Pivots: []string{"a", "a"}, Buffer: puts(17)},
		"all too many":                {Leaf: true, Pairs: pairs(17), Kids: kids(9), Pivots: rising(8), Buffer: puts(17)},
	}
}

// P7.1, P0.2: nodes that may not be are ErrForm, but with too many of something they are ErrMany.
func TestMayNot(t *testing.T) {
	for what, n := range wrong() {
		if e := May(n); e != api.ErrForm {
			t.Errorf("%s: %v, not ErrForm", what, e)
		}
	}
	for what, n := range tooMany() {
		if e := May(n); e != api.ErrMany {
			t.Errorf("%s: %v, not ErrMany", what, e)
		}
	}
}

// rise is what the document says of keys that rise: of each two the one ahead is less.
func rise(keys []string) bool {
	for i, a := range keys {
		for _, b := range keys[i+1:] {
			if a >= b {
				return false
			}
		}
	}
	return true
}

// short tells whether no text has more bytes than so many.
func short(most int, texts ...string) bool {
	return !slices.ContainsFunc(texts, func(s string) bool { return len(s) > most })
}

// msgMay is what the document says of a message, Kind by Kind.
func msgMay(m api.Msg) bool {
	switch m.Kind {
	case api.Put:
		return short(16, m.Key) && short(32, m.Value) && m.Block == 0 && m.Deep == 0 && m.Add == ""
	case api.Delete:
		return short(16, m.Key) && m.Value == "" && m.Block == 0 && m.Deep == 0 && m.Add == ""
	case api.Goto:
		return short(16, m.Key, m.Add) && m.Value == "" && m.Deep > 0
	}
	return false
}

// may is what the document says of a node, list by list.
func may(n api.Node) api.Errno {
	many := len(n.Pairs) > 16 || len(n.Kids) > 8 || len(n.Buffer) > 16
	good := true
	if n.Leaf {
		var keys []string
		for _, p := range n.Pairs {
			keys = append(keys, p.Key)
			good = good && short(32, p.Value)
		}
		good = good && rise(keys) && short(16, keys...) && len(n.Kids) == 0 && len(n.Pivots) == 0 && len(n.Buffer) == 0
	} else {
		for _, kid := range n.Kids {
			good = good && kid.Deep > 0 && short(16, kid.Lift.Strip, kid.Lift.Add)
		}
		for _, m := range n.Buffer {
			good = good && msgMay(m)
		}
		good = good && rise(n.Pivots) && short(16, n.Pivots...) && !slices.Contains(n.Pivots, "")
		good = good && len(n.Kids) >= 1 && len(n.Pivots)+1 == len(n.Kids) && len(n.Pairs) == 0
	}
	switch {
	case many:
		return api.ErrMany
	case !good:
		return api.ErrForm
	}
	return api.OK
}

// world makes nodes by chance, of few letters.
type world struct {
	*rand.Rand
	keys []string
}

func newWorld(seed int64) world {
	return world{rand.New(rand.NewSource(seed)), words(few, 3)}
}

func (w world) key() string { return w.keys[w.Intn(len(w.keys))] }

// sortedKeys are up to so many keys that rise.
func (w world) sortedKeys(most int) []string {
	var all []string
	for range w.Intn(most + 1) {
		all = append(all, w.key())
	}
	slices.Sort(all)
	return slices.Compact(all)
}

func (w world) msg() api.Msg {
	switch w.Intn(3) {
	case 0:
		return put(w.key(), w.key())
	case 1:
		return del(w.key())
	}
	return far(w.key(), uint32(w.Intn(40)), uint16(w.Intn(9)+1), w.key())
}

func (w world) edge() api.Edge {
	e := to(uint32(w.Intn(40)), uint16(w.Intn(9)+1))
	switch w.Intn(3) {
	case 0:
		e.Lift = api.Lift{Strip: w.key(), Add: w.key()}
	case 1:
		e.Lift.Add = w.key()
	}
	return e
}

// node is one that may be.
func (w world) node() api.Node {
	if w.Intn(4) == 0 {
		n := api.Node{Leaf: true}
		for _, k := range w.sortedKeys(16) {
			n.Pairs = append(n.Pairs, pair(k, w.key()))
		}
		return n
	}
	n := api.Node{Pivots: slices.DeleteFunc(w.sortedKeys(7), func(k string) bool { return k == "" })}
	for i := range len(n.Pivots) + 1 {
		e := w.edge()
		// Many lifts take away what their kid's keys begin with, so that they go from some.
		if i > 0 && w.Intn(2) == 0 {
			e.Lift.Strip = n.Pivots[i-1][:w.Intn(len(n.Pivots[i-1])+1)]
		}
		n.Kids = append(n.Kids, e)
	}
	for range w.Intn(17) {
		n.Buffer = append(n.Buffer, w.msg())
	}
	return n
}

// spoil is a node with something changed, that may make it one that may not be.
func (w world) spoil(n api.Node) api.Node {
	n = Own(n)
	pick := func(length int) int { return w.Intn(max(length, 1)) }
	switch p, i, k, m := pick(len(n.Pairs)), pick(len(n.Pivots)), pick(len(n.Kids)), pick(len(n.Buffer)); w.Intn(18) {
	case 0:
		n.Leaf = !n.Leaf
	case 1:
		n.Pairs = append(n.Pairs, pair(w.key(), w.key()))
	case 2:
		n.Pivots = append(n.Pivots, w.key())
	case 3:
		n.Kids = append(n.Kids, w.edge())
	case 4:
		n.Buffer = append(n.Buffer, w.msg())
	case 5:
		n.Pivots = n.Pivots[:i]
	case 6:
		n.Kids = n.Kids[:k]
	case 7:
		n.Buffer = append(n.Buffer, puts(17)[:w.Intn(18)]...)
	case 8:
		n.Pairs = append(n.Pairs, pairs(17)[:w.Intn(18)]...)
	case 9:
		n.Kids = append(n.Kids, kids(9)[:w.Intn(10)]...)
	default:
		texts := []string{"", long(16), long(17), long(32), long(33), w.key()}
		text := texts[w.Intn(len(texts))]
		w.rewrite(n, w.Intn(8), [4]int{p, i, k, m}, text)
	}
	return n
}

// rewrite writes a text, or a number, into a part of a node's lists, if there is that part.
func (w world) rewrite(n api.Node, what int, at [4]int, text string) {
	switch {
	case what == 0 && len(n.Pairs) > 0:
		n.Pairs[at[0]].Key = text
	case what == 1 && len(n.Pairs) > 0:
		n.Pairs[at[0]].Value = text
	case what == 2 && len(n.Pivots) > 0:
		n.Pivots[at[1]] = text
	case what == 3 && len(n.Kids) > 0:
		n.Kids[at[2]].Lift = api.Lift{Strip: text}
	case what == 4 && len(n.Kids) > 0:
		n.Kids[at[2]].Lift.Add = text
	case what == 5 && len(n.Kids) > 0:
		n.Kids[at[2]].Deep = uint16(w.Intn(2))
	case what == 6 && len(n.Buffer) > 0:
		n.Buffer[at[3]].Key = text
	case what == 7 && len(n.Buffer) > 0:
		n.Buffer[at[3]] = api.Msg{Kind: uint8(w.Intn(5)), Key: w.key(), Add: text, Deep: uint16(w.Intn(2))}
	}
}

// any is a node that may be, or one that was spoilt up to three times.
func (w world) any() api.Node {
	n := w.node()
	for range w.Intn(4) {
		n = w.spoil(n)
	}
	return n
}

// P7.1: May, by mixed nodes, right and spoilt ones.
func TestMayOfMixed(t *testing.T) {
	w := newWorld(71)
	seen := map[api.Errno]int{}
	for range 40000 {
		n := w.any()
		want := may(n)
		seen[want]++
		if got := May(n); got != want {
			t.Fatalf("May of %#v: %v, not %v", n, got, want)
		}
	}
	if len(seen) != 3 || seen[api.OK] < 1000 || seen[api.ErrForm] < 1000 || seen[api.ErrMany] < 1000 {
		t.Errorf("too few of some: %v", seen)
	}
}

// P7.1: 1 of a leaf; one more than the deepest kid or Goto.
func TestDeep(t *testing.T) {
	for _, c := range []struct {
		n    api.Node
		want uint16
	}{
		{leaf(), 1},
		{leaf(pairs(16)...), 1},
		{api.Node{Leaf: true, Kids: []api.Edge{to(1, 7)}, Buffer: []api.Msg{far("", 1, 9, "")}}, 1},
		{fork(1, 0), 2},
		{fork(8, 7), 2},
		{api.Node{Kids: []api.Edge{to(1, 3), to(1, 1)}, Pivots: rising(1)}, 4},
		{api.Node{Kids: []api.Edge{to(1, 1), to(1, 3)}, Pivots: rising(1)}, 4},
		{api.Node{Kids: []api.Edge{to(1, 1), to(1, 300), to(1, 2)}, Pivots: rising(2)}, 301},
		// Gotos count as kids do: deeper ones, as deep ones, less deep ones.
		{with(2, far("a", 1, 5, ""), put("b", "1"), far("c", 1, 4, "")), 6},
		{with(2, far("a", 1, 4, ""), far("c", 1, 5, "")), 6},
		{with(2, far("a", 1, 1, "")), 2},
		{api.Node{Kids: []api.Edge{to(1, 9)}, Buffer: []api.Msg{far("a", 1, 8, "")}}, 10},
		// A Goto of which nothing is left counts too.
		{with(1, far("a", 1, 30, ""), far("a", 2, 1, "")), 31},
		{with(1, put("a", "1"), del("b")), 2},
		{mixed(), 5},
		// No more than 65535.
		{api.Node{Kids: []api.Edge{to(1, 65533)}}, 65534},
		{api.Node{Kids: []api.Edge{to(1, 65534)}}, 65535},
		{api.Node{Kids: []api.Edge{to(1, 65535)}}, 65535},
		{with(3, far("", 1, 65534, "")), 65535},
		{with(3, far("", 1, 65535, "")), 65535},
		{api.Node{Kids: []api.Edge{to(1, 65535), to(2, 1)}, Pivots: rising(1), Buffer: []api.Msg{far("", 1, 65535, "")}}, 65535},
		// Nodes that may not be: nothing below, and what isn't a Goto.
		{api.Node{}, 1},
		{api.Node{Kids: []api.Edge{to(1, 0)}}, 1},
		{api.Node{Buffer: []api.Msg{far("", 1, 6, "")}}, 7},
		{with(1, api.Msg{Kind: api.Put, Deep: 9}, api.Msg{Kind: api.Delete, Deep: 9}, api.Msg{Kind: 4, Deep: 9}, api.Msg{Deep: 9}), 2},
		{fork(200, 0), 2},
	} {
		if got := Deep(c.n); got != c.want {
			t.Errorf("Deep of %#v: %d, not %d", c.n, got, c.want)
		}
	}
}

// P7.1: Kid at each pivot, just ahead of it, and just behind it.
func TestKid(t *testing.T) {
	n := split("b", "ba", "c", "\xff")
	for _, c := range []struct {
		k    string
		want int
	}{
		{"", 0}, {"\x00", 0}, {"a", 0}, {"a\xff\xff", 0},
		{"b", 1}, {"b\x00", 1}, {"b`\xff", 1},
		{"ba", 2}, {"ba\x00", 2}, {"bb", 2}, {"b\xff", 2},
		{"c", 3}, {"c\x00", 3}, {"ca", 3}, {"\xfe\xff", 3},
		{"\xff", 4}, {"\xff\x00", 4}, {long(100), 4},
	} {
		if got := Kid(n, c.k); got != c.want {
			t.Errorf("Kid of %q: %d, not %d", c.k, got, c.want)
		}
	}
	for _, k := range []string{"", "a", long(17)} {
		if got := Kid(fork(1, 0), k); got != 0 {
			t.Errorf("Kid of %q, of one alone: %d", k, got)
		}
	}
}

// P7.1, P0.1: Kid of nodes that may not be: how many pivots aren't above, at most the last kid's; -1 without kids.
func TestKidOfWrong(t *testing.T) {
	for _, c := range []struct {
		n    api.Node
		k    string
		want int
	}{
		{leaf(), "", -1}, {leaf(pairs(3)...), "a", -1}, {api.Node{}, "a", -1}, {fork(0, 3), "z", -1}, {fork(0, 3), "", -1},
		{api.Node{Buffer: []api.Msg{far("", 1, 1, "")}}, "a", -1},
		{api.Node{Leaf: true, Kids: kids(2), Pivots: []string{"m"}}, "n", 1},
		{api.Node{Leaf: true, Kids: kids(2), Pivots: []string{"m"}}, "l", 0},
		// More pivots than kids.
		{fork(2, 5), "", 0}, {fork(2, 5), "\x01", 1}, {fork(2, 5), "\x02", 1}, {fork(2, 5), "z", 1},
		{fork(1, 1), "z", 0}, {fork(1, 9), "z", 0}, {fork(3, 3), "\x03", 2}, {fork(3, 3), "\x02", 2}, {fork(3, 3), "\x01", 1},
		// Fewer pivots.
		{fork(3, 0), "z", 0}, {fork(3, 1), "z", 1}, {fork(3, 1), "", 0},
		// Empty ones, those that stand twice, and those that fall.
		{split(""), "", 1}, {split("", ""), "", 2}, {split("a", "a"), "a", 2}, {split("a", "a"), "A", 0},
		{split("c", "a"), "b", 1}, {split("c", "a", "b"), "b", 2}, {split("c", "a"), "c", 2}, {split("c", "a"), "", 0},
		{split(long(40)), long(40), 1}, {split(long(40)), long(39), 0},
		// More than may be.
		{fork(20, 19), "z", 19}, {fork(20, 19), "\x0a", 10},
	} {
		if got := Kid(c.n, c.k); got != c.want {
			t.Errorf("Kid of %#v, %q: %d, not %d", c.n, c.k, got, c.want)
		}
	}
}

// P7.1: the ranges of the first kid, the last one, and those between; of other numbers it is the empty one.
func TestRange(t *testing.T) {
	for _, c := range []struct {
		n    api.Node
		want []api.Range
	}{
		{split("b", "ba", "c"), []api.Range{span("", "b"), span("b", "ba"), span("ba", "c"), {Lo: "c"}}},
		{split("\x00"), []api.Range{span("", "\x00"), {Lo: "\x00"}}},
		{split("\xff", long(16)), []api.Range{span("", "\xff"), span("\xff", long(16)), {Lo: long(16)}}},
		{fork(1, 0), []api.Range{{}}},
		{leaf(pairs(3)...), nil},
		// Nodes that may not be: the last kid's has no end, whatever stands behind.
		{api.Node{}, nil},
		{fork(0, 3), nil},
		{fork(1, 1), []api.Range{{}}},
		{fork(2, 5), []api.Range{span("", "\x01"), {Lo: "\x01"}}},
		{api.Node{Leaf: true, Kids: kids(2), Pivots: []string{"m"}}, []api.Range{span("", "m"), {Lo: "m"}}},
		{split("c", "a"), []api.Range{span("", "c"), span("c", "a"), {Lo: "a"}}},
		{split(long(40)), []api.Range{span("", long(40)), {Lo: long(40)}}},
		// Too few pivots: Kid never answers those that have none ahead of them.
		{fork(3, 0), []api.Range{{}, nothing, nothing}},
		{fork(3, 1), []api.Range{span("", "\x01"), {Lo: "\x01"}, nothing}},
	} {
		for i, want := range c.want {
			if got := Range(c.n, i); got != want {
				t.Errorf("Range of %#v, %d: %#v, not %#v", c.n, i, got, want)
			}
		}
		count := len(c.n.Kids)
		for _, i := range []int{-1, -2, -1 << 63, count, count + 1, len(c.n.Pivots) + count + 1, 1<<31 - 1, 1 << 31, 1<<63 - 1} {
			if got := Range(c.n, i); got != nothing {
				t.Errorf("Range of %#v, %d: %#v", c.n, i, got)
			}
		}
	}
}

// justOne tells whether a key is in the range of the kid of Kid alone.
func justOne(n api.Node, k string) bool {
	in := []int{}
	for i := range n.Kids {
		if key.In(Range(n, i), k) {
			in = append(in, i)
		}
	}
	return slices.Equal(in, []int{Kid(n, k)})
}

// P7.2: each key is in the range of just one kid, by all rows of up to three pivots of a small world.
func TestJustOneKid(t *testing.T) {
	pivots := words(few, 2)[1:]
	slices.Sort(pivots)
	asked := words(few, 3)
	nodes := []api.Node{fork(1, 0)}
	for i, a := range pivots {
		nodes = append(nodes, split(a))
		for j, b := range pivots[i+1:] {
			nodes = append(nodes, split(a, b))
			for _, c := range pivots[i+j+2:] {
				nodes = append(nodes, split(a, b, c))
			}
		}
	}
	for _, n := range nodes {
		if May(n) != api.OK {
			t.Fatalf("%#v may be", n)
		}
		for _, k := range asked {
			if !justOne(n, k) {
				t.Fatalf("%#v, %q: Kid %d", n.Pivots, k, Kid(n, k))
			}
		}
	}
}

// P7.2: by mixed nodes that may be, at each pivot, just ahead of it and just behind it.
func TestJustOneKidOfMixed(t *testing.T) {
	w := newWorld(72)
	for range 4000 {
		n := w.node()
		if n.Leaf {
			continue
		}
		asked := []string{"", "\x00", w.key(), w.key() + "\x00", long(17)}
		for _, pivot := range n.Pivots {
			asked = append(asked, pivot, pivot[:len(pivot)-1], key.Next(pivot), pivot+"\xff")
			if last := pivot[len(pivot)-1]; last > 0 {
				asked = append(asked, pivot[:len(pivot)-1]+string([]byte{last - 1})+"\xff\xff")
			}
		}
		for _, k := range asked {
			if !justOne(n, k) {
				t.Fatalf("%#v, %q: Kid %d", n.Pivots, k, Kid(n, k))
			}
		}
	}
}

// value is the way to a value; on the way to a node, and a key there.
func value(v string) api.Way { return api.Way{Kind: 1, Value: v} }

func on(block uint32, deep uint16, k string) api.Way {
	return api.Way{Kind: 2, Block: block, Deep: deep, Key: k}
}

var nowhere = api.Way{}

// P7.1: in a leaf a key leads to its value, and no other key anywhere.
func TestStepInLeaf(t *testing.T) {
	n := leaf(pair("", "none"), pair("a", "1"), pair("aa", ""), pair("b", "2"), pair(long(16), long(32)))
	for k, want := range map[string]api.Way{
		"": value("none"), "a": value("1"), "aa": value(""), "b": value("2"), long(16): value(long(32)),
		"\x00": nowhere, "a\x00": nowhere, "aaa": nowhere, "A": nowhere, "c": nowhere, long(15): nowhere, long(17): nowhere, "1": nowhere,
	} {
		if got := Step(n, k); got != want {
			t.Errorf("Step of %q: %#v, not %#v", k, got, want)
		}
	}
	for _, k := range []string{"", "a", long(17)} {
		if got := Step(leaf(), k); got != nowhere {
			t.Errorf("Step of %q in a leaf of nothing: %#v", k, got)
		}
	}
	for i, p := range pairs(16) {
		if got := Step(leaf(pairs(16)...), p.Key); got != value("v") {
			t.Errorf("Step to the pair number %d: %#v", i, got)
		}
	}
}

// P7.1: by a Put, a Delete, a Goto, the newest of several, else by a kid, if its lift goes.
func TestStep(t *testing.T) {
	for k, want := range map[string]api.Way{
		// By kids: without a lift; another beginning; one taken away; one put there.
		"": on(1, 1, ""), "aa": on(1, 1, "aa"), "a\x00": on(1, 1, "a\x00"), "a\xff": on(1, 1, "a\xff"),
		"b": on(2, 3, "xy"), "b\x01": on(2, 3, "xy\x01"), "b`\xff": on(2, 3, "xy`\xff"),
		"ba": on(3, 1, ""), "bab": on(3, 1, "b"), "baba": on(3, 1, "ba"),
		"c": on(4, 1, "qc"), "d": on(4, 1, "qd"), long(40): on(4, 1, "q"+long(40)),
		// By a kid whose lift doesn't go.
		"bb": nowhere, "bzz": nowhere, "b\xff": nowhere,
		// By messages: a Put, the newest of two, a Delete; a Goto, and what is put, deleted and led on behind it.
		"cab": value("1"), "bz": value("new"), "a": nowhere, "cae": nowhere,
		"ca": on(9, 4, "zz"), "caa": on(9, 4, "zza"), "cabb": on(9, 4, "zzbb"), "caea": on(9, 4, "zzea"),
		"cad": on(8, 2, ""), "cadx": on(8, 2, "x"),
	} {
		if got := Step(mixed(), k); got != want {
			t.Errorf("Step of %q: %#v, not %#v", k, got, want)
		}
	}
}

// P7.1: the newest message counts, whatever the Kinds are.
func TestStepByNewest(t *testing.T) {
	the := map[string]api.Msg{"put": put("ab", "1"), "other": put("ab", ""), "delete": del("ab"), "goto": far("a", 7, 5, "x"), "all": far("", 8, 6, "yy")}
	want := map[string]api.Way{"put": value("1"), "other": value(""), "delete": nowhere, "goto": on(7, 5, "xb"), "all": on(8, 6, "yyab")}
	aside := []api.Msg{put("a", "2"), del("abc"), far("abb", 9, 1, ""), far("b", 9, 1, "")}
	for a, older := range the {
		for b, newer := range the {
			buffer := append([]api.Msg{older, newer}, aside...)
			if got := Step(with(3, buffer...), "ab"); got != want[b] {
				t.Errorf("%s, %s behind it: %#v, not %#v", a, b, got, want[b])
			}
		}
	}
	// Of which none speaks, a key goes by its kid.
	if got := Step(with(3, aside...), "ab"); got != on(3, 1, "ab") {
		t.Errorf("by a kid: %#v", got)
	}
	// Ahead of a kid whose lift doesn't go the messages count as well.
	n := api.Node{Kids: []api.Edge{by(1, "z", "")}, Buffer: []api.Msg{put("a", "1"), far("b", 2, 1, "")}}
	for k, want := range map[string]api.Way{"a": value("1"), "bc": on(2, 1, "c"), "c": nowhere, "": nowhere, "zc": on(1, 1, "c")} {
		if got := Step(n, k); got != want {
			t.Errorf("Step of %q: %#v, not %#v", k, got, want)
		}
	}
}

// P7.1: the key to which one leads may be longer than a node's keys.
func TestStepToLong(t *testing.T) {
	n := api.Node{Kids: []api.Edge{by(1, "", long(16))}, Buffer: []api.Msg{far("a", 2, 65535, long(16))}}
	if got := Step(n, long(16)); got != on(1, 1, long(32)) {
		t.Errorf("by a kid: %#v", got)
	}
	if got := Step(n, "a"+long(16)); got != on(2, 65535, long(32)) {
		t.Errorf("by a Goto: %#v", got)
	}
}

// swap is a key with one beginning in place of another one; false, if it doesn't begin so.
func swap(k, off, on string) (string, bool) {
	if len(k) < len(off) || k[:len(off)] != off {
		return "", false
	}
	return on + k[len(off):], true
}

// leads is what the document says of where a key leads, of nodes that may be.
func leads(n api.Node, k string) api.Way {
	if n.Leaf {
		at := slices.Index(keysOf(n), k)
		if at < 0 {
			return nowhere
		}
		return value(n.Pairs[at].Value)
	}
	for i := len(n.Buffer) - 1; i >= 0; i-- {
		m := n.Buffer[i]
		there, begins := swap(k, m.Key, m.Add)
		switch {
		case m.Kind == api.Put && m.Key == k:
			return value(m.Value)
		case m.Kind == api.Delete && m.Key == k:
			return nowhere
		case m.Kind == api.Goto && begins:
			return on(m.Block, m.Deep, there)
		}
	}
	last := len(n.Kids) - 1
	for i, kid := range n.Kids {
		if (i == 0 || n.Pivots[i-1] <= k) && (i == last || k < n.Pivots[i]) {
			if there, ok := swap(k, kid.Lift.Strip, kid.Lift.Add); ok {
				return on(kid.Block, kid.Deep, there)
			}
		}
	}
	return nowhere
}

func keysOf(n api.Node) []string {
	var all []string
	for _, p := range n.Pairs {
		all = append(all, p.Key)
	}
	return all
}

// isTarget tells whether a way leads on to a kid's block, or a Goto's, with its Deep, and whether that is a target.
func isTarget(n api.Node, way api.Way) bool {
	kid := slices.ContainsFunc(n.Kids, func(e api.Edge) bool { return e.Block == way.Block && e.Deep == way.Deep })
	far := slices.ContainsFunc(n.Buffer, func(m api.Msg) bool {
		return m.Kind == api.Goto && m.Block == way.Block && m.Deep == way.Deep
	})
	return (kid || far) && slices.Contains(Targets(n), way.Block)
}

// P7.1, P7.3: Step, by mixed nodes, right and spoilt ones, and all keys of a small world; on it is to a target.
func TestStepOfMixed(t *testing.T) {
	w := newWorld(73)
	asked := append(words(few, 3), long(16), long(17), "aaaa", "\x00\x00\x00\x00")
	seen := map[uint8]int{}
	for range 6000 {
		n := w.any()
		right := may(n) == api.OK
		for _, k := range asked {
			want := nowhere
			if right {
				want = leads(n, k)
				seen[want.Kind]++
			}
			got := Step(n, k)
			if got != want {
				t.Fatalf("Step of %#v, %q: %#v, not %#v", n, k, got, want)
			}
			if got.Kind == 2 && !isTarget(n, got) {
				t.Fatalf("Step of %#v, %q: %#v, which isn't to a target", n, k, got)
			}
		}
	}
	if len(seen) != 3 || seen[0] < 1000 || seen[1] < 1000 || seen[2] < 1000 {
		t.Errorf("too few of some: %v", seen)
	}
}

// P7.1: in a node that may not be no key leads anywhere.
func TestStepOfWrong(t *testing.T) {
	for _, nodes := range []map[string]api.Node{wrong(), tooMany()} {
		for what, n := range nodes {
			for _, k := range []string{"", "\x01", "a", "aa", "b", "k", long(17)} {
				if got := Step(n, k); got != nowhere {
					t.Errorf("%s: Step of %q: %#v", what, k, got)
				}
			}
		}
	}
}

// P7.1, P7.3: the blocks of kids, then those of Gotos, in order, each as often as it is named.
func TestTargets(t *testing.T) {
	for _, c := range []struct {
		n    api.Node
		want []uint32
	}{
		{mixed(), []uint32{1, 2, 3, 4, 9, 8}},
		{leaf(), nil},
		{leaf(pairs(3)...), nil},
		{fork(1, 0), []uint32{1}},
		{fork(8, 7), []uint32{1, 2, 3, 4, 5, 6, 7, 8}},
		{with(1, puts(16)...), []uint32{1}},
		{
			api.Node{Kids: []api.Edge{to(7, 1), to(0, 1), to(7, 1)}, Pivots: rising(2), Buffer: []api.Msg{far("b", 7, 1, ""), del("a"), far("a", 1<<32-1, 1, ""), far("b", 7, 1, "")}},
			[]uint32{7, 0, 7, 7, 1<<32 - 1, 7},
		},
		// Nodes that may not be have their kids' and their Gotos' blocks too, and no others.
		{api.Node{}, nil},
		{api.Node{Buffer: []api.Msg{far("", 5, 0, "")}}, []uint32{5}},
		{api.Node{Leaf: true, Kids: kids(2), Buffer: []api.Msg{far("", 5, 1, "")}}, []uint32{1, 2, 5}},
		{with(1, api.Msg{Kind: api.Put, Block: 5}, api.Msg{Kind: api.Delete, Block: 6}, api.Msg{Kind: 4, Block: 7}, api.Msg{Block: 8}), []uint32{1}},
		{fork(10, 0), []uint32{1, 2, 3, 4, 5, 6, 7, 8, 9, 10}},
	} {
		if got := Targets(c.n); !slices.Equal(got, c.want) {
			t.Errorf("Targets of %#v: %v, not %v", c.n, got, c.want)
		}
	}
}

// P7.3: each target is a kid's, or a Goto's, and there are as many as these, by mixed nodes.
func TestTargetsOfMixed(t *testing.T) {
	w := newWorld(74)
	for range 4000 {
		n := w.any()
		var want []uint32
		for _, kid := range n.Kids {
			want = append(want, kid.Block)
		}
		for _, m := range n.Buffer {
			if m.Kind == api.Goto {
				want = append(want, m.Block)
			}
		}
		if got := Targets(n); !slices.Equal(got, want) {
			t.Fatalf("Targets of %#v: %v, not %v", n, got, want)
		}
	}
}

// full is a node with something in every field, so that each of them may be another.
func full() api.Node {
	return api.Node{
		Leaf:   true,
		Pairs:  []api.Pair{pair("a", "1"), pair("b", "2")},
		Pivots: []string{"m", "n"},
		Kids:   []api.Edge{by(1, "x", "y"), by(2, "", "")},
		Buffer: []api.Msg{put("a", "1"), far("b", 3, 4, "z")},
	}
}

// P7.1: nodes are the same if all their fields are.
func TestSame(t *testing.T) {
	if !Same(full(), full()) || !Same(mixed(), mixed()) || Same(full(), mixed()) {
		t.Error("Same of two that are, and of two that aren't")
	}
	for what, change := range map[string]func(*api.Node){
		"Leaf":           func(n *api.Node) { n.Leaf = false },
		"a pair's key":   func(n *api.Node) { n.Pairs[1].Key = "c" },
		"a pair's value": func(n *api.Node) { n.Pairs[0].Value = "" },
		"a pair less":    func(n *api.Node) { n.Pairs = n.Pairs[:1] },
		"a pair more":    func(n *api.Node) { n.Pairs = append(n.Pairs, pair("", "")) },
		"no pairs":       func(n *api.Node) { n.Pairs = nil },
		"pairs' order":   func(n *api.Node) { slices.Reverse(n.Pairs) },
		"a pivot":        func(n *api.Node) { n.Pivots[1] = "o" },
		"a pivot less":   func(n *api.Node) { n.Pivots = n.Pivots[:1] },
		"a pivot more":   func(n *api.Node) { n.Pivots = append(n.Pivots, "") },
		"no pivots":      func(n *api.Node) { n.Pivots = nil },
		"pivots' order":  func(n *api.Node) { slices.Reverse(n.Pivots) },
		"a kid's Block":  func(n *api.Node) { n.Kids[1].Block = 1 },
		"a kid's Deep":   func(n *api.Node) { n.Kids[0].Deep = 2 },
		"a kid's Strip":  func(n *api.Node) { n.Kids[0].Lift.Strip = "" },
		"a kid's Add":    func(n *api.Node) { n.Kids[1].Lift.Add = "y" },
		"a kid less":     func(n *api.Node) { n.Kids = n.Kids[:1] },
		"a kid more":     func(n *api.Node) { n.Kids = append(n.Kids, api.Edge{}) },
		"no kids":        func(n *api.Node) { n.Kids = nil },
		"kids' order":    func(n *api.Node) { slices.Reverse(n.Kids) },
		"a Kind":         func(n *api.Node) { n.Buffer[0].Kind = api.Delete },
		"a Key":          func(n *api.Node) { n.Buffer[1].Key = "" },
		"a Value":        func(n *api.Node) { n.Buffer[0].Value = "2" },
		"a Block":        func(n *api.Node) { n.Buffer[1].Block = 4 },
		"a Deep":         func(n *api.Node) { n.Buffer[1].Deep = 3 },
		"an Add":         func(n *api.Node) { n.Buffer[1].Add = "" },
		"a message less": func(n *api.Node) { n.Buffer = n.Buffer[:1] },
		"a message more": func(n *api.Node) { n.Buffer = append(n.Buffer, api.Msg{}) },
		"no messages":    func(n *api.Node) { n.Buffer = nil },
		"their order":    func(n *api.Node) { slices.Reverse(n.Buffer) },
	} {
		n := full()
		change(&n)
		if Same(full(), n) || Same(n, full()) {
			t.Errorf("%s is another one: they aren't the same", what)
		}
		if !Same(n, Own(n)) {
			t.Errorf("%s is another one in both: they are the same", what)
		}
	}
}

// P0.4, P7.1: a nil list is the same as an empty one, in each field, by Same and by all else.
func TestNoLists(t *testing.T) {
	for _, isLeaf := range []bool{false, true} {
		none := api.Node{Leaf: isLeaf}
		empty := api.Node{Leaf: isLeaf, Pairs: []api.Pair{}, Pivots: []string{}, Kids: []api.Edge{}, Buffer: []api.Msg{}}
		if !Same(none, empty) || !Same(empty, none) || !Same(none, none) || !Same(empty, empty) {
			t.Error("Same of nothing")
		}
		if !Same(Own(none), empty) || !Same(Own(empty), none) {
			t.Error("Own of nothing")
		}
		if May(none) != May(empty) || Deep(none) != Deep(empty) || Kid(none, "") != Kid(empty, "") {
			t.Error("May, Deep or Kid of nothing")
		}
		if Range(none, 0) != Range(empty, 0) || Step(none, "") != Step(empty, "") || len(Targets(none)) != 0 || len(Targets(empty)) != 0 {
			t.Error("Range, Step or Targets of nothing")
		}
	}
	if Same(api.Node{}, api.Node{Leaf: true}) {
		t.Error("Same of a leaf and of none")
	}
	alone := mixed()
	alone.Pairs = []api.Pair{}
	if !Same(alone, mixed()) || !Same(mixed(), alone) {
		t.Error("Same of a node with an empty list")
	}
}

// scribble writes over a list, and over all the room behind its end.
func scribble[T any](l []T, with T) {
	l = l[:cap(l)]
	for i := range l {
		l[i] = with
	}
}

// scribbleAll writes over all lists of a node.
func scribbleAll(n api.Node) {
	scribble(n.Pairs, pair("junk", "junk"))
	scribble(n.Pivots, "junk")
	scribble(n.Kids, by(77, "junk", "junk"))
	scribble(n.Buffer, far("junk", 77, 77, "junk"))
}

// roomy is a node whose lists have room behind their ends, in which something stands; and all of that room.
func roomy(of api.Node) (api.Node, api.Node) {
	whole := Own(of)
	whole.Pairs = append(whole.Pairs, pair("behind", "1"), pair("behind", "2"))
	whole.Pivots = append(whole.Pivots, "behind", "far behind")
	whole.Kids = append(whole.Kids, by(55, "behind", ""), to(56, 1))
	whole.Buffer = append(whole.Buffer, put("behind", "1"), del("behind"))
	n := whole
	n.Pairs, n.Pivots = n.Pairs[:len(of.Pairs)], n.Pivots[:len(of.Pivots)]
	n.Kids, n.Buffer = n.Kids[:len(of.Kids)], n.Buffer[:len(of.Buffer)]
	return n, whole
}

// P0.3, P7.1: what Own answers shares nothing with what was handed in, nor with what it answers the next time.
func TestOwn(t *testing.T) {
	for _, of := range []api.Node{full(), mixed(), leaf(pairs(16)...), leaf(), {}, {Kids: kids(1)}, fork(40, 3)} {
		n, whole := roomy(of)
		before := Own(whole)
		first, second := Own(n), Own(n)
		if !Same(first, of) || !Same(second, of) {
			t.Errorf("Own of %#v: %#v", of, first)
		}
		scribbleAll(first)
		if !Same(whole, before) || !Same(second, of) {
			t.Errorf("what Own answered shares something: %#v", of)
		}
		scribbleAll(whole)
		if !Same(second, of) {
			t.Errorf("what Own answered hangs on what was handed in: %#v", of)
		}
	}
}

// P0.3, P0.5: no call changes what is handed in, also behind a list's end; Targets are new memory; and each
// answer is the same one time and the next.
func TestHandedIn(t *testing.T) {
	nodes := []api.Node{full(), mixed(), leaf(pairs(5)...), leaf(), {}, with(8, puts(16)...)}
	for _, some := range []map[string]api.Node{wrong(), tooMany()} {
		for _, n := range some {
			nodes = append(nodes, n)
		}
	}
	for _, of := range nodes {
		n, whole := roomy(of)
		before := Own(whole)
		for range 2 {
			if May(n) != may(of) || Deep(n) != Deep(of) || !Same(n, of) || !Same(Own(n), of) {
				t.Errorf("otherwise the next time, or by what stands behind a list's end: %#v", of)
			}
			for i := -1; i <= len(n.Kids); i++ {
				if Range(n, i) != Range(of, i) {
					t.Errorf("Range of %#v, %d: %#v", of, i, Range(n, i))
				}
			}
			for _, k := range []string{"", "a", "b", "behind", "cab", "z"} {
				if Kid(n, k) != Kid(of, k) || Step(n, k) != Step(of, k) {
					t.Errorf("Kid or Step of %#v, %q: %d %#v", of, k, Kid(n, k), Step(n, k))
				}
			}
			first, second := Targets(n), Targets(n)
			if !slices.Equal(first, Targets(of)) {
				t.Errorf("Targets of %#v: %v", of, first)
			}
			scribble(first, 1234)
			if !slices.Equal(second, Targets(of)) {
				t.Errorf("Targets of %#v, otherwise the next time: %v", of, second)
			}
			if !Same(whole, before) {
				t.Fatalf("what was handed in is another one: %#v", of)
			}
		}
	}
}

// P0.1: every call of every wrong node ends, and tells no error but May's.
func TestWrongByAll(t *testing.T) {
	for _, nodes := range []map[string]api.Node{wrong(), tooMany()} {
		for what, n := range nodes {
			if d := Deep(n); d < 1 || n.Leaf && d != 1 {
				t.Errorf("%s: Deep %d", what, d)
			}
			for _, k := range []string{"", "a", "k", long(17), long(1000)} {
				if i := Kid(n, k); i < -1 || i >= len(n.Kids) || (i < 0) != (len(n.Kids) == 0) {
					t.Errorf("%s: Kid of %q: %d", what, k, i)
				}
			}
			for _, i := range []int{-1 << 63, -1, len(n.Kids), 1<<63 - 1} {
				if r := Range(n, i); r != nothing {
					t.Errorf("%s: Range of %d: %#v", what, i, r)
				}
			}
			if len(Targets(n)) < len(n.Kids) || !Same(n, Own(n)) {
				t.Errorf("%s: Targets or Own", what)
			}
		}
	}
}
