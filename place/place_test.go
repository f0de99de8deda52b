package place

import (
	"math"
	"math/rand"
	"testing"

	"marcot/api"
)

// plain is a configuration that may be, with none of its numbers at an edge.
func plain() api.Conf {
	return api.Conf{Blocks: 100, Log: 10, Fan: 5, Buffer: 4, Pairs: 4, Cache: 9, Refs: 9}
}

// with is the plain configuration, of so many blocks, and with a log of so many.
func with(blocks, log int) api.Conf {
	c := plain()
	c.Blocks, c.Log = blocks, log
	return c
}

// number is one of a configuration's numbers: its name, its least and its most, and how it is set.
type number struct {
	what        string
	least, most int
	set         func(c *api.Conf, n int)
}

// numbers are all numbers of a configuration, with the limits written as the chapter writes them.
func numbers() []number {
	return []number{
		{"Blocks", 16, 4096, func(c *api.Conf, n int) { c.Blocks = n }},
		{"Log", 1, 256, func(c *api.Conf, n int) { c.Log = n }},
		{"Fan", 4, 6, func(c *api.Conf, n int) { c.Fan = n }},
		{"Buffer", 2, 16, func(c *api.Conf, n int) { c.Buffer = n }},
		{"Pairs", 2, 8, func(c *api.Conf, n int) { c.Pairs = n }},
		{"Cache", 1, 1024, func(c *api.Conf, n int) { c.Cache = n }},
		{"Refs", 2, 4294967294, func(c *api.Conf, n int) { c.Refs = n }},
	}
}

// wrongs are values that a number may not have.
func wrongs(x number) []int {
	return []int{
		x.least - 1, x.most + 1, 0, -1, -x.least, -x.most, math.MinInt, math.MinInt + 1, math.MaxInt, math.MaxInt - 1,
		// Cut to 32 bits, or to 8, these would be numbers that may be.
		1<<32 + x.least, 1<<62 + x.least, -1<<32 + x.least, math.MinInt + x.least, x.most + 1<<33,
	}
}

// areaByHand is how many blocks an area has, counted one by one as the words say.
func areaByHand(c api.Conf) int {
	blocks := 0
	for blocks*2024 < 12*c.Blocks+400 {
		blocks++
	}
	return blocks
}

// mayByHand tells whether a configuration may be, number by number.
func mayByHand(c api.Conf) bool {
	for i, n := range []int{c.Blocks, c.Log, c.Fan, c.Buffer, c.Pairs, c.Cache, c.Refs} {
		x := numbers()[i]
		if n < x.least || n > x.most {
			return false
		}
	}
	return true
}

// whole are configurations of several sizes that may be, the edges of each number among them.
func whole() []api.Conf {
	all := []api.Conf{plain(), with(16, 1), with(16, 256), with(4096, 1), with(4096, 256), with(135, 3), with(136, 3)}
	for _, x := range numbers() {
		for _, n := range []int{x.least, x.most, x.least + 1, x.most - 1} {
			c := plain()
			x.set(&c, n)
			all = append(all, c)
		}
	}
	r := rand.New(rand.NewSource(16))
	for range 40 {
		all = append(all, api.Conf{Blocks: 16 + r.Intn(4081), Log: 1 + r.Intn(256), Fan: 4 + r.Intn(3), Buffer: 2 + r.Intn(15), Pairs: 2 + r.Intn(7), Cache: 1 + r.Intn(1024), Refs: 2 + r.Intn(1<<32-3)})
	}
	return all
}

// P16.1: the document's example.
func TestExample(t *testing.T) {
	c := plain()
	if got := Area(c); got != 1 {
		t.Error("Area:", got)
	}
	if got := Size(c); got != 114 {
		t.Error("Size:", got)
	}
}

// P16.1: a configuration may be whose numbers are all within their limits, at the least and the greatest too.
func TestMay(t *testing.T) {
	for _, c := range whole() {
		if !May(c) {
			t.Error("may be:", c)
		}
	}
	for _, x := range numbers() {
		for _, n := range []int{x.least, x.most, (x.least + x.most) / 2} {
			c := plain()
			x.set(&c, n)
			if !May(c) {
				t.Error(x.what, n, "may be")
			}
		}
	}
	least, most := api.Conf{}, api.Conf{}
	for _, x := range numbers() {
		x.set(&least, x.least)
		x.set(&most, x.most)
	}
	if !May(least) || !May(most) {
		t.Error("all at their least, all at their greatest:", May(least), May(most))
	}
}

// refused holds what each function answers of a configuration that may not be.
func refused(t *testing.T, what string, n int, c api.Conf) {
	t.Helper()
	if May(c) {
		t.Error(what, n, "may not be")
	}
	if Area(c) != 0 || Size(c) != 0 {
		t.Error(what, n, "has no area and no size:", Area(c), Size(c))
	}
	for _, epoch := range []uint64{0, 1, 2, math.MaxUint64} {
		if got := Meta(c, epoch); got != -1 {
			t.Error(what, n, "Meta of epoch", epoch, "is", got)
		}
	}
	for _, block := range []uint32{0, 1, 15, 16, 4095, 4096, math.MaxUint32} {
		if got := Node(c, block); got != -1 {
			t.Error(what, n, "Node of block", block, "is", got)
		}
	}
}

// P16.1, P0.1: a configuration may not be by one number alone, whichever it is; then nothing of it stands anywhere.
func TestMayNot(t *testing.T) {
	for _, x := range numbers() {
		for _, n := range wrongs(x) {
			c := plain()
			x.set(&c, n)
			refused(t, x.what, n, c)
		}
	}
	refused(t, "nothing", 0, api.Conf{})
	n := math.MinInt
	refused(t, "all the smallest", n, api.Conf{Blocks: n, Log: n, Fan: n, Buffer: n, Pairs: n, Cache: n, Refs: n})
	n = math.MaxInt
	refused(t, "all the greatest", n, api.Conf{Blocks: n, Log: n, Fan: n, Buffer: n, Pairs: n, Cache: n, Refs: n})
}

// P16.1: an area has room for 12 times Blocks and 400 bytes, and no block more than it needs.
func TestArea(t *testing.T) {
	for _, x := range []struct{ blocks, area int }{
		{16, 1}, {100, 1}, {134, 1}, {135, 1}, {136, 2}, {137, 2}, {303, 2}, {304, 2}, {305, 3}, {1024, 7}, {4014, 24}, {4015, 25}, {4095, 25}, {4096, 25},
	} {
		if got := Area(with(x.blocks, 7)); got != x.area {
			t.Error("Area of", x.blocks, "blocks is", got, "not", x.area)
		}
	}
	for blocks := 16; blocks <= 4096; blocks++ {
		c := with(blocks, 1+blocks%256)
		if got := Area(c); got != areaByHand(c) {
			t.Fatal("Area of", blocks, "blocks is", got, "not", areaByHand(c))
		}
	}
}

// P16.1: at each number of blocks at which an area's blocks are full, one block of nodes more makes it one block longer.
func TestAreaFull(t *testing.T) {
	for k := 1; k <= 24; k++ {
		most := (2024*k - 400) / 12
		c, d := with(most, 9), with(most+1, 9)
		if Area(c) != k || Area(d) != k+1 {
			t.Error(most, "blocks:", Area(c), "and one more:", Area(d), "not", k, "and", k+1)
		}
		if Size(d) != Size(c)+3 {
			t.Error(most, "blocks:", Size(c), "and one more:", Size(d))
		}
	}
}

// P16.1: a disk has two superblocks, the log, two areas, the nodes.
func TestSize(t *testing.T) {
	for _, x := range []struct{ blocks, log, size int }{
		{16, 1, 21}, {16, 256, 276}, {135, 1, 140}, {136, 1, 143}, {300, 5, 311}, {4096, 1, 4149}, {4096, 256, 4404},
	} {
		if got := Size(with(x.blocks, x.log)); got != x.size {
			t.Error("Size of", x.blocks, "and", x.log, "is", got, "not", x.size)
		}
	}
	for _, c := range whole() {
		if got, want := Size(c), 2+c.Log+2*areaByHand(c)+c.Blocks; got != want {
			t.Error("Size of", c, "is", got, "not", want)
		}
	}
}

// P16.1: nothing but Blocks and Log tells what stands where.
func TestOthersTellNothing(t *testing.T) {
	for _, x := range numbers()[2:] {
		for _, n := range []int{x.least, x.most} {
			c := plain()
			x.set(&c, n)
			if Area(c) != 1 || Size(c) != 114 || Meta(c, 1) != 13 || Node(c, 3) != 17 {
				t.Error(x.what, n, Area(c), Size(c), Meta(c, 1), Node(c, 3))
			}
		}
	}
}

// P16.1: a superblock stands at 0 or 1, as its epoch is even or odd.
func TestSuper(t *testing.T) {
	for epoch, want := range map[uint64]int{
		0: 0, 1: 1, 2: 0, 3: 1, 7: 1, 1 << 31: 0, 1<<32 - 1: 1, 1 << 32: 0, 1<<32 + 1: 1, 1<<63 - 1: 1, 1 << 63: 0, 1<<63 + 1: 1,
		math.MaxUint64 - 1: 0, math.MaxUint64: 1,
	} {
		if got := Super(epoch); got != want {
			t.Error("Super of", epoch, "is", got, "not", want)
		}
	}
}

// P16.1, P0.1: the log begins behind the superblocks; below 0 and above MaxLog it has no block.
func TestLog(t *testing.T) {
	for i := 0; i <= 256; i++ {
		if got := Log(i); got != 2+i {
			t.Error("Log of", i, "is", got)
		}
	}
	for _, i := range []int{-1, -2, -3, -256, 257, 258, 1 << 32, -1 << 32, math.MinInt, math.MinInt + 1, math.MaxInt, math.MaxInt - 1, math.MaxInt - 2} {
		if got := Log(i); got != -1 {
			t.Error("Log of", i, "is", got, "not -1")
		}
	}
}

// P16.1: an area is the first one or the second one, as the epoch is even or odd.
func TestMeta(t *testing.T) {
	for _, c := range whole() {
		first := 2 + c.Log
		second := first + areaByHand(c)
		for _, epoch := range []uint64{0, 2, 256, 1 << 32, 1 << 63, math.MaxUint64 - 1} {
			if got := Meta(c, epoch); got != first {
				t.Error("Meta of", c, "and", epoch, "is", got, "not", first)
			}
			if got := Meta(c, epoch+1); got != second {
				t.Error("Meta of", c, "and", epoch+1, "is", got, "not", second)
			}
		}
	}
}

// P16.1, P0.1: a node's block stands behind the areas; from Blocks on there is none.
func TestNode(t *testing.T) {
	for _, c := range whole() {
		first := 2 + c.Log + 2*areaByHand(c)
		for _, block := range []int{0, 1, c.Blocks / 2, c.Blocks - 2, c.Blocks - 1} {
			if got := Node(c, uint32(block)); got != first+block {
				t.Error("Node of", c, "and", block, "is", got, "not", first+block)
			}
		}
		none := []uint32{uint32(c.Blocks), uint32(c.Blocks) + 1, 4096, 4097, 1 << 16, 1 << 31, math.MaxUint32 - 1, math.MaxUint32}
		for _, block := range none {
			if got := Node(c, block); got != -1 {
				t.Error("Node of", c, "and", block, "is", got, "not -1")
			}
		}
	}
}

// P16.1: an operation may need 6 blocks, and 2 for each that the volume is deep.
func TestNeed(t *testing.T) {
	for deep, want := range map[uint16]int{0: 6, 1: 8, 2: 10, 3: 12, 32: 70, 127: 260, 255: 516, 32764: 65534, 32767: 65540, 32768: 65542, 65534: 131074, 65535: 131076} {
		if got := Need(deep); got != want {
			t.Error("Need of", deep, "is", got, "not", want)
		}
	}
}

// P16.1, P0.2: mixed configurations, of which some may not be, answer as the words say.
func TestMixed(t *testing.T) {
	r := rand.New(rand.NewSource(61))
	good := 0
	for range 20000 {
		c := api.Conf{Blocks: 16 + r.Intn(4081), Log: 1 + r.Intn(256), Fan: 4 + r.Intn(3), Buffer: 2 + r.Intn(15), Pairs: 2 + r.Intn(7), Cache: 1 + r.Intn(1024), Refs: 2 + r.Intn(1000)}
		for range r.Intn(3) {
			x := numbers()[r.Intn(7)]
			x.set(&c, []int{x.least, x.most}[r.Intn(2)]+r.Intn(5)-2)
		}
		epoch, block := r.Uint64(), uint32(r.Intn(5000))
		area, size, meta, node := 0, 0, -1, -1
		if mayByHand(c) {
			good++
			area = areaByHand(c)
			size = 2 + c.Log + 2*area + c.Blocks
			meta = 2 + c.Log
			if epoch&1 == 1 {
				meta += area
			}
			if int(block) < c.Blocks {
				node = size - c.Blocks + int(block)
			}
		}
		if May(c) != mayByHand(c) || Area(c) != area || Size(c) != size || Meta(c, epoch) != meta || Node(c, block) != node {
			t.Fatal(c, epoch, block, May(c), Area(c), Size(c), Meta(c, epoch), Node(c, block), "not", mayByHand(c), area, size, meta, node)
		}
	}
	if good < 5000 || good > 15000 {
		t.Error("of 20000 configurations so many may be:", good)
	}
}

// P16.2: of each block of the disk just one thing is told, and nothing is told of what isn't on it.
func TestEachBlockIsOneThing(t *testing.T) {
	for _, c := range whole() {
		told := make([]string, Size(c))
		tell := func(at int, what string) {
			if at < 0 || at >= len(told) {
				t.Fatal(c, what, "isn't on the disk:", at)
			}
			if told[at] != "" {
				t.Fatal(c, "at", at, "stands", told[at], "and", what)
			}
			told[at] = what
		}
		tell(Super(4), "the superblock of an even epoch")
		tell(Super(5), "the superblock of an odd epoch")
		for i := range c.Log {
			tell(Log(i), "a block of the log")
		}
		for i := range Area(c) {
			tell(Meta(c, 4)+i, "a block of the first area")
			tell(Meta(c, 5)+i, "a block of the second area")
		}
		for i := range c.Blocks {
			tell(Node(c, uint32(i)), "a node")
		}
		for at, what := range told {
			if what == "" {
				t.Fatal(c, "at", at, "stands nothing")
			}
		}
	}
}

// P16.2: they stand in the order in which the words tell them.
func TestOrder(t *testing.T) {
	for _, c := range whole() {
		row := []int{Super(0), Super(1), Log(0), Log(c.Log-1) + 1, Meta(c, 0) + Area(c), Meta(c, 1) + Area(c), Node(c, uint32(c.Blocks-1)) + 1}
		want := []int{0, 1, 2, Meta(c, 0), Meta(c, 1), Node(c, 0), Size(c)}
		for i := range row {
			if row[i] != want[i] {
				t.Error(c, "in the row of things", i, "is", row[i], "not", want[i])
			}
		}
	}
}

// P0.5: asked twice, and of other configurations between, all answer the same.
func TestSameTwice(t *testing.T) {
	type answers struct{ area, size, super, log, meta, node, need int }
	ask := func(c api.Conf) answers {
		return answers{Area(c), Size(c), Super(uint64(c.Log)), Log(c.Log), Meta(c, uint64(c.Buffer)), Node(c, uint32(c.Pairs)), Need(uint16(c.Cache))}
	}
	var first []answers
	for _, c := range whole() {
		first = append(first, ask(c))
		ask(api.Conf{})
	}
	for i, c := range whole() {
		if got := ask(c); got != first[i] {
			t.Error(c, got, "not", first[i])
		}
	}
}
