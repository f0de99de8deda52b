package disk

import (
	"bytes"
	"math"
	"math/rand"
	"slices"
	"strings"
	"testing"

	"marcot/api"
)

// full is a block's bytes that begin so, with zeros behind it.
func full(s string) string { return s + strings.Repeat("\x00", api.BlockSize-len(s)) }

// all is so many times that text.
func all(s string) string { return strings.Repeat(s, api.BlockSize) }

// made is a disk of so many blocks.
func made(t *testing.T, blocks int) *Disk {
	t.Helper()
	d, e := New(blocks)
	if d == nil || e != api.OK {
		t.Fatalf("New of %d: %v, %v", blocks, d, e)
	}
	return d
}

// writes writes, and says that it may.
func writes(t *testing.T, d *Disk, at int, s string) {
	t.Helper()
	if e := d.Write(at, []byte(s)); e != api.OK {
		t.Errorf("Write of %d: %v", at, e)
	}
}

// has says what a block has: its bytes begin so, and are zeros behind that.
func has(t *testing.T, d *Disk, what string, at int, want string) {
	t.Helper()
	b, e := d.Read(at)
	if string(b) != full(want) || e != api.OK {
		t.Errorf("%s: Read of %d: %d bytes, %.10q, %v, not %.10q", what, at, len(b), b, e, want)
	}
}

// stands says whether a disk is up, how many writes wait, how often it went down.
func stands(t *testing.T, d *Disk, what string, up bool, waits, falls int) {
	t.Helper()
	if d.Up() != up || d.Waits() != waits || d.Falls() != falls {
		t.Errorf("%s: up %v, waits %d, falls %d, not %v, %d, %d", what, d.Up(), d.Waits(), d.Falls(), up, waits, falls)
	}
}

// shut says that a disk answers as one that is down, for a block that it has and for others, for any bytes.
func shut(t *testing.T, d *Disk, what string) {
	t.Helper()
	for _, at := range []int{0, 1, -1, 1 << 16, math.MinInt, math.MaxInt} {
		if b, e := d.Read(at); len(b) != 0 || e != api.ErrDown {
			t.Errorf("%s: Read of %d: %d bytes, %v", what, at, len(b), e)
		}
		for _, b := range [][]byte{nil, []byte("a"), make([]byte, api.BlockSize+1)} {
			if e := d.Write(at, b); e != api.ErrDown {
				t.Errorf("%s: Write of %d: %v", what, at, e)
			}
		}
	}
	if e := d.Barrier(); e != api.ErrDown {
		t.Errorf("%s: Barrier: %v", what, e)
	}
	if d.Up() {
		t.Errorf("%s: up", what)
	}
}

// P14.1: the document's example.
func TestExample(t *testing.T) {
	d := made(t, 1)
	writes(t, d, 0, "a")
	writes(t, d, 0, "b")
	has(t, d, "ahead of the fall", 0, "b")
	d.Back([]bool{true, false}, -1, 0)
	has(t, d, "the elder is kept", 0, "a")
	stands(t, d, "behind the fall", true, 0, 1)
}

// P14.1: how many blocks a disk may have.
func TestNew(t *testing.T) {
	for _, n := range []int{1, 2, 16, 4096, 1<<16 - 1, 1 << 16} {
		d := made(t, n)
		stands(t, d, "new", true, 0, 0)
		if d.Blocks() != n {
			t.Errorf("Blocks: %d, not %d", d.Blocks(), n)
		}
		has(t, d, "new", 0, "")
		has(t, d, "new", n/2, "")
		has(t, d, "new", n-1, "")
	}
	for _, n := range []int{0, -1, 1<<16 + 1, 1 << 32, math.MinInt, math.MaxInt} {
		if d, e := New(n); d != nil || e != api.ErrArg {
			t.Errorf("New of %d: %v, %v", n, d, e)
		}
	}
}

// P14.1: the first block, the last one, and such as are not there.
func TestPlaces(t *testing.T) {
	for _, n := range []int{1, 3, 1 << 16} {
		d := made(t, n)
		writes(t, d, n-1, "last")
		has(t, d, "the last one", n-1, "last")
		writes(t, d, 0, "first")
		has(t, d, "the first one", 0, "first")
		for _, at := range []int{-1, n, n + 1, n + 1<<16, n + 1<<32, math.MinInt, math.MaxInt} {
			if b, e := d.Read(at); len(b) != 0 || e != api.ErrRange {
				t.Errorf("Read of %d: %d bytes, %v", at, len(b), e)
			}
			if e := d.Write(at, []byte("no")); e != api.ErrRange {
				t.Errorf("Write of %d: %v", at, e)
			}
		}
		stands(t, d, "behind what was refused", true, 2, 0)
		has(t, d, "the first one", 0, "first")
	}
}

// P14.1: texts of every length, also over what was there.
func TestLengths(t *testing.T) {
	for _, under := range []string{"", "old", all("o")} {
		for _, s := range []string{"", "a", "\x00", "a\x00b", all("x")[1:], all("x"), all("\x00"), all("\xff")} {
			d := made(t, 2)
			writes(t, d, 1, under)
			writes(t, d, 1, s)
			has(t, d, "waiting", 1, s)
			has(t, d, "another one", 0, "")
			d.Barrier()
			has(t, d, "kept", 1, s)
			writes(t, d, 1, under)
			d.Back([]bool{false}, -1, 0)
			has(t, d, "back", 1, s)
		}
	}
	d := made(t, 2)
	writes(t, d, 1, "old")
	for _, n := range []int{api.BlockSize + 1, api.BlockSize + 2, 1 << 20} {
		if e := d.Write(1, make([]byte, n)); e != api.ErrLong {
			t.Errorf("Write of %d bytes: %v", n, e)
		}
	}
	has(t, d, "behind what was refused", 1, "old")
	stands(t, d, "behind what was refused", true, 1, 0)
	if e := d.Write(2, make([]byte, api.BlockSize+1)); e != api.ErrRange {
		t.Errorf("too many bytes for no block: %v", e)
	}
}

// P14.1: writes wait, also into one block, until a barrier.
func TestBarrier(t *testing.T) {
	d := made(t, 3)
	if e := d.Barrier(); e != api.OK {
		t.Errorf("Barrier with nothing that waits: %v", e)
	}
	stands(t, d, "nothing", true, 0, 0)
	for i, s := range []string{"a", "b", "b", ""} {
		writes(t, d, i/2, s)
		stands(t, d, "waiting", true, i+1, 0)
	}
	has(t, d, "waiting", 0, "b")
	has(t, d, "waiting", 1, "")
	for range 2 {
		if e := d.Barrier(); e != api.OK {
			t.Errorf("Barrier: %v", e)
		}
		stands(t, d, "kept", true, 0, 0)
		has(t, d, "kept", 0, "b")
		has(t, d, "kept", 1, "")
		has(t, d, "kept", 2, "")
	}
	d.Down()
	shut(t, d, "down")
	d.Back(nil, -1, 0)
	has(t, d, "back", 0, "b")
	writes(t, d, 0, "c")
	d.Down()
	if e := d.Barrier(); e != api.ErrDown {
		t.Errorf("Barrier of one that is down: %v", e)
	}
	stands(t, d, "down", false, 1, 2)
	d.Back(nil, -1, 0)
	has(t, d, "a barrier of one that is down keeps nothing", 0, "b")
}

// P14.2: what stands ahead of a barrier is there behind every fall, unless it is written again.
func TestKept(t *testing.T) {
	for _, keep := range [][]bool{nil, {false, false}, {true, true}, {false, true, true, true}} {
		for torn := -1; torn < 4; torn++ {
			d := made(t, 4)
			writes(t, d, 0, "kept")
			writes(t, d, 1, "over")
			writes(t, d, 2, "gone")
			writes(t, d, 2, "kept, too")
			d.Barrier()
			writes(t, d, 1, "anew")
			writes(t, d, 3, "three")
			for range 3 {
				d.Back(keep, torn, 2)
				has(t, d, "ahead of the barrier", 0, "kept")
				has(t, d, "ahead of the barrier, twice", 2, "kept, too")
			}
		}
	}
}

// P14.1: so many writes more are done; the one behind them waits with the others.
func TestFuse(t *testing.T) {
	for _, n := range []int{math.MinInt, -5, -1, 0, 1, 2, 3, 7} {
		d := made(t, 2)
		writes(t, d, 0, "ahead")
		d.Fuse(n)
		done := max(n, 0)
		for i := range done {
			writes(t, d, 1, "done")
			stands(t, d, "ahead of the fuse", true, i+2, 0)
		}
		has(t, d, "the fuse is spent, but it is up", 0, "ahead")
		if e := d.Write(1, []byte("last")); e != api.ErrDown {
			t.Errorf("Write behind %d: %v", n, e)
		}
		stands(t, d, "behind the fuse", false, done+2, 1)
		shut(t, d, "behind the fuse")
		stands(t, d, "what is refused doesn't wait", false, done+2, 1)
		keep := make([]bool, done+2)
		keep[done+1] = true
		d.Back(keep, -1, 0)
		has(t, d, "the one that was answered ErrDown is kept", 1, "last")
		has(t, d, "the others are not", 0, "")
		stands(t, d, "back", true, 0, 1)
		for range 9 {
			writes(t, d, 1, "more")
		}
		stands(t, d, "no fuse any more", true, 9, 1)
	}
}

// P14.1: what isn't a write that is done says nothing to the fuse.
func TestFuseCountsWrites(t *testing.T) {
	d := made(t, 1)
	d.Fuse(1)
	others := func() {
		for range 3 {
			d.Read(0)
			d.Read(1)
			d.Barrier()
			d.Write(1, nil)
			d.Write(-1, nil)
			d.Write(0, make([]byte, api.BlockSize+1))
			d.Blocks()
			d.Waits()
		}
		if !d.Up() {
			t.Fatal("down")
		}
	}
	others()
	writes(t, d, 0, "a")
	others()
	has(t, d, "up", 0, "a")
	if e := d.Write(1, nil); e != api.ErrRange {
		t.Errorf("Write of no block, the fuse spent: %v", e)
	}
	if e := d.Write(0, make([]byte, api.BlockSize+1)); e != api.ErrLong {
		t.Errorf("Write of too many bytes, the fuse spent: %v", e)
	}
	if e := d.Write(0, nil); e != api.ErrDown {
		t.Errorf("Write: %v", e)
	}
	stands(t, d, "down", false, 1, 1)
}

// P14.1: a fuse that is set anew counts from then on; one that stands at a fall is gone.
func TestFuseAnew(t *testing.T) {
	d := made(t, 1)
	d.Fuse(2)
	writes(t, d, 0, "a")
	d.Fuse(2)
	writes(t, d, 0, "b")
	writes(t, d, 0, "c")
	d.Fuse(math.MaxInt)
	writes(t, d, 0, "d")
	d.Fuse(0)
	if e := d.Write(0, []byte("e")); e != api.ErrDown {
		t.Errorf("Write: %v", e)
	}
	stands(t, d, "down", false, 5, 1)
	d.Fuse(0)
	d.Back(nil, -1, 0)
	writes(t, d, 0, "f")
	d.Fuse(1)
	d.Down()
	d.Fuse(5)
	d.Back(nil, -1, 0)
	for range 9 {
		writes(t, d, 0, "g")
	}
	d.Fuse(3)
	d.Back(nil, -1, 0)
	for range 9 {
		writes(t, d, 0, "h")
	}
	stands(t, d, "up", true, 9, 3)
}

// P14.1: it goes down once, however often it is told to.
func TestFalls(t *testing.T) {
	d := made(t, 1)
	for i := range 4 {
		writes(t, d, 0, "a")
		d.Down()
		d.Down()
		stands(t, d, "down", false, 1, 2*i+1)
		d.Back(nil, -1, 0)
		stands(t, d, "back, from being down", true, 0, 2*i+1)
		d.Back(nil, -1, 0)
		stands(t, d, "back, from being up", true, 0, 2*i+2)
	}
	if d.Blocks() != 1 {
		t.Errorf("Blocks: %d", d.Blocks())
	}
	d.Down()
	if d.Blocks() != 1 {
		t.Errorf("Blocks of one that is down: %d", d.Blocks())
	}
}

// P14.1, P14.3: what comes back, of writes of some blocks, by what is kept and torn.
func TestBack(t *testing.T) {
	type row struct {
		at int
		s  string
	}
	one := []row{{0, "abcd"}}
	two := []row{{0, "abcd"}, {0, "wxyz"}}
	three := []row{{0, "abcd"}, {1, "ijkl"}, {0, "wxyz"}}
	yes := []bool{true, true, true, true, true}
	for _, c := range []struct {
		what      string
		rows      []row
		keep      []bool
		torn, at  int
		zero, one string
	}{
		{"nothing waits", nil, yes, 0, 9, "ABCDEF", "IJKLMN"},
		{"keep is nil", three, nil, -1, 0, "ABCDEF", "IJKLMN"},
		{"keep is empty", three, []bool{}, -1, 9, "ABCDEF", "IJKLMN"},
		{"keep is shorter", three, yes[:1], -1, 0, "abcd", "IJKLMN"},
		{"keep is shorter, by one", three, yes[:2], -1, 0, "abcd", "ijkl"},
		{"keep is as long", three, yes[:3], -1, 0, "wxyz", "ijkl"},
		{"keep is longer", three, yes, -1, 0, "wxyz", "ijkl"},
		{"the first alone", three, []bool{true, false, false}, -1, 0, "abcd", "IJKLMN"},
		{"the second alone", three, []bool{false, true}, -1, 0, "ABCDEF", "ijkl"},
		{"the last alone", three, []bool{false, false, true}, -1, 0, "wxyz", "IJKLMN"},
		{"torn by 0, not kept", one, nil, 0, 0, "ABCDEF", "IJKLMN"},
		{"torn by 0, kept", one, yes, 0, 0, "ABCDEF", "IJKLMN"},
		{"torn by fewer than 0", one, yes, 0, -1, "ABCDEF", "IJKLMN"},
		{"torn by the fewest", one, yes, 0, math.MinInt, "ABCDEF", "IJKLMN"},
		{"torn by 1, not kept", one, nil, 0, 1, "aBCDEF", "IJKLMN"},
		{"torn by 1, kept", one, yes, 0, 1, "aBCDEF", "IJKLMN"},
		{"torn by as many as were written", one, nil, 0, 4, "abcdEF", "IJKLMN"},
		{"torn within the zeros", one, nil, 0, 5, "abcd\x00F", "IJKLMN"},
		{"torn by one fewer than all", one, yes, 0, api.BlockSize - 1, "abcd", "IJKLMN"},
		{"torn by all", one, nil, 0, api.BlockSize, "abcd", "IJKLMN"},
		{"torn by more than all", one, nil, 0, api.BlockSize + 1, "abcd", "IJKLMN"},
		{"torn by the most", one, nil, 0, math.MaxInt, "abcd", "IJKLMN"},
		{"none is torn, by a number below 0", one, nil, -1, 3, "ABCDEF", "IJKLMN"},
		{"none is torn, by the least number", one, yes, math.MinInt, 3, "abcd", "IJKLMN"},
		{"none is torn, by the next number", one, nil, 1, 3, "ABCDEF", "IJKLMN"},
		{"none is torn, by the next number, which keep has", one, yes, 1, 3, "abcd", "IJKLMN"},
		{"none is torn, by the greatest number", one, yes, math.MaxInt, 3, "abcd", "IJKLMN"},
		{"the elder kept, the younger not", two, []bool{true, false}, -1, 0, "abcd", "IJKLMN"},
		{"the younger kept, the elder not", two, []bool{false, true}, -1, 0, "wxyz", "IJKLMN"},
		{"both kept", two, yes, -1, 0, "wxyz", "IJKLMN"},
		{"the elder kept, the younger torn", two, []bool{true, false}, 1, 2, "wxcd", "IJKLMN"},
		{"both kept, the younger torn", two, yes, 1, 2, "wxcd", "IJKLMN"},
		{"neither kept, the younger torn", two, nil, 1, 2, "wxCDEF", "IJKLMN"},
		{"neither kept, the elder torn", two, nil, 0, 2, "abCDEF", "IJKLMN"},
		{"the elder torn, the younger not kept", two, []bool{true, false}, 0, 2, "abCDEF", "IJKLMN"},
		{"the elder torn, the younger kept", two, []bool{false, true}, 0, 2, "wxyz", "IJKLMN"},
		{"the first of three torn", three, []bool{false, true}, 0, 3, "abcDEF", "ijkl"},
		{"the second of three torn", three, []bool{true, true, true}, 1, 3, "wxyz", "ijkLMN"},
		{"the last of three torn", three, []bool{true, false, true}, 2, 3, "wxyd", "IJKLMN"},
	} {
		for _, down := range []bool{false, true} {
			d := made(t, 2)
			writes(t, d, 0, "ABCDEF")
			writes(t, d, 1, "IJKLMN")
			d.Barrier()
			for _, r := range c.rows {
				writes(t, d, r.at, r.s)
			}
			falls := 0
			if down {
				d.Down()
				falls = 1
			}
			stands(t, d, c.what, !down, len(c.rows), falls)
			d.Back(c.keep, c.torn, c.at)
			has(t, d, c.what, 0, c.zero)
			has(t, d, c.what, 1, c.one)
			stands(t, d, c.what, true, 0, 1)
			d.Back(yes, 0, 9)
			has(t, d, c.what+", and another fall", 0, c.zero)
			has(t, d, c.what+", and another fall", 1, c.one)
		}
	}
}

// P14.1: a whole block is torn just where it is said.
func TestTornWhole(t *testing.T) {
	for _, at := range []int{0, 1, 2, 1023, 1024, 2046, 2047, 2048} {
		for _, keep := range [][]bool{nil, {true}} {
			d := made(t, 1)
			writes(t, d, 0, all("o"))
			d.Barrier()
			writes(t, d, 0, all("n"))
			d.Back(keep, 0, at)
			has(t, d, "torn", 0, all("n")[:at]+all("o")[at:])
		}
	}
}

// P14.1: what comes back is kept as if there had been a barrier; what doesn't is as if it had never been.
func TestSeveralFalls(t *testing.T) {
	d := made(t, 2)
	writes(t, d, 0, "aaaa")
	d.Back(nil, 0, 3)
	has(t, d, "torn over zeros", 0, "aaa")
	writes(t, d, 0, "bb")
	d.Back(nil, 0, 1)
	has(t, d, "torn over what was torn", 0, "baa")
	writes(t, d, 1, "cc")
	d.Back([]bool{true}, -1, 0)
	writes(t, d, 1, "dd")
	has(t, d, "waiting", 1, "dd")
	d.Back(nil, -1, 0)
	has(t, d, "gone", 1, "cc")
	d.Barrier()
	has(t, d, "a barrier behind a fall brings nothing again", 1, "cc")
	has(t, d, "a barrier behind a fall brings nothing again", 0, "baa")
	stands(t, d, "at last", true, 0, 4)
}

// P14.1, P0.1: a nil disk is as one that is down, without blocks.
func TestNil(t *testing.T) {
	var d *Disk
	for range 2 {
		shut(t, d, "nil")
		stands(t, d, "nil", false, 0, 0)
		if d.Blocks() != 0 {
			t.Errorf("Blocks of nil: %d", d.Blocks())
		}
		d.Fuse(3)
		d.Down()
		d.Back([]bool{true}, 0, 5)
	}
}

// P0.3: what is handed in stays as it was, and isn't kept.
func TestHandedIn(t *testing.T) {
	d := made(t, 2)
	room := []byte("abcdefgh")
	d.Write(0, room[:3])
	if string(room) != "abcdefgh" {
		t.Errorf("Write changed what it was given: %q", room)
	}
	block := bytes.Repeat([]byte("x"), api.BlockSize+4)
	d.Write(1, block[:api.BlockSize])
	for _, b := range [][]byte{room, block} {
		for i := range b {
			b[i] = '!'
		}
	}
	has(t, d, "waiting", 0, "abc")
	has(t, d, "waiting", 1, all("x"))
	keep := []bool{true, true, false, true}
	d.Back(keep[:2], 1, 2)
	if !slices.Equal(keep, []bool{true, true, false, true}) {
		t.Errorf("Back changed what it was given: %v", keep)
	}
	has(t, d, "back", 0, "abc")
	has(t, d, "back", 1, "xx")
}

// P0.3: what is answered is new: whoever writes into it, or behind it, changes nothing.
func TestAnswered(t *testing.T) {
	d := made(t, 4)
	scribble := func(what string) {
		for at, want := range []string{"torn", "kept", "last", ""} {
			b, _ := d.Read(at)
			c, _ := d.Read(at)
			b = b[:cap(b)]
			for i := range b {
				b[i] = '!'
			}
			if string(c) != full(want) {
				t.Errorf("%s: another answer is changed: %.10q", what, c)
			}
			has(t, d, what, at, want)
		}
	}
	writes(t, d, 0, "torn")
	writes(t, d, 1, "kept")
	d.Back([]bool{false, true}, 0, 4)
	writes(t, d, 2, "last")
	scribble("waiting")
	d.Barrier()
	scribble("kept")
	writes(t, d, 0, "no")
	d.Back(nil, -1, 0)
	scribble("back")
}

// P0.3: two disks have nothing in common, and a block of one nothing with another one of it.
func TestApart(t *testing.T) {
	c, d := made(t, 2), made(t, 2)
	b := []byte("both")
	for _, at := range []int{0, 1} {
		c.Write(at, b)
	}
	d.Write(0, b)
	c.Back([]bool{true}, 1, 2)
	has(t, c, "torn", 1, "bo")
	has(t, c, "kept", 0, "both")
	has(t, d, "another disk", 0, "both")
	stands(t, d, "another disk", true, 1, 0)
	c.Fuse(0)
	writes(t, d, 1, "no fuse")
}

// plain is the account of a disk: what each block had at the barrier, and each write since.
type plain struct {
	there []string
	rows  []write
	up    bool
	fused bool
	fuse  int
	falls int
}

func (p *plain) down() {
	if p.up {
		p.falls++
	}
	p.up = false
}

func (p *plain) read(at int) (string, api.Errno) {
	if !p.up {
		return "", api.ErrDown
	}
	if at < 0 || at >= len(p.there) {
		return "", api.ErrRange
	}
	now := p.there[at]
	for _, r := range p.rows {
		if r.at == at {
			now = string(r.bytes)
		}
	}
	return now, api.OK
}

func (p *plain) write(at int, s string) api.Errno {
	if !p.up {
		return api.ErrDown
	}
	if at < 0 || at >= len(p.there) {
		return api.ErrRange
	}
	if len(s) > api.BlockSize {
		return api.ErrLong
	}
	p.rows = append(p.rows, write{at, []byte(full(s))})
	if p.fused && p.fuse == 0 {
		p.down()
		return api.ErrDown
	}
	p.fuse--
	return api.OK
}

func (p *plain) barrier() api.Errno {
	if !p.up {
		return api.ErrDown
	}
	for _, r := range p.rows {
		p.there[r.at] = string(r.bytes)
	}
	p.rows = nil
	return api.OK
}

func (p *plain) back(keep []bool, torn, at int) {
	p.down()
	at = min(max(at, 0), api.BlockSize)
	for i, r := range p.rows {
		kept := i < len(keep) && keep[i]
		if i == torn {
			p.there[r.at] = string(r.bytes[:at]) + p.there[r.at][at:]
		} else if kept {
			p.there[r.at] = string(r.bytes)
		}
	}
	p.rows, p.fused, p.up = nil, false, true
}

// may tells whether P14.3 holds of what a block had at the barrier and now, by the writes since.
func may(was, now string, at int, rows []write) bool {
	if now == was {
		return true
	}
	for _, r := range rows {
		if r.at != at {
			continue
		}
		for _, under := range append([]write{{at, []byte(was)}}, rows...) {
			if under.at == at && mixed(now, string(r.bytes), string(under.bytes)) {
				return true
			}
		}
	}
	return false
}

// mixed tells whether a text is the first bytes of one, and the others of another one.
func mixed(now, first, behind string) bool {
	i := 0
	for i < len(now) && now[i] == first[i] {
		i++
	}
	return now[i:] == behind[i:]
}

// some is a text of a mixed length.
func some(r *rand.Rand) string {
	n := []int{0, 1, 3, 9, api.BlockSize - 1, api.BlockSize, api.BlockSize + 1, r.Intn(api.BlockSize)}[r.Intn(8)]
	return strings.Repeat(string(rune('a'+r.Intn(26))), n)
}

// P14.1, P14.3, P0.5: rows of mixed calls, told by two disks and by the plain account.
func TestMixed(t *testing.T) {
	for seed := range 60 {
		r := rand.New(rand.NewSource(int64(seed)))
		n := 1 + r.Intn(4)
		p := &plain{there: slices.Repeat([]string{full("")}, n), up: true}
		c, d := made(t, n), made(t, n)
		for step := range 120 {
			at := r.Intn(n+1) - r.Intn(2)
			switch r.Intn(12) {
			case 0:
				want := p.barrier()
				if e, f := c.Barrier(), d.Barrier(); e != want || f != want {
					t.Fatalf("%d, %d: Barrier: %v, %v, not %v", seed, step, e, f, want)
				}
			case 1:
				k := r.Intn(8) - 1
				p.fused, p.fuse = true, max(k, 0)
				c.Fuse(k)
				d.Fuse(k)
			case 2:
				p.down()
				c.Down()
				d.Down()
			case 3, 4:
				fall(t, r, p, c, d)
			default:
				s := some(r)
				want := p.write(at, s)
				if e, f := c.Write(at, []byte(s)), d.Write(at, []byte(s)); e != want || f != want {
					t.Fatalf("%d, %d: Write: %v, %v, not %v", seed, step, e, f, want)
				}
			}
			told(t, p, c)
			told(t, p, d)
		}
	}
}

// fall lets all of them come back, by chance, and says what P14.3 says.
func fall(t *testing.T, r *rand.Rand, p *plain, c, d *Disk) {
	t.Helper()
	keep := make([]bool, r.Intn(len(p.rows)+3))
	for i := range keep {
		keep[i] = r.Intn(2) == 0
	}
	torn, at := r.Intn(len(p.rows)+2)-1, r.Intn(api.BlockSize+9)-4
	was, rows := slices.Clone(p.there), p.rows
	p.back(keep, torn, at)
	c.Back(keep, torn, at)
	d.Back(keep, torn, at)
	for i := range was {
		b, e := c.Read(i)
		if e != api.OK || !may(was[i], string(b), i, rows) {
			t.Errorf("behind a fall block %d has what it never had: %.10q, %v", i, b, e)
		}
	}
}

// told says that a disk tells what the account does.
func told(t *testing.T, p *plain, d *Disk) {
	t.Helper()
	stands(t, d, "as the account says", p.up, len(p.rows), p.falls)
	if d.Blocks() != len(p.there) {
		t.Errorf("Blocks: %d", d.Blocks())
	}
	for at := -1; at <= len(p.there); at++ {
		want, e := p.read(at)
		b, f := d.Read(at)
		if string(b) != want || f != e {
			t.Errorf("Read of %d: %.10q %v, not %.10q %v", at, b, f, want, e)
		}
	}
}

// P14.1, P14.2: many blocks, of which each has its own bytes.
func TestManyBlocks(t *testing.T) {
	const n = 1 << 12
	d := made(t, n)
	text := func(i, time int) string { return string([]byte{byte(i), byte(i >> 8), byte(time)}) }
	for i := range n {
		writes(t, d, i, text(i, 1))
	}
	stands(t, d, "all are written", true, n, 0)
	d.Barrier()
	keep := make([]bool, n)
	for i := range n {
		writes(t, d, n-1-i, text(n-1-i, 2))
		keep[i] = i%3 == 0
	}
	d.Back(keep, 4, 3)
	for i := range n {
		at, time := n-1-i, 1
		if keep[i] || i == 4 {
			time = 2
		}
		has(t, d, "of many", at, text(at, time))
	}
}
