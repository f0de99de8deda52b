package crc

import (
	"bytes"
	"hash/crc32"
	"testing"
)

// sample is n bytes without a pattern, the same at each call.
func sample(n int) []byte {
	b := make([]byte, n)
	x := uint32(2463534242)
	for i := range b {
		x ^= x << 13
		x ^= x >> 17
		x ^= x << 5
		b[i] = byte(x >> 8)
	}
	return b
}

// texts are ordinary texts and the edges: nothing, fewer than four bytes, just four, a block.
func texts() [][]byte {
	l := [][]byte{
		nil,
		{},
		{0},
		{255},
		{0, 0, 0},
		{0, 0, 0, 0},
		{255, 255, 255, 255},
		{0, 0, 0, 0, 0},
		[]byte("123456789"),
		bytes.Repeat([]byte{0}, 32),
		bytes.Repeat([]byte{255}, 32),
	}
	for n := range 40 {
		l = append(l, sample(n))
	}
	return append(l, sample(2048))
}

// library is the sum as Go's library has it.
func library(b []byte) uint32 {
	return crc32.Checksum(b, crc32.MakeTable(crc32.Castagnoli))
}

// P1.1: known sums, from outside the program.
func TestSumKnown(t *testing.T) {
	rising := make([]byte, 32)
	for i := range rising {
		rising[i] = byte(i)
	}
	for _, c := range []struct {
		b   []byte
		sum uint32
	}{
		{nil, 0},
		{[]byte{}, 0},
		{[]byte("123456789"), 0xe3069283},
		{[]byte("a"), 0xc1d04330},
		{[]byte("abc"), 0x364b3fb7},
		{make([]byte, 32), 0x8a9136aa},
		{bytes.Repeat([]byte{255}, 32), 0x62a8ab43},
		{rising, 0x46dd794e},
	} {
		if s := Sum(c.b); s != c.sum {
			t.Errorf("Sum(%q): %#x, not %#x", c.b, s, c.sum)
		}
	}
}

// P1.1: each single byte, and texts of many lengths.
func TestSumAsLibrary(t *testing.T) {
	for x := range 256 {
		if b := []byte{byte(x)}; Sum(b) != library(b) {
			t.Errorf("Sum of the byte %d: %#x, not %#x", x, Sum(b), library(b))
		}
	}
	for _, b := range texts() {
		if Sum(b) != library(b) {
			t.Errorf("Sum of %d bytes: %#x, not %#x", len(b), Sum(b), library(b))
		}
	}
}

// P1.1: More goes on from any number, also from one of which no text is at hand.
func TestMoreAsLibrary(t *testing.T) {
	table := crc32.MakeTable(crc32.Castagnoli)
	for _, sum := range []uint32{0, 1, 0x80000000, 0xe3069283, 0xfffffffe, 0xffffffff} {
		for _, b := range texts() {
			if got, want := More(sum, b), crc32.Update(sum, table, b); got != want {
				t.Errorf("More(%#x, %d bytes): %#x, not %#x", sum, len(b), got, want)
			}
		}
		if More(sum, nil) != sum || More(sum, []byte{}) != sum {
			t.Errorf("More(%#x, nothing): %#x", sum, More(sum, nil))
		}
	}
}

// P1.1: Mark writes the sum behind the bytes, the lowest byte first.
func TestMark(t *testing.T) {
	if m := Mark([]byte("123456789")); string(m) != "123456789\x83\x92\x06\xe3" {
		t.Errorf("Mark of the digits: %x", m)
	}
	if m := Mark(nil); !bytes.Equal(m, make([]byte, 4)) {
		t.Errorf("Mark of nil: %x", m)
	}
	for _, b := range texts() {
		s := library(b)
		want := append(bytes.Clone(b), byte(s), byte(s>>8), byte(s>>16), byte(s>>24))
		if m := Mark(b); !bytes.Equal(m, want) {
			t.Errorf("Mark of %d bytes: %x, not %x", len(b), m, want)
		}
	}
}

// P1.1: fewer than four bytes never fit; just four do, if they are the sum of nothing.
func TestFitsShort(t *testing.T) {
	for _, b := range [][]byte{nil, {}, {0}, {0, 0}, {0, 0, 0}, {255, 255, 255}} {
		if Fits(b) {
			t.Errorf("Fits(%v)", b)
		}
	}
	if !Fits([]byte{0, 0, 0, 0}) {
		t.Error("the sum of nothing doesn't fit")
	}
	for i := range 32 {
		b := make([]byte, 4)
		b[i/8] = 1 << (i % 8)
		if Fits(b) {
			t.Errorf("Fits(%v)", b)
		}
	}
}

// P1.1: a sum that is written the highest byte first, or ahead of the bytes, doesn't fit.
func TestFitsOtherForms(t *testing.T) {
	for _, b := range []string{
		"123456789\xe3\x06\x92\x83",
		"\x83\x92\x06\xe3123456789",
		"123456789",
		"123456789\x83\x92\x06",
		"123456789\x83\x92\x06\xe3\x00",
	} {
		if Fits([]byte(b)) {
			t.Errorf("Fits(%q)", b)
		}
	}
	if !Fits([]byte("123456789\x83\x92\x06\xe3")) {
		t.Error("the digits and their sum don't fit")
	}
}

// P1.2: parted anywhere, in two or in three, the sum is that of the whole.
func TestMoreOfParts(t *testing.T) {
	for _, b := range texts() {
		if len(b) > 40 {
			continue
		}
		want := library(b)
		for i := range len(b) + 1 {
			if s := More(Sum(b[:i]), b[i:]); s != want {
				t.Errorf("%d bytes parted at %d: %#x, not %#x", len(b), i, s, want)
			}
			for j := i; j <= len(b); j++ {
				if s := More(More(Sum(b[:i]), b[i:j]), b[j:]); s != want {
					t.Errorf("%d bytes parted at %d and %d: %#x, not %#x", len(b), i, j, s, want)
				}
			}
		}
	}
	b := sample(2048)
	s := Sum(nil)
	for i := range b {
		s = More(s, b[i:i+1])
	}
	if s != library(b) {
		t.Errorf("byte by byte: %#x, not %#x", s, library(b))
	}
}

// spoils are ways in which bytes in a row of four, or fewer, become other ones.
func spoils() [][]byte {
	var l [][]byte
	for x := 1; x < 256; x++ {
		l = append(l, []byte{byte(x)})
	}
	for i := range 32 {
		for j := range 32 {
			row := make([]byte, 4)
			row[i/8] |= 1 << (i % 8)
			row[j/8] |= 1 << (j % 8)
			l = append(l, row)
		}
	}
	some := sample(4 * 256)
	for i := range 256 {
		row := some[4*i : 4*i+4]
		l = append(l, row, row[:2], row[:3])
	}
	// The polynomial itself is the pattern that sums of fewer bits overlook.
	return append(l, []byte{0x78, 0x3b, 0xf6, 0x82}, []byte{0x82, 0xf6, 0x3b, 0x78}, []byte{255, 255, 255, 255})
}

// spoilt is b with the row put on it at a place by exclusive or.
func spoilt(b, row []byte, at int) []byte {
	c := bytes.Clone(b)
	for i, x := range row {
		c[at+i] ^= x
	}
	return c
}

// P1.3: what is spoilt within a row of four has another sum, and doesn't fit any more.
func TestSpoilt(t *testing.T) {
	for _, n := range []int{1, 3, 4, 5, 8, 33} {
		b := sample(n)
		m := Mark(b)
		for _, row := range spoils() {
			for at := 0; at+len(row) <= len(m); at++ {
				c := spoilt(m, row, at)
				if bytes.Equal(c, m) {
					continue
				}
				if Fits(c) {
					t.Fatalf("%d bytes, spoilt by %x at %d: they fit", n, row, at)
				}
				if at+len(row) <= n && Sum(c[:n]) == Sum(b) {
					t.Fatalf("%d bytes, spoilt by %x at %d: the same sum", n, row, at)
				}
			}
		}
	}
}

// P1.3: texts that differ in two bytes in a row have different sums, all such pairs tried.
func TestSumsDiffer(t *testing.T) {
	seen := map[uint32]int{}
	for x := range 1 << 16 {
		s := Sum([]byte{7, byte(x), byte(x >> 8)})
		if y, ok := seen[s]; ok {
			t.Fatalf("the rows %#x and %#x have the same sum", x, y)
		}
		seen[s] = x
	}
}

// P1.3: what is marked fits, also what is marked twice.
func TestMarkedFits(t *testing.T) {
	for _, b := range texts() {
		if !Fits(Mark(b)) || !Fits(Mark(Mark(b))) {
			t.Errorf("%d bytes, marked, don't fit", len(b))
		}
	}
}

// P0.3: nothing that is handed in is changed, the room behind its end neither; what is answered is new memory.
func TestOwnMemory(t *testing.T) {
	for _, n := range []int{0, 1, 4, 9} {
		all := sample(n + 16)
		was := bytes.Clone(all)
		b := all[:n]
		Sum(b)
		More(5, b)
		m, other := Mark(b), Mark(b)
		Fits(b)
		Fits(m)
		if !bytes.Equal(all, was) {
			t.Errorf("%d bytes: what is handed in was changed", n)
		}
		if !bytes.Equal(m, other) || !Fits(m) {
			t.Errorf("%d bytes: Mark answers %x, then %x", n, m, other)
		}
		m = m[:cap(m)]
		for i := range m {
			m[i] ^= 255
		}
		if !bytes.Equal(all, was) || !Fits(other) {
			t.Errorf("%d bytes: the answer shares memory", n)
		}
	}
}

// P0.4, P0.5: nil is as empty, and a second call answers as the first did.
func TestNilAndAgain(t *testing.T) {
	if Sum(nil) != Sum([]byte{}) || More(9, nil) != More(9, []byte{}) || Fits(nil) != Fits([]byte{}) {
		t.Error("nil is other than empty")
	}
	if !bytes.Equal(Mark(nil), Mark([]byte{})) {
		t.Error("Mark: nil is other than empty")
	}
	b := sample(100)
	if Sum(b) != Sum(b) || More(3, b) != More(3, b) {
		t.Error("a second call answers otherwise")
	}
}
