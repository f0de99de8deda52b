package pack

import (
	"bytes"
	"encoding/binary"
	"math"
	"math/rand"
	"strings"
	"testing"

	"marcot/api"
)

// fronts are what a writing may stand behind.
func fronts() [][]byte {
	return [][]byte{nil, {}, {0}, {255, 0, 7}, bytes.Repeat([]byte{9}, 300)}
}

// numbers are the edges of every kind, and some between.
func numbers() []uint64 {
	l := []uint64{0, math.MaxUint64, 0x0102030405060708, 0xf1e2d3c4b5a69788}
	for i := range 64 {
		l = append(l, 1<<i, 1<<i-1, 1<<i+1)
	}
	return l
}

// lengths are how many bytes texts have here: none, one, the most, and more.
func lengths() []int {
	return []int{0, 1, 2, 16, 127, 128, 254, 255, 256, 257, 511, 512, 1000}
}

// text is n bytes that aren't the same, and not all letters.
func text(n int) string {
	b := make([]byte, n)
	for i := range b {
		b[i] = byte(i*7 + 250)
	}
	return string(b)
}

func equal(t *testing.T, what string, got, want []byte) {
	t.Helper()
	if !bytes.Equal(got, want) {
		t.Errorf("%s: %v, not %v", what, got, want)
	}
}

// joined is a list in memory of its own.
func joined(l ...[]byte) []byte {
	return bytes.Join(l, nil)
}

// P2.1: the document's examples.
func TestExamples(t *testing.T) {
	equal(t, "Put16 of 258", Put16(nil, 258), []byte{1, 2})
	equal(t, "PutText of ab", PutText(nil, "ab"), []byte{2, 'a', 'b'})
}

// P2.1: a number's writing has its kind's bytes, the highest first, behind what was there.
func TestPutNumbers(t *testing.T) {
	equal(t, "Put8", Put8([]byte{1}, 0xab), []byte{1, 0xab})
	equal(t, "Put16", Put16([]byte{1}, 0xab), []byte{1, 0, 0xab})
	equal(t, "Put32", Put32([]byte{1}, 0x01020304), []byte{1, 1, 2, 3, 4})
	equal(t, "Put64", Put64([]byte{1}, 0x0102030405060708), []byte{1, 1, 2, 3, 4, 5, 6, 7, 8})
	for _, f := range fronts() {
		for _, n := range numbers() {
			w := binary.BigEndian.AppendUint64(nil, n)
			equal(t, "Put8", Put8(f, uint8(n)), joined(f, w[7:]))
			equal(t, "Put16", Put16(f, uint16(n)), joined(f, w[6:]))
			equal(t, "Put32", Put32(f, uint32(n)), joined(f, w[4:]))
			equal(t, "Put64", Put64(f, n), joined(f, w))
		}
	}
}

// P2.1: a text's writing is how many bytes it has, and they; of a longer one the first 255.
func TestPutText(t *testing.T) {
	for _, f := range fronts() {
		for _, n := range lengths() {
			s := text(n)
			m := min(n, 255)
			equal(t, "PutText", PutText(f, s), joined(f, []byte{byte(m)}, []byte(s[:m])))
		}
	}
	equal(t, "PutText of nothing", PutText(nil, ""), []byte{0})
	equal(t, "PutText of two-byte letters", PutText(nil, strings.Repeat("ä", 128)),
		append([]byte{255}, []byte(strings.Repeat("ä", 128))[:255]...))
}

// taker is a call that takes something; a number is told as it is, a text by its own result.
type taker struct {
	name string
	size int
	call func(*Reader) (uint64, string)
}

// numberTakers are the four calls that take numbers.
func numberTakers() []taker {
	return []taker{
		{"Get8", 1, func(r *Reader) (uint64, string) { return uint64(r.Get8()), "" }},
		{"Get16", 2, func(r *Reader) (uint64, string) { return uint64(r.Get16()), "" }},
		{"Get32", 4, func(r *Reader) (uint64, string) { return uint64(r.Get32()), "" }},
		{"Get64", 8, func(r *Reader) (uint64, string) { return r.Get64(), "" }},
	}
}

// takers are all calls that take something.
func takers() []taker {
	l := numberTakers()
	for _, most := range []int{math.MinInt, -1, 0, 1, 255, 256, math.MaxInt} {
		l = append(l, taker{"GetText", 0, func(r *Reader) (uint64, string) { return 0, r.GetText(most) }})
	}
	return l
}

// P2.1: a number is taken if all its bytes are there, just so many or more; else it is 0, the error is ErrShort, and the place stays.
func TestGetNumbers(t *testing.T) {
	all := []byte{0x81, 0x92, 0xa3, 0xb4, 0xc5, 0xd6, 0xe7, 0xf8, 0x09, 0x1a}
	for _, k := range numberTakers() {
		for n := range len(all) + 1 {
			r := New(all[:n])
			got, _ := k.call(r)
			if n < k.size {
				if got != 0 || r.End() != api.ErrShort || r.Left() != n {
					t.Errorf("%s of %d bytes: %#x, %v, %d left", k.name, n, got, r.End(), r.Left())
				}
				continue
			}
			var want uint64
			for _, x := range all[:k.size] {
				want = want<<8 | uint64(x)
			}
			if got != want || r.Left() != n-k.size {
				t.Errorf("%s of %d bytes: %#x, not %#x; %d left", k.name, n, got, want, r.Left())
			}
			end := api.OK
			if n > k.size {
				end = api.ErrLong
			}
			if r.End() != end {
				t.Errorf("%s of %d bytes ends with %v, not %v", k.name, n, r.End(), end)
			}
		}
	}
}

// P2.1: what a text's length, the most and how many bytes there are come to, each at its edges.
func TestGetText(t *testing.T) {
	mosts := []int{math.MinInt, -256, -1, 0, 1, 2, 3, 254, 255, 256, math.MaxInt}
	for _, size := range []int{0, 1, 2, 3, 254, 255} {
		for _, there := range []int{0, 1, 2, 3, 253, 254, 255, 256} {
			for _, most := range mosts {
				b := append([]byte{byte(size)}, text(there)...)
				r := New(b)
				got := r.GetText(most)
				want, end, left := "", api.OK, len(b)
				switch {
				case size > max(most, 0):
					end = api.ErrLong
				case size > there:
					end = api.ErrShort
				default:
					want, left = text(there)[:size], there-size
					if left > 0 {
						end = api.ErrLong
					}
				}
				if got != want || r.End() != end || r.Left() != left {
					t.Errorf("GetText(%d) of %d bytes, %d there: %q, %v, %d left", most, size, there, got, r.End(), r.Left())
				}
			}
		}
	}
}

// P2.1: without its first byte a text is too short, whatever the most is.
func TestGetTextOfNothing(t *testing.T) {
	for _, b := range [][]byte{nil, {}} {
		for _, most := range []int{math.MinInt, -1, 0, 1, 255, 256, math.MaxInt} {
			r := New(b)
			if s := r.GetText(most); s != "" || r.End() != api.ErrShort || r.Left() != 0 {
				t.Errorf("GetText(%d) of nothing: %q, %v, %d left", most, s, r.End(), r.Left())
			}
		}
	}
}

// P2.1: an error of a text that had too many bytes stays one, though End tells bytes that are left by the same number.
func TestLongTextIsAnError(t *testing.T) {
	r := New([]byte{1, 7})
	if r.GetText(0) != "" || r.Get16() != 0 || r.Left() != 2 || r.End() != api.ErrLong {
		t.Error("behind a text that is too long something is taken", r.Left(), r.End())
	}
}

// P2.1: a new reader has no error; End asks, and changes nothing.
func TestEnd(t *testing.T) {
	for _, b := range [][]byte{nil, {}} {
		if r := New(b); r.End() != api.OK || r.Left() != 0 {
			t.Error("a reader of nothing", r.End(), r.Left())
		}
	}
	r := New([]byte{4, 5})
	if r.End() != api.ErrLong || r.Left() != 2 {
		t.Error("at the beginning", r.End(), r.Left())
	}
	if r.Get8() != 4 || r.End() != api.ErrLong || r.End() != api.ErrLong || r.Left() != 1 {
		t.Error("in the middle", r.End(), r.Left())
	}
	if r.Get8() != 5 || r.End() != api.OK || r.Left() != 0 {
		t.Error("at the end", r.End(), r.Left())
	}
}

// errnos are errors that somebody may hand to Fail, numbers among them that no error has.
func errnos() []api.Errno {
	return []api.Errno{api.ErrArg, api.ErrShort, api.ErrForm, api.ErrLong, api.ErrSum, api.ErrLine, -1, 18, math.MaxInt, math.MinInt}
}

// P2.1: Fail with OK does nothing, with anything else it is the error, also where no bytes are left.
func TestFail(t *testing.T) {
	for _, b := range [][]byte{nil, {8}, {8, 9}} {
		r := New(b)
		r.Fail(api.OK)
		if len(b) > 0 && r.Get8() != 8 || len(b) < 2 && r.End() != api.OK {
			t.Error("Fail with OK", r.End())
		}
		for _, e := range errnos() {
			r := New(b)
			r.Fail(api.OK)
			r.Fail(e)
			if r.End() != e || r.Left() != len(b) {
				t.Errorf("Fail with %v: %v, %d left", e, r.End(), r.Left())
			}
		}
	}
}

// P2.3: behind an error of any kind nothing is taken, the place stays, and the error is the first one.
func TestBehindAnError(t *testing.T) {
	failed := func(e api.Errno) func() *Reader {
		return func() *Reader {
			r := New([]byte{1, 2, 3, 4, 5, 6, 7, 8, 9})
			r.Get8()
			r.Fail(e)
			return r
		}
	}
	type start struct {
		make func() *Reader
		bad  api.Errno
		left int
	}
	starts := []start{
		{func() *Reader { r := New([]byte{5, 1, 2, 3}); r.Get64(); return r }, api.ErrShort, 4},
		{func() *Reader { r := New([]byte{1, 5}); r.GetText(0); return r }, api.ErrLong, 2},
		{func() *Reader { r := New([]byte{5, 1, 2, 3}); r.GetText(5); return r }, api.ErrShort, 4},
		{func() *Reader { r := New([]byte{5, 1, 2, 3}); r.GetText(4); return r }, api.ErrLong, 4},
		{func() *Reader { r := New(nil); r.Get8(); return r }, api.ErrShort, 0},
	}
	for _, e := range errnos() {
		starts = append(starts, start{failed(e), e, 8})
	}
	for i, s := range starts {
		for _, k := range takers() {
			r := s.make()
			for range 2 {
				if n, x := k.call(r); n != 0 || x != "" {
					t.Errorf("start %d: %s takes %d, %q", i, k.name, n, x)
				}
			}
			r.Fail(api.OK)
			r.Fail(api.ErrKind)
			if r.End() != s.bad || r.Left() != s.left {
				t.Errorf("start %d: behind %s %v, %d left", i, k.name, r.End(), r.Left())
			}
		}
	}
}

// P2.1: a nil reader answers 0, nothing, ErrArg, 0, also behind Fail.
func TestNilReader(t *testing.T) {
	var r *Reader
	for range 2 {
		for _, k := range takers() {
			if n, s := k.call(r); n != 0 || s != "" {
				t.Errorf("%s of a nil reader: %d, %q", k.name, n, s)
			}
		}
		if r.End() != api.ErrArg || r.Left() != 0 {
			t.Error("a nil reader:", r.End(), r.Left())
		}
		r.Fail(api.OK)
		r.Fail(api.ErrShort)
	}
}

// model is a reader as the chapter words it, kept as the bytes that are left.
type model struct {
	rest []byte
	bad  api.Errno
}

// number takes a number of so many bytes.
func (m *model) number(size int) uint64 {
	if m.bad != api.OK {
		return 0
	}
	if len(m.rest) < size {
		m.bad = api.ErrShort
		return 0
	}
	w := append(make([]byte, 8-size), m.rest[:size]...)
	m.rest = m.rest[size:]
	return binary.BigEndian.Uint64(w)
}

// text takes a text.
func (m *model) text(most int) string {
	switch {
	case m.bad != api.OK:
	case len(m.rest) == 0:
		m.bad = api.ErrShort
	case most < 0 && m.rest[0] > 0, most >= 0 && int(m.rest[0]) > most:
		m.bad = api.ErrLong
	case len(m.rest)-1 < int(m.rest[0]):
		m.bad = api.ErrShort
	default:
		s := string(m.rest[1 : 1+int(m.rest[0])])
		m.rest = m.rest[1+len(s):]
		return s
	}
	return ""
}

// fail notes an error.
func (m *model) fail(e api.Errno) {
	if m.bad == api.OK {
		m.bad = e
	}
}

// end is what End answers.
func (m *model) end() api.Errno {
	if m.bad == api.OK && len(m.rest) > 0 {
		return api.ErrLong
	}
	return m.bad
}

// P2.1, P2.3: rows of calls on any bytes answer as the model does.
func TestRowsOfCalls(t *testing.T) {
	rnd := rand.New(rand.NewSource(2))
	for row := range 20000 {
		b := make([]byte, rnd.Intn(60))
		for i := range b {
			b[i] = byte(rnd.Intn(1 + rnd.Intn(256)))
		}
		r, m := New(b), &model{rest: bytes.Clone(b)}
		for call := range 12 {
			var got, want any
			switch kind := rnd.Intn(12); kind {
			case 0, 1:
				got, want = uint64(r.Get8()), m.number(1)
			case 2, 3:
				got, want = uint64(r.Get16()), m.number(2)
			case 4:
				got, want = uint64(r.Get32()), m.number(4)
			case 5:
				got, want = r.Get64(), m.number(8)
			case 6, 7, 8, 9:
				most := rnd.Intn(70) - 5
				got, want = r.GetText(most), m.text(most)
			case 10:
				r.Fail(api.OK)
			default:
				if rnd.Intn(6) == 0 {
					e := api.Errno(rnd.Intn(20))
					r.Fail(e)
					m.fail(e)
				}
			}
			if got != want || r.End() != m.end() || r.Left() != len(m.rest) {
				t.Fatalf("row %d, call %d of %v: %v, not %v; %v, not %v; %d left, not %d",
					row, call, b, got, want, r.End(), m.end(), r.Left(), len(m.rest))
			}
		}
	}
}

// P2.2: each number and each text comes back, wherever it stands.
func TestThereAndBack(t *testing.T) {
	for _, f := range fronts() {
		for _, n := range numbers() {
			b := Put64(Put32(Put16(Put8(f, uint8(n)), uint16(n)), uint32(n)), n)
			r := New(b)
			for range f {
				r.Get8()
			}
			if r.Get8() != uint8(n) || r.Get16() != uint16(n) || r.Get32() != uint32(n) || r.Get64() != n || r.End() != api.OK {
				t.Errorf("%d behind %d bytes comes back otherwise", n, len(f))
			}
		}
		for _, n := range lengths() {
			s := text(n)
			r := New(append(PutText(f, s), 5))
			for range f {
				r.Get8()
			}
			// A text of more than 255 bytes is put as its first 255.
			s = s[:min(n, 255)]
			if r.GetText(len(s)) != s || r.Left() != 1 || r.Get8() != 5 || r.End() != api.OK {
				t.Errorf("a text of %d bytes behind %d comes back otherwise", n, len(f))
			}
		}
	}
}

// P2.2: a row of any kinds, in any order, comes back as it was put.
func TestRowsThereAndBack(t *testing.T) {
	rnd := rand.New(rand.NewSource(3))
	for row := range 2000 {
		var b []byte
		var back []func(r *Reader) bool
		for range rnd.Intn(10) {
			n, s := rnd.Uint64(), text(rnd.Intn(256))
			switch rnd.Intn(5) {
			case 0:
				b = Put8(b, uint8(n))
				back = append(back, func(r *Reader) bool { return r.Get8() == uint8(n) })
			case 1:
				b = Put16(b, uint16(n))
				back = append(back, func(r *Reader) bool { return r.Get16() == uint16(n) })
			case 2:
				b = Put32(b, uint32(n))
				back = append(back, func(r *Reader) bool { return r.Get32() == uint32(n) })
			case 3:
				b = Put64(b, n)
				back = append(back, func(r *Reader) bool { return r.Get64() == n })
			default:
				b = PutText(b, s)
				back = append(back, func(r *Reader) bool { return r.GetText(255) == s })
			}
		}
		r := New(b)
		for i, same := range back {
			if !same(r) {
				t.Fatalf("row %d: item %d comes back otherwise", row, i)
			}
		}
		if r.End() != api.OK || r.Left() != 0 {
			t.Fatalf("row %d: at its end %v, %d left", row, r.End(), r.Left())
		}
	}
}

// puts are all calls that put something.
func puts() []func([]byte) []byte {
	return []func([]byte) []byte{
		func(b []byte) []byte { return Put8(b, 1) },
		func(b []byte) []byte { return Put16(b, 1) },
		func(b []byte) []byte { return Put32(b, 1) },
		func(b []byte) []byte { return Put64(b, 1) },
		func(b []byte) []byte { return PutText(b, "abc") },
		func(b []byte) []byte { return PutText(b, "") },
	}
}

// P0.3: what is handed in, and the room behind its end, is left as it was; what is answered is new memory. P0.4, P0.5: nil is as empty; a second call answers as the first did.
func TestPutMemory(t *testing.T) {
	for i, put := range puts() {
		for _, n := range []int{0, 1, 20} {
			all := bytes.Repeat([]byte{77}, n+40)
			was := bytes.Clone(all)
			one, two := put(all[:n]), put(all[:n])
			want := bytes.Clone(two)
			equal(t, "what is handed in", all, was)
			equal(t, "a second answer", one, two)
			one = one[:cap(one)]
			for j := range one {
				one[j] ^= 255
			}
			equal(t, "what is handed in, the answer written into", all, was)
			equal(t, "the second answer, the first written into", two, want)
		}
		if !bytes.Equal(put(nil), put([]byte{})) {
			t.Errorf("put %d: nil is other than empty", i)
		}
	}
}

// P0.3: a reader neither writes into its bytes nor keeps them, and what it answered stays.
func TestReaderMemory(t *testing.T) {
	all := append(PutText(Put16(nil, 258), "abc"), 6, 7)
	was := bytes.Clone(all)
	r, other := New(all[:6]), New(all[:6])
	if r.Get16() != 258 {
		t.Error("the first number")
	}
	s := r.GetText(3)
	equal(t, "what is handed in", all, was)
	for i := range all {
		all[i] = 99
	}
	if s != "abc" || r.End() != api.OK {
		t.Errorf("the text: %q, %v", s, r.End())
	}
	// One reader's place and error are no other's.
	if other.Left() != 6 || other.Get16() != 258 || other.GetText(3) != "abc" || other.End() != api.OK {
		t.Error("a reader keeps what it was handed")
	}
	// The room behind the end isn't read either.
	if other.Get8() != 0 || other.End() != api.ErrShort {
		t.Error("a reader goes beyond its end")
	}
}
