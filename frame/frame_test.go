package frame

import (
	"bytes"
	"encoding/binary"
	"hash/crc32"
	"math/rand"
	"strings"
	"testing"

	"marcot/api"
)

// sealed is bytes of a block's length, the last four of which are the sum of the others, as Go's library has it.
func sealed(b []byte) []byte {
	out := bytes.Clone(b)
	end := len(out) - 4
	binary.LittleEndian.PutUint32(out[end:], crc32.Checksum(out[:end], crc32.MakeTable(crc32.Castagnoli)))
	return out
}

// told is a block whose sum fits, and that tells so many bytes of its body, whatever it has.
func told(kind uint8, at uint32, size int, body string) []byte {
	b := make([]byte, 2048)
	b[0] = kind
	b[1], b[2], b[3], b[4] = byte(at>>24), byte(at>>16), byte(at>>8), byte(at)
	b[5], b[6] = byte(size>>8), byte(size)
	copy(b[7:2044], body)
	return sealed(b)
}

// byHand is a frame as the words say.
func byHand(kind uint8, at uint32, body string) []byte { return told(kind, at, len(body), body) }

// spoilt is bytes of which those from a place on are other ones, by so many bits.
func spoilt(b []byte, from int, bits ...byte) []byte {
	out := bytes.Clone(b)
	for i, x := range bits {
		out[from+i] ^= x
	}
	return out
}

// mixed is a text of so many bytes without a pattern, the same at each call.
func mixed(size int) string {
	b := make([]byte, size)
	rand.New(rand.NewSource(int64(size))).Read(b)
	return string(b)
}

// sample is a frame's kind, place and body.
type sample struct {
	what string
	kind uint8
	at   uint32
	body string
}

// samples are frames of several sizes, kinds and places, and the edges.
func samples() []sample {
	all := []sample{
		{"the document's example", 3, 7, ""},
		{"kind 0, place 0", 0, 0, ""},
		{"kind 255, the greatest place", 255, 1<<32 - 1, "abc"},
		{"a byte of zero", 1, 1, "\x00"},
		{"a byte of ones", 1, 1, "\xff"},
		{"zeros", 2, 1 << 31, strings.Repeat("\x00", 100)},
		{"zeros at the end", 2, 0x01020304, "ab\x00\x00\x00"},
		{"zeros at the beginning", 128, 0xfffefdfc, "\x00\x00ab"},
		{"zeros between", 127, 1<<31 - 1, "\x00a\x00b\x00"},
		{"what looks like a frame", 9, 256, string(byHand(9, 256, "x")[:20])},
		{"the longest, of zeros", 4, 5, strings.Repeat("\x00", 2024)},
		{"the longest, of ones", 4, 5, strings.Repeat("\xff", 2024)},
		{"the longest, with zeros at the end", 4, 65536, mixed(2000) + strings.Repeat("\x00", 24)},
	}
	for i, size := range []int{0, 1, 2, 3, 4, 5, 7, 8, 100, 255, 256, 257, 511, 1000, 2019, 2020, 2023, 2024} {
		all = append(all, sample{"mixed", byte(i * 31), uint32(i) * 0x1357913, mixed(size)})
	}
	return all
}

// puts is a frame, and says that there is one.
func puts(t *testing.T, kind uint8, at uint32, body []byte) []byte {
	t.Helper()
	b, e := Put(kind, at, body)
	if e != api.OK {
		t.Fatalf("Put(%d, %d, %d bytes): %v", kind, at, len(body), e)
	}
	return b
}

// gets says which body is taken.
func gets(t *testing.T, what string, kind uint8, at uint32, b []byte, want string) {
	t.Helper()
	body, e := Get(kind, at, b)
	if string(body) != want || e != api.OK {
		t.Errorf("%s: Get(%d, %d): %d bytes, %.20q, %v, not %d bytes, %.20q", what, kind, at, len(body), body, e, len(want), want)
	}
}

// refuses says with which error nothing is taken.
func refuses(t *testing.T, what string, kind uint8, at uint32, b []byte, want api.Errno) {
	t.Helper()
	body, e := Get(kind, at, b)
	if len(body) != 0 || e != want {
		t.Errorf("%s: Get(%d, %d) of %d bytes: %d bytes, %v, not %v", what, kind, at, len(b), len(body), e, want)
	}
}

// P15.1: the document's example, and its sum written out.
func TestExample(t *testing.T) {
	b := puts(t, 3, 7, nil)
	if len(b) != api.BlockSize || !bytes.HasPrefix(b, []byte{3, 0, 0, 0, 7, 0, 0}) {
		t.Errorf("%d bytes, %v", len(b), b[:7])
	}
	if len(bytes.Trim(b[7:2044], "\x00")) != 0 {
		t.Errorf("behind the body: %v", b[7:2044])
	}
	sum := crc32.Checksum(b[:2044], crc32.MakeTable(crc32.Castagnoli))
	if want := []byte{byte(sum), byte(sum >> 8), byte(sum >> 16), byte(sum >> 24)}; !bytes.Equal(b[2044:], want) {
		t.Errorf("sum %v, not %v", b[2044:], want)
	}
}

// P15.1: each frame is, byte by byte, what the words say.
func TestPut(t *testing.T) {
	for _, s := range samples() {
		b, want := puts(t, s.kind, s.at, []byte(s.body)), byHand(s.kind, s.at, s.body)
		if len(b) != 2048 {
			t.Errorf("%s: %d bytes", s.what, len(b))
			continue
		}
		for i := range want {
			if b[i] != want[i] {
				t.Errorf("%s: byte %d is %d, not %d", s.what, i, b[i], want[i])
				break
			}
		}
	}
}

// P15.1: the four bytes of a place, and the two of a body's length, stand with the highest first.
func TestHead(t *testing.T) {
	if b := puts(t, 17, 0x01020304, make([]byte, 0x0506)); string(b[:7]) != "\x11\x01\x02\x03\x04\x05\x06" {
		t.Errorf("head %v", b[:7])
	}
	if b := puts(t, 255, 1<<32-1, make([]byte, 2024)); string(b[:7]) != "\xff\xff\xff\xff\xff\x07\xe8" {
		t.Errorf("head %v", b[:7])
	}
}

// P15.1, P0.1, P0.2: a body of too many bytes makes no frame, whatever its kind and place.
func TestPutLong(t *testing.T) {
	for _, size := range []int{2025, 2026, 2037, 2038, 2048, 1 << 16, 1<<16 + 1, 1 << 24} {
		for _, s := range []sample{{kind: 0, at: 0}, {kind: 255, at: 1<<32 - 1}, {kind: 3, at: 7}} {
			if b, e := Put(s.kind, s.at, make([]byte, size)); len(b) != 0 || e != api.ErrLong {
				t.Errorf("Put of %d bytes: %d bytes, %v", size, len(b), e)
			}
		}
	}
}

// P15.1, P0.4: a nil body is an empty one.
func TestPutNil(t *testing.T) {
	if !bytes.Equal(puts(t, 3, 7, nil), puts(t, 3, 7, []byte{})) {
		t.Error("nil and empty bodies make different frames")
	}
}

// P15.2: a frame's body is taken as it was, and what is taken makes the same frame.
func TestThereAndBack(t *testing.T) {
	for _, s := range samples() {
		b := puts(t, s.kind, s.at, []byte(s.body))
		gets(t, s.what, s.kind, s.at, b, s.body)
		body, _ := Get(s.kind, s.at, b)
		if !bytes.Equal(puts(t, s.kind, s.at, body), b) {
			t.Errorf("%s: what is taken makes another frame", s.what)
		}
	}
}

// P15.1: a frame made by hand is taken.
func TestGetByHand(t *testing.T) {
	for _, s := range samples() {
		gets(t, s.what, s.kind, s.at, byHand(s.kind, s.at, s.body), s.body)
	}
}

// P15.2: of two kinds, places or bodies there are two frames, also where a body has zeros more at its end.
func TestOtherFrames(t *testing.T) {
	seen := map[string]string{}
	for _, s := range []sample{
		{"none", 1, 1, ""}, {"a zero", 1, 1, "\x00"}, {"two zeros", 1, 1, "\x00\x00"}, {"a", 1, 1, "a"}, {"a and a zero", 1, 1, "a\x00"}, {"a zero and a", 1, 1, "\x00a"},
		{"kind 2", 2, 1, ""}, {"kind 0", 0, 1, ""}, {"place 2", 1, 2, ""}, {"place 256", 1, 256, ""}, {"place 65536", 1, 65536, ""}, {"place 2^24", 1, 1 << 24, ""}, {"place 0", 1, 0, ""},
	} {
		b := string(puts(t, s.kind, s.at, []byte(s.body)))
		if other, ok := seen[b]; ok {
			t.Errorf("%s and %s make one frame", s.what, other)
		}
		seen[b] = s.what
	}
}

// wrong is a block with faults from some one on, and the error of the first one.
type wrong struct {
	what string
	kind uint8
	at   uint32
	b    []byte
	want api.Errno
}

// P15.1, P0.2: the errors in their order: each one stands ahead of all that come behind it.
func TestGetOrder(t *testing.T) {
	good, full := byHand(2, 258, "abc"), byHand(2, 258, mixed(2024))
	more, behind := told(2, 258, 2025, mixed(2024)), told(2, 258, 2, "abc")
	for _, c := range []wrong{
		{"right", 2, 258, good, api.OK},
		{"right, the longest", 2, 258, full, api.OK},
		{"too short, all else right", 2, 258, good[1:], api.ErrForm},
		{"too short, its sum right", 2, 258, sealed(good[:2047]), api.ErrForm},
		{"too long, all else right", 2, 258, append(bytes.Clone(good), 0), api.ErrForm},
		{"too long, its sum right", 2, 258, sealed(append(bytes.Clone(good[:2044]), 0, 0, 0, 0, 0)), api.ErrForm},
		{"too short, all else wrong", 1, 2, spoilt(more, 2000, 1)[:2047], api.ErrForm},
		{"too long, all else wrong", 1, 2, append(spoilt(behind, 2000, 1), 1), api.ErrForm},
		{"another sum", 2, 258, spoilt(good, 2047, 1), api.ErrSum},
		{"another sum, and another kind", 1, 258, spoilt(good, 2047, 1), api.ErrSum},
		{"another sum, and another place", 2, 259, spoilt(good, 2047, 1), api.ErrSum},
		{"another sum, and too much told", 2, 258, spoilt(more, 2044, 1), api.ErrSum},
		{"another sum, and a byte behind the body", 2, 258, spoilt(behind, 2044, 1), api.ErrSum},
		{"another sum, all else wrong", 1, 2, spoilt(more, 2044, 1), api.ErrSum},
		{"another kind", 1, 258, good, api.ErrKind},
		{"another kind and place", 1, 2, good, api.ErrKind},
		{"another kind, and too much told", 1, 258, more, api.ErrKind},
		{"another kind, and a byte behind the body", 1, 258, behind, api.ErrKind},
		{"another kind, all else wrong", 1, 2, more, api.ErrKind},
		{"another place", 2, 2, good, api.ErrArg},
		{"another place, and too much told", 2, 2, more, api.ErrArg},
		{"another place, and a byte behind the body", 2, 2, behind, api.ErrArg},
		{"too much told", 2, 258, more, api.ErrForm},
		{"a byte behind the body", 2, 258, behind, api.ErrForm},
	} {
		if c.want == api.OK {
			if _, e := Get(c.kind, c.at, c.b); e != api.OK {
				t.Errorf("%s: %v", c.what, e)
			}
			continue
		}
		refuses(t, c.what, c.kind, c.at, c.b, c.want)
	}
}

// P15.1, P0.1, P0.4: what hasn't a block's bytes is none, though it ends with its sum.
func TestGetLength(t *testing.T) {
	refuses(t, "nil", 0, 0, nil, api.ErrForm)
	refuses(t, "empty", 0, 0, []byte{}, api.ErrForm)
	for _, size := range []int{1, 3} {
		refuses(t, "few", 0, 0, make([]byte, size), api.ErrForm)
	}
	for _, size := range []int{4, 5, 7, 11, 12, 1024, 2024, 2044, 2047, 2049, 2050, 4096, 1 << 16, 1 << 20} {
		refuses(t, "zeros and their sum", 0, 0, sealed(make([]byte, size)), api.ErrForm)
	}
	// The room behind the end may hold the rest of a frame, and isn't looked at.
	refuses(t, "cut", 2, 258, byHand(2, 258, "abc")[:2047], api.ErrForm)
}

// P15.1: a block that nobody wrote is no frame.
func TestGetUnwritten(t *testing.T) {
	refuses(t, "zeros", 0, 0, make([]byte, 2048), api.ErrSum)
	refuses(t, "ones", 255, 1<<32-1, bytes.Repeat([]byte{255}, 2048), api.ErrSum)
	gets(t, "zeros and their sum", 0, 0, sealed(make([]byte, 2048)), "")
}

// P15.1: only one kind and one place are right.
func TestGetOther(t *testing.T) {
	for _, s := range samples() {
		b := byHand(s.kind, s.at, s.body)
		for x := 1; x < 256; x++ {
			refuses(t, s.what, s.kind^byte(x), s.at, b, api.ErrKind)
			if t.Failed() {
				return
			}
		}
		for bit := range 32 {
			refuses(t, s.what, s.kind, s.at^1<<bit, b, api.ErrArg)
		}
	}
}

// P15.1: the sum must be written with the lowest byte first, and be one of all bytes ahead of it.
func TestGetSum(t *testing.T) {
	b := byHand(2, 258, "abc")
	turned := bytes.Clone(b)
	turned[2044], turned[2045], turned[2046], turned[2047] = b[2047], b[2046], b[2045], b[2044]
	refuses(t, "the highest first", 2, 258, turned, api.ErrSum)
	part := bytes.Clone(b)
	binary.LittleEndian.PutUint32(part[2044:], crc32.Checksum(b[:10], crc32.MakeTable(crc32.Castagnoli)))
	refuses(t, "of its head and body alone", 2, 258, part, api.ErrSum)
	binary.LittleEndian.PutUint32(part[2044:], crc32.ChecksumIEEE(b[:2044]))
	refuses(t, "by another rule", 2, 258, part, api.ErrSum)
}

// P15.1: what tells more than MaxBody bytes is none, though its sum fits, and though that many bytes would be there.
func TestGetTold(t *testing.T) {
	for _, body := range []string{"", strings.Repeat("\x00", 2037), strings.Repeat("\xff", 2037), mixed(2037), mixed(2024)} {
		for _, size := range []int{2025, 2026, 2030, 2036, 2037, 2038, 2040, 2041, 2042, 2048, 4096, 1 << 15, 1<<16 - 1} {
			refuses(t, "too much", 2, 258, told(2, 258, size, body), api.ErrForm)
		}
	}
	gets(t, "just so many", 2, 258, told(2, 258, 2024, "a"), "a"+strings.Repeat("\x00", 2023))
}

// P15.1: a byte behind the body that isn't zero, wherever it stands up to the sum, and whatever it is.
func TestGetBehind(t *testing.T) {
	for _, body := range []string{"", "\x00", "abc", mixed(1000), mixed(2023), mixed(2024)} {
		good := byHand(2, 258, body)
		from := 7 + len(body)
		places := []int{from, from + 1, (from + 2043) / 2, 2031, 2042, 2043}
		for at := from; at < 2044; at += 101 {
			places = append(places, at)
		}
		for _, at := range places {
			for _, x := range []byte{1, 128, 255} {
				refuses(t, "a byte behind", 2, 258, sealed(spoilt(good, at, x)), api.ErrForm)
			}
		}
		for at := 7; at < from; at += 101 {
			b := sealed(spoilt(good, at, 1))
			gets(t, "a byte within", 2, 258, b, string(b[7:from]))
		}
	}
}

// P15.3: of a frame spoilt within four bytes in a row, wherever they stand, nothing is taken.
func TestSpoilt(t *testing.T) {
	patterns := [][]byte{{1}, {128}, {255, 255, 255, 255}, {1, 0, 0, 128}}
	for _, b := range [][]byte{byHand(3, 7, ""), byHand(2, 258, mixed(2024)), byHand(255, 1<<32-1, "ab\x00\x00")} {
		kind, at := b[0], binary.BigEndian.Uint32(b[1:])
		for from := range len(b) {
			for _, bits := range patterns {
				refuses(t, "spoilt", kind, at, spoilt(b, from, bits[:min(len(bits), len(b)-from)]...), api.ErrSum)
			}
			if t.Failed() {
				return
			}
		}
	}
}

// P15.3: by any bits, at its first bytes, in its body, behind it, across the sum's beginning, and in its sum.
func TestSpoiltMixed(t *testing.T) {
	r := rand.New(rand.NewSource(15))
	b := byHand(2, 258, mixed(500))
	for _, from := range []int{0, 1, 2, 3, 4, 5, 6, 7, 8, 250, 503, 504, 505, 506, 507, 508, 1500, 2037, 2040, 2041, 2042, 2043, 2044} {
		for range 200 {
			bits := make([]byte, 4)
			binary.LittleEndian.PutUint32(bits, max(1, r.Uint32()&r.Uint32()))
			refuses(t, "spoilt", 2, 258, spoilt(b, from, bits...), api.ErrSum)
		}
		for x := 1; x < 256; x++ {
			refuses(t, "spoilt by a byte", 2, 258, spoilt(b, from, byte(x)), api.ErrSum)
		}
	}
}

// P15.3: what is spoilt is no frame of what it tells now either.
func TestSpoiltHead(t *testing.T) {
	b := byHand(2, 258, "abc")
	refuses(t, "of the kind that it tells now", 3, 258, spoilt(b, 0, 1), api.ErrSum)
	refuses(t, "of the place that it tells now", 2, 259, spoilt(b, 4, 1), api.ErrSum)
	refuses(t, "of the length that it tells now", 2, 258, spoilt(b, 6, 4), api.ErrSum)
}

// slow is Get as the document's words say it, one behind the other.
func slow(kind uint8, at uint32, b []byte) (string, api.Errno) {
	switch {
	case len(b) != 2048:
		return "", api.ErrForm
	case crc32.Checksum(b[:2044], crc32.MakeTable(crc32.Castagnoli)) != binary.LittleEndian.Uint32(b[2044:]):
		return "", api.ErrSum
	case b[0] != kind:
		return "", api.ErrKind
	case binary.BigEndian.Uint32(b[1:]) != at:
		return "", api.ErrArg
	}
	size := int(binary.BigEndian.Uint16(b[5:]))
	if size > 2024 || strings.Trim(string(b[7+size:2044]), "\x00") != "" {
		return "", api.ErrForm
	}
	return string(b[7 : 7+size]), api.OK
}

// shaken is a frame, or nearly one, and what it is asked as.
func shaken(r *rand.Rand) (uint8, uint32, []byte) {
	kind, at := byte(r.Intn(3)), uint32(r.Intn(3))<<(8*r.Intn(4))
	body := mixed(r.Intn(2025))
	b := told(kind, at, max(0, len(body)+r.Intn(5)-2), body)
	if r.Intn(4) == 0 {
		b = sealed(spoilt(b, r.Intn(2044), byte(r.Intn(256))))
	}
	if r.Intn(6) == 0 {
		b = spoilt(b, r.Intn(2048), byte(r.Intn(256)))
	}
	if r.Intn(10) == 0 {
		b = b[:r.Intn(2049)]
	}
	if r.Intn(6) == 0 {
		kind++
	}
	if r.Intn(6) == 0 {
		at ^= 1 << r.Intn(32)
	}
	return kind, at, b
}

// P15.1, P15.2: mixed blocks, held against the words; what is taken of any makes the same block.
func TestMixed(t *testing.T) {
	r := rand.New(rand.NewSource(1502))
	counts := map[api.Errno]int{}
	for range 4000 {
		kind, at, b := shaken(r)
		body, e := Get(kind, at, b)
		want, wantE := slow(kind, at, b)
		if string(body) != want || e != wantE {
			t.Fatalf("Get(%d, %d) of %.20q: %d bytes, %v, not %d bytes, %v", kind, at, b, len(body), e, len(want), wantE)
		}
		counts[e]++
		if e == api.OK && !bytes.Equal(puts(t, kind, at, body), b) {
			t.Fatalf("what is taken of %.20q makes another frame", b)
		}
	}
	for _, e := range []api.Errno{api.OK, api.ErrForm, api.ErrSum, api.ErrKind, api.ErrArg} {
		if counts[e] < 50 {
			t.Errorf("%v came %d times alone", e, counts[e])
		}
	}
}

// fill writes into bytes, and into the room behind them.
func fill(b []byte, x byte) {
	b = b[:cap(b)]
	for i := range b {
		b[i] = x
	}
}

// P0.3: Put writes neither into the body nor behind its end, and shares nothing with it, nor with another answer.
func TestPutShares(t *testing.T) {
	for _, s := range samples() {
		whole := append([]byte(s.body), "behind the body's end, up to a block's length and more"...)
		whole = append(whole, mixed(2048)...)
		was := bytes.Clone(whole)
		body := whole[:len(s.body)]
		b, other := puts(t, s.kind, s.at, body), puts(t, s.kind, s.at, body)
		if !bytes.Equal(whole, was) {
			t.Errorf("%s: Put changed what was handed in", s.what)
		}
		fill(whole, 'x')
		if !bytes.Equal(b, byHand(s.kind, s.at, s.body)) {
			t.Errorf("%s: the frame hangs on the body", s.what)
		}
		fill(whole, 'y')
		fill(b, 'z')
		if !bytes.Equal(other, byHand(s.kind, s.at, s.body)) || bytes.Count(whole, []byte("y")) != len(whole) {
			t.Errorf("%s: what is written into the frame is to be seen elsewhere", s.what)
		}
		if !bytes.Equal(puts(t, s.kind, s.at, []byte(s.body)), other) {
			t.Errorf("%s: Put answers another frame then", s.what)
		}
	}
}

// P0.3: Get writes neither into the block nor behind its end, and shares nothing with it, nor with another answer.
func TestGetShares(t *testing.T) {
	for _, s := range samples() {
		good := byHand(s.kind, s.at, s.body)
		whole := append(bytes.Clone(good), mixed(100)...)
		was := bytes.Clone(whole)
		b := whole[:2048]
		body, _ := Get(s.kind, s.at, b)
		other, _ := Get(s.kind, s.at, b)
		if !bytes.Equal(whole, was) {
			t.Errorf("%s: Get changed what was handed in", s.what)
		}
		fill(body, 'z')
		if !bytes.Equal(whole, was) || string(other) != s.body {
			t.Errorf("%s: what is written into the body is to be seen elsewhere", s.what)
		}
		fill(whole, 'x')
		if string(other) != s.body {
			t.Errorf("%s: the body hangs on the block", s.what)
		}
		gets(t, s.what, s.kind, s.at, good, s.body)
	}
}

// P0.3, P0.5: a block that is refused stays as it was, and is refused again in the same way.
func TestRefusedStays(t *testing.T) {
	r := rand.New(rand.NewSource(1503))
	for range 300 {
		kind, at, b := shaken(r)
		was := bytes.Clone(b)
		body, e := Get(kind, at, b)
		again, f := Get(kind, at, b)
		if !bytes.Equal(body, again) || e != f || !bytes.Equal(b, was) {
			t.Fatalf("Get(%d, %d): %v, then %v", kind, at, e, f)
		}
	}
}
