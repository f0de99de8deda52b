package msg

import (
	"maps"
	"math/rand"
	"slices"
	"strings"
	"testing"

	"marcot/api"
	"marcot/key"
)

func put(k, v string) api.Msg { return api.Msg{Kind: api.Put, Key: k, Value: v} }

func del(k string) api.Msg { return api.Msg{Kind: api.Delete, Key: k} }

// far is a Goto; its number tells it from others.
func far(k string, block uint32, add string) api.Msg {
	return api.Msg{Kind: api.Goto, Key: k, Block: block, Deep: 1, Add: add}
}

// odd is a message of another Kind, with all that a message may have.
func odd(kind uint8, k string) api.Msg {
	return api.Msg{Kind: kind, Key: k, Value: "v", Block: 3, Deep: 2, Add: "w"}
}

// oddKinds are other Kinds: beside those that there are, and the greatest.
var oddKinds = []uint8{0, 4, 5, 127, 128, 131, 255}

func row(l ...api.Msg) []api.Msg { return l }

func pair(k, v string) api.Pair { return api.Pair{Key: k, Value: v} }

// span is the range from lo on, ahead of hi.
func span(lo, hi string) api.Range { return api.Range{Lo: lo, Hi: hi, End: true} }

// nothing is the empty range.
var nothing = api.Range{End: true}

// words are all keys of at most so many of these letters, the empty one too.
func words(letters string, most int) []string {
	all := []string{""}
	from := 0
	for range most {
		upto := len(all)
		for _, w := range all[from:upto] {
			for i := range len(letters) {
				all = append(all, w+letters[i:i+1])
			}
		}
		from = upto
	}
	return all
}

// The letters of small worlds: the least and the greatest byte, and one between.
const few = "\x00a\xff"

// ranges are all whose Lo and Hi are such keys, with an end and without one, Hi above Lo or not.
func ranges(keys []string) []api.Range {
	var all []api.Range
	for _, lo := range keys {
		for _, hi := range keys {
			all = append(all, api.Range{Lo: lo, Hi: hi, End: true}, api.Range{Lo: lo, Hi: hi})
		}
	}
	return all
}

// of is one message of each Kind, and one of another Kind, of each of these keys.
func of(keys []string) []api.Msg {
	var all []api.Msg
	for i, k := range keys {
		all = append(all, put(k, "v"), del(k), far(k, uint32(i), "x"), odd(4, k))
	}
	return all
}

// rows are all rows of at most so many of these messages.
func rows(of []api.Msg, most int) [][]api.Msg {
	all := [][]api.Msg{nil}
	from := 0
	for range most {
		upto := len(all)
		for _, l := range all[from:upto] {
			for _, m := range of {
				all = append(all, append(slices.Clip(l), m))
			}
		}
		from = upto
	}
	return all
}

// speaks is what the document says of speaking, Kind by Kind.
func speaks(m api.Msg, k string) bool {
	switch m.Kind {
	case api.Put, api.Delete:
		return k == m.Key
	case api.Goto:
		return len(k) >= len(m.Key) && k[:len(m.Key)] == m.Key
	}
	return false
}

// newest is the last message that speaks of a key, if there is one.
func newest(l []api.Msg, k string) (api.Msg, bool) {
	var last api.Msg
	found := false
	for _, m := range l {
		if speaks(m, k) {
			last, found = m, true
		}
	}
	return last, found
}

// P6.1, P6.2, P6.4: the document's examples.
func TestExamples(t *testing.T) {
	got := Add(row(put("a", "1"), put("b", "2")), put("a", "3"))
	if want := row(put("b", "2"), put("a", "3")); !slices.Equal(got, want) {
		t.Errorf("Add: %#v", got)
	}
	got, e := Trim(row(far("a", 7, "x")), key.Of("ab"), "ab")
	if want := row(far("", 7, "xb")); !slices.Equal(got, want) || e != api.OK {
		t.Errorf("Trim: %#v %v", got, e)
	}
}

// long is a text of so many bytes.
func long(n int) string { return strings.Repeat("\xff", n) }

// P6.1: messages that may be, up to just as many bytes as may be.
func TestMay(t *testing.T) {
	for _, m := range []api.Msg{
		put("", ""), put("k", ""), put("", "v"), put("k", "v"), put("\x00", "\x00"),
		put(long(16), long(32)), put(long(16), ""), put("", long(32)),
		del(""), del("k"), del(long(16)),
		far("", 0, ""), far("k", 0, ""), far("", 1, ""), far("", 0, "x"), far("k", 1<<32-1, "x"),
		far(long(16), 1, long(16)), far("", 1, long(16)), far(long(16), 1, ""),
		{Kind: api.Goto, Deep: 1}, {Kind: api.Goto, Deep: 2}, {Kind: api.Goto, Deep: 1<<16 - 1},
	} {
		if !May(m) {
			t.Errorf("%#v may be", m)
		}
	}
}

// P6.1: messages that may not be: too long, not deep, of another Kind, or with a field that isn't named for
// their Kind.
func TestMayNot(t *testing.T) {
	for _, m := range []api.Msg{
		put(long(17), ""), put("", long(33)), put(long(17), long(33)), put(long(1000), long(1000)),
		del(long(17)), far(long(17), 1, ""), far("", 1, long(17)),
		{Kind: api.Goto}, {Kind: api.Goto, Key: "k", Block: 1, Add: "x"},
		{Kind: api.Put, Key: "k", Block: 1}, {Kind: api.Put, Key: "k", Deep: 1}, {Kind: api.Put, Key: "k", Add: "x"},
		{Kind: api.Delete, Key: "k", Value: "v"}, {Kind: api.Delete, Key: "k", Block: 1},
		{Kind: api.Delete, Key: "k", Deep: 1}, {Kind: api.Delete, Key: "k", Add: "x"},
		{Kind: api.Goto, Key: "k", Deep: 1, Value: "v"},
		{Kind: api.Put, Block: 1 << 31}, {Kind: api.Delete, Deep: 1 << 15}, {Kind: api.Delete, Add: "\x00"},
		{}, {Kind: 4}, {Kind: 255}, {Key: "k"}, {Kind: 4, Deep: 1}, {Kind: 0, Deep: 1},
	} {
		if May(m) {
			t.Errorf("%#v may not be", m)
		}
	}
}

// may is what the document says, Kind by Kind and field by field.
func may(m api.Msg) bool {
	switch m.Kind {
	case api.Put:
		return len(m.Key) <= 16 && len(m.Value) <= 32 && m.Block == 0 && m.Deep == 0 && m.Add == ""
	case api.Delete:
		return len(m.Key) <= 16 && m.Value == "" && m.Block == 0 && m.Deep == 0 && m.Add == ""
	case api.Goto:
		return len(m.Key) <= 16 && m.Value == "" && m.Deep >= 1 && len(m.Add) <= 16
	}
	return false
}

// P6.1: every Kind, with every mixture of fields at the edges.
func TestMayOfAll(t *testing.T) {
	for kind := range 256 {
		for _, k := range []int{0, 1, 16, 17} {
			for _, v := range []int{0, 1, 32, 33} {
				for _, add := range []int{0, 1, 16, 17} {
					for _, block := range []uint32{0, 1, 1<<32 - 1} {
						for _, deep := range []uint16{0, 1, 1<<16 - 1} {
							m := api.Msg{Kind: uint8(kind), Key: long(k), Value: long(v), Block: block, Deep: deep, Add: long(add)}
							if May(m) != may(m) {
								t.Fatalf("May of %#v: %v", m, May(m))
							}
						}
					}
				}
			}
		}
	}
}

// P6.1: the ranges of which messages speak, to the byte.
func TestAbout(t *testing.T) {
	for _, c := range []struct {
		m    api.Msg
		want api.Range
	}{
		{put("k", "v"), span("k", "k\x00")},
		{del("k"), span("k", "k\x00")},
		{put("", ""), span("", "\x00")},
		{del("\xff"), span("\xff", "\xff\x00")},
		{far("k", 1, "x"), span("k", "l")},
		{far("a\xff", 1, ""), span("a\xff", "b")},
		{far("ab\x00", 1, ""), span("ab\x00", "ab\x01")},
		// All keys, and all from bytes 255 on: there is no end.
		{far("", 1, "x"), api.Range{}},
		{far("\xff", 1, ""), api.Range{Lo: "\xff"}},
		{far("\xff\xff\xff", 1, ""), api.Range{Lo: "\xff\xff\xff"}},
		// A message that may not be speaks by its Kind.
		{far(long(40), 0, long(40)), api.Range{Lo: long(40)}},
		{put("k", long(40)), span("k", "k\x00")},
	} {
		if got := About(c.m); got != c.want {
			t.Errorf("About of %#v: %#v, not %#v", c.m, got, c.want)
		}
	}
	for _, kind := range oddKinds {
		if got := About(odd(kind, "k")); got != nothing {
			t.Errorf("About of the Kind %d: %#v", kind, got)
		}
	}
}

// P6.1: a key, and all keys that begin so.
func TestSpeaks(t *testing.T) {
	for _, c := range []struct {
		m       api.Msg
		yes, no []string
	}{
		{put("k", "v"), []string{"k"}, []string{"", "j", "k\x00", "kk", "l", "v"}},
		{del("k"), []string{"k"}, []string{"", "j", "k\x00", "kk", "l"}},
		{put("", "v"), []string{""}, []string{"\x00", "v"}},
		{del(""), []string{""}, []string{"\x00", "\xff"}},
		{far("k", 1, "x"), []string{"k", "k\x00", "kk", "k\xff\xff"}, []string{"", "j", "j\xff", "l", "x", "xk"}},
		{far("", 1, "x"), []string{"", "\x00", "k", long(100)}, nil},
		{far("\xff", 1, "x"), []string{"\xff", long(100), "\xff\x00"}, []string{"", "\xfe\xff", "a"}},
	} {
		for _, k := range c.yes {
			if !Speaks(c.m, k) {
				t.Errorf("%#v speaks of %q", c.m, k)
			}
		}
		for _, k := range c.no {
			if Speaks(c.m, k) {
				t.Errorf("%#v doesn't speak of %q", c.m, k)
			}
		}
	}
}

// P6.1: Speaks and About, by all messages and keys of a small world.
func TestAllSpeaks(t *testing.T) {
	asked := words(few, 3)
	all := of(words(few, 2))
	for _, kind := range oddKinds {
		all = append(all, odd(kind, ""), odd(kind, "a"))
	}
	for _, m := range all {
		for _, k := range asked {
			if Speaks(m, k) != speaks(m, k) {
				t.Errorf("Speaks of %#v, %q: %v", m, k, Speaks(m, k))
			}
			if key.In(About(m), k) != speaks(m, k) {
				t.Errorf("About of %#v: %#v, and %q", m, About(m), k)
			}
		}
	}
}

// P6.1: the newest message counts, whatever its Kind; of a key of which nothing speaks there is none.
func TestLast(t *testing.T) {
	l := row(put("ab", "1"), far("a", 7, "x"), del("ab"), put("c", "2"), put("ab", "3"), far("ab", 8, "y"), odd(4, "c"), del(""))
	for _, c := range []struct {
		k    string
		want int
	}{
		{"ab", 5}, {"abc", 5}, {"a", 1}, {"aa", 1}, {"ac", 1}, {"c", 3}, {"", 7},
		{"b", -1}, {"cc", -1}, {"\xff", -1}, {"\x00", -1},
	} {
		if got := Last(l, c.k); got != c.want {
			t.Errorf("Last of %q: %d, not %d", c.k, got, c.want)
		}
	}
	for _, l := range [][]api.Msg{nil, {}, {odd(0, "k"), odd(4, "k")}} {
		if got := Last(l, "k"); got != -1 {
			t.Errorf("Last of %#v: %d", l, got)
		}
	}
}

// P6.1: Last, by all rows of a small world.
func TestAllLast(t *testing.T) {
	for _, l := range rows(of(words("a\xff", 1)), 3) {
		for _, k := range words("a\xff", 2) {
			want := len(l) - 1
			for want >= 0 && !speaks(l[want], k) {
				want--
			}
			if got := Last(l, k); got != want {
				t.Fatalf("Last of %#v, %q: %d, not %d", l, k, got, want)
			}
		}
	}
}

// P6.1, P6.2: Add takes away what is said of no other keys, and leaves all else in order.
func TestAdd(t *testing.T) {
	for _, c := range []struct {
		l    []api.Msg
		m    api.Msg
		want []api.Msg
	}{
		{nil, put("a", "1"), row(put("a", "1"))},
		// A key that is put, deleted and put again.
		{row(put("a", "1")), del("a"), row(del("a"))},
		{row(put("b", "0"), del("a")), put("a", "2"), row(put("b", "0"), put("a", "2"))},
		{row(put("a", "1")), put("a", "1"), row(put("a", "1"))},
		// Neither a longer nor a shorter key is meant.
		{row(put("a", "1"), del("aa"), put("", "2")), put("a", "3"), row(del("aa"), put("", "2"), put("a", "3"))},
		// A Goto takes Puts, Deletes and Gotos within it away, and leaves the wider ones, and those beside it.
		{
			row(far("", 1, ""), put("ab", "1"), far("a", 2, "x"), del("abc"), put("a", "2"), far("abc", 3, "y"), far("ab", 4, "z"), put("ac", "3"), far("ac", 5, "")),
			far("ab", 9, "w"),
			row(far("", 1, ""), far("a", 2, "x"), put("a", "2"), put("ac", "3"), far("ac", 5, ""), far("ab", 9, "w")),
		},
		// That of the empty beginning takes all away; that of bytes 255 all from there on.
		{row(put("", "1"), del("\xff"), far("a", 1, ""), far("", 2, "")), far("", 9, "x"), row(far("", 9, "x"))},
		{
			row(far("", 1, ""), put("\xff\xff", "1"), put("\xfe", "2"), far("\xff\x00", 2, ""), far("\xff", 3, "")),
			far("\xff", 9, ""),
			row(far("", 1, ""), put("\xfe", "2"), far("\xff", 9, "")),
		},
		// A Goto speaks of more than a Put or a Delete of its Key.
		{row(far("a", 1, "x")), put("a", "1"), row(far("a", 1, "x"), put("a", "1"))},
		{row(far("a", 1, "x")), del("a"), row(far("a", 1, "x"), del("a"))},
		{row(far("", 1, "x")), del(""), row(far("", 1, "x"), del(""))},
		// Gotos of one beginning within another one's.
		{row(far("a", 1, "x")), far("ab", 2, "y"), row(far("a", 1, "x"), far("ab", 2, "y"))},
		{row(far("ab", 2, "y"), far("b", 3, "")), far("a", 1, "x"), row(far("b", 3, ""), far("a", 1, "x"))},
		// Those that stand there twice are gone both; those beside them may stand there twice.
		{row(put("b", "1"), put("a", "1"), put("b", "2"), put("a", "2")), del("a"), row(put("b", "1"), put("b", "2"), del("a"))},
	} {
		if got := Add(c.l, c.m); !slices.Equal(got, c.want) {
			t.Errorf("Add of %#v to %#v: %#v, not %#v", c.m, c.l, got, c.want)
		}
	}
}

// P6.1: what is of another Kind speaks of nothing: so of no other keys than any message does.
func TestAddOfOtherKinds(t *testing.T) {
	for _, kind := range oddKinds {
		m := odd(kind, "a")
		l := row(m, put("a", "1"), m, far("", 1, ""))
		if got, want := Add(l, del("b")), row(l[1], l[3], del("b")); !slices.Equal(got, want) {
			t.Errorf("Add to the Kind %d: %#v", kind, got)
		}
		if got, want := Add(l, m), row(l[1], l[3], m); !slices.Equal(got, want) {
			t.Errorf("Add of the Kind %d: %#v", kind, got)
		}
	}
}

// covered tells whether a message speaks of no other keys than another one does, of all these keys.
func covered(old, m api.Msg, keys []string) bool {
	for _, k := range keys {
		if speaks(old, k) && !speaks(m, k) {
			return false
		}
	}
	return true
}

// P6.1, P6.2: Add, by all rows of a small world: what is left, and that of each key what is said last stays so.
func TestAllAdd(t *testing.T) {
	all := of(words("a\xff", 2))
	asked := words("a\xff", 3)
	for _, l := range append(rows(all, 2), rows(of(words("a\xff", 1)), 3)...) {
		for _, m := range all {
			got := Add(l, m)
			var want []api.Msg
			for _, old := range l {
				if !covered(old, m, asked) {
					want = append(want, old)
				}
			}
			if want = append(want, m); !slices.Equal(got, want) {
				t.Fatalf("Add of %#v to %#v: %#v, not %#v", m, l, got, want)
			}
			for _, k := range asked {
				was, there := newest(append(slices.Clone(l), m), k)
				if is, ok := newest(got, k); is != was || ok != there {
					t.Fatalf("behind Add of %#v to %#v of %q: %#v %v", m, l, k, is, ok)
				}
			}
		}
	}
}

// P6.1, P6.4: what is trimmed, and what stays away.
func TestTrim(t *testing.T) {
	whole := api.Range{}
	mixed := row(put("a", "1"), far("ab", 2, "x"), del("abc"), odd(9, "ab"), put("b", "2"))
	for _, c := range []struct {
		l    []api.Msg
		r    api.Range
		a    string
		want []api.Msg
	}{
		// By an empty beginning and all keys nothing is changed, but what speaks of nothing is gone.
		{mixed, whole, "", row(mixed[0], mixed[1], mixed[2], mixed[4])},
		{mixed, api.Range{Hi: "a"}, "", row(mixed[0], mixed[1], mixed[2], mixed[4])},
		// By an empty beginning and some keys.
		{mixed, key.Of("ab"), "", row(mixed[1], mixed[2])},
		{mixed, span("abb", "abba"), "", row(mixed[1])},
		{mixed, span("", "ab"), "", row(mixed[0])},
		{mixed, span("a\x00", "\xff"), "", row(mixed[1], mixed[2], mixed[4])},
		// By ranges in which no message speaks, whatever the beginning.
		{mixed, span("c", "d"), "zz", nil},
		{mixed, nothing, "a", nil},
		{mixed, span("b", "a"), "a", nil},
		{mixed, span("a\x00", "ab"), "zz", nil},
		{nil, whole, "a", nil},
		// With a beginning taken away.
		{mixed, key.Of("a"), "a", row(put("", "1"), far("b", 2, "x"), del("bc"))},
		{mixed, key.Of("ab"), "ab", row(far("", 2, "x"), del("c"))},
		{mixed, key.Of("ab"), "a", row(far("b", 2, "x"), del("bc"))},
		{mixed, span("abd", "b"), "abd", row(far("", 2, "xd"))},
		{row(put("aaa", "1"), del("aa")), key.Of("a"), "a", row(put("aa", "1"), del("a"))},
		// A Goto whose Key begins with the beginning, is it, and with whose Key the beginning begins.
		{row(far("abc", 1, "x")), key.Of("ab"), "ab", row(far("c", 1, "x"))},
		{row(far("ab", 1, "x")), key.Of("ab"), "ab", row(far("", 1, "x"))},
		{row(far("a", 1, "x")), key.Of("ab"), "ab", row(far("", 1, "xb"))},
		{row(far("", 1, "x")), key.Of("ab"), "ab", row(far("", 1, "xab"))},
		{row(far("", 1, "")), key.Of("\xff\xff"), "\xff\xff", row(far("", 1, "\xff\xff"))},
		// The order stays, and what is said twice.
		{
			row(del("ab"), far("", 1, ""), put("ab", "1"), del("ab"), far("a", 2, ""), put("ab", "1")), key.Of("ab"), "ab",
			row(del(""), far("", 1, "ab"), put("", "1"), del(""), far("", 2, "b"), put("", "1")),
		},
		// The beginning need not be that of the range.
		{row(far("a", 1, "x"), put("abcd", "1")), key.Of("ab"), "abcd", row(far("", 1, "xbcd"), put("", "1"))},
		{row(put("abc", "1")), whole, "ab", row(put("c", "1"))},
	} {
		if got, e := Trim(c.l, c.r, c.a); !slices.Equal(got, c.want) || e != api.OK {
			t.Errorf("Trim of %#v by %#v, %q: %#v %v, not %#v", c.l, c.r, c.a, got, e, c.want)
		}
	}
}

// P6.1: messages that can't be trimmed: with another Key than one that begins so.
func TestTrimOfOtherKeys(t *testing.T) {
	for _, c := range []struct {
		l []api.Msg
		r api.Range
		a string
	}{
		{row(put("b", "1")), api.Range{}, "a"},
		{row(del("b")), api.Range{}, "a"},
		{row(far("b", 1, "x")), api.Range{}, "a"},
		{row(put("a", "1")), api.Range{}, "ab"}, // A Put is of no key that begins with its Key, but of its Key.
		{row(del("a")), api.Range{}, "ab"},
		{row(put("", "1")), api.Range{}, "a"},
		{row(del("")), api.Range{}, "\x00"},
		{row(far("ac", 1, "x")), api.Range{}, "ab"},
		{row(far("ac", 1, "x")), key.Of("a"), "ab"},
		{row(far("abd", 1, "x")), key.Of("ab"), "abc"},
		{row(put("c", "1")), key.Of("c"), "cc"},
		// One is enough, wherever it stands.
		{row(put("b", "1"), put("ab", "2"), far("a", 3, "x")), api.Range{}, "a"},
		{row(put("ab", "1"), put("b", "2"), far("a", 3, "x")), api.Range{}, "a"},
		{row(put("ab", "1"), far("a", 2, "x"), put("b", "3")), api.Range{}, "a"},
	} {
		if got, e := Trim(c.l, c.r, c.a); len(got) != 0 || e != api.ErrArg {
			t.Errorf("Trim of %#v by %#v, %q: %#v %v", c.l, c.r, c.a, got, e)
		}
	}
}

// P6.1: an Add of just as many bytes as may be, and of one more.
func TestTrimToLongAdd(t *testing.T) {
	far := func(k, add string) api.Msg { return far(k, 1, add) }
	for _, c := range []struct {
		l    []api.Msg
		a    string
		want []api.Msg
	}{
		{row(far("", long(10))), "abcdef", row(far("", long(10)+"abcdef"))},
		{row(far("", long(10))), "abcdefg", nil},
		{row(far("a", long(15))), "ab", row(far("", long(15)+"b"))},
		{row(far("a", long(16))), "ab", nil},
		{row(far("a", long(15))), "abc", nil},
		{row(far("", "")), long(16), row(far("", long(16)))},
		{row(far("", "")), long(17), nil},
		{row(far("", "")), long(1000), nil},
		// Nothing comes to the Add of one whose Key begins so; it may be long already.
		{row(far("a", long(16))), "a", row(far("", long(16)))},
		{row(far("ab", long(16))), "a", row(far("b", long(16)))},
		{row(far("ab", long(17))), "a", nil},
		// One is enough.
		{row(far("a", long(15)), far("a", long(16))), "ab", nil},
		{row(far("a", long(16)), far("a", long(15))), "ab", nil},
	} {
		got, e := Trim(c.l, key.Of(c.a), c.a)
		if !slices.Equal(got, c.want) || (e == api.OK) != (c.want != nil) || (e == api.ErrArg) != (c.want == nil) {
			t.Errorf("Trim of %#v by %q: %#v %v, not %#v", c.l, c.a, got, e, c.want)
		}
	}
	// What speaks of no key of the range isn't asked.
	l := row(far("b", long(16)), put("ab", "1"))
	if got, e := Trim(l, key.Of("a"), "a"); !slices.Equal(got, row(put("b", "1"))) || e != api.OK {
		t.Errorf("Trim beside another one: %#v %v", got, e)
	}
}

// trimmed is one message as the document says, and whether it may be so.
func trimmed(m api.Msg, a string) (api.Msg, bool) {
	behind, begins := strings.CutPrefix(m.Key, a)
	more, within := strings.CutPrefix(a, m.Key)
	switch {
	case begins:
		m.Key = behind
	case m.Kind == api.Goto && within:
		m.Key, m.Add = "", m.Add+more
	default:
		return api.Msg{}, false
	}
	return m, len(m.Add) <= 16
}

// touches tells whether a message speaks of one of these keys that is in a range.
func touches(m api.Msg, r api.Range, keys []string) bool {
	return slices.ContainsFunc(keys, func(k string) bool {
		return speaks(m, k) && k >= r.Lo && (!r.End || k < r.Hi)
	})
}

// where is what a message says of a key: the message's Kind, its value, and where it leads on.
func where(m api.Msg, k string) api.Way {
	w := api.Way{Kind: m.Kind, Value: m.Value, Block: m.Block, Deep: m.Deep}
	if m.Kind == api.Goto {
		w.Key = m.Add + k[len(m.Key):]
	}
	return w
}

// holdTrim holds Trim against what the document says. (Where a message speaks of a key of a range, it does of
// the one's Lo or its own Key: the keys must have both.)
func holdTrim(t *testing.T, l []api.Msg, r api.Range, a string, keys []string) {
	t.Helper()
	var want []api.Msg
	wantErr := api.OK
	for _, m := range l {
		if !touches(m, r, keys) {
			continue
		}
		short, ok := trimmed(m, a)
		if !ok {
			want, wantErr = nil, api.ErrArg
			break
		}
		want = append(want, short)
	}
	got, e := Trim(l, r, a)
	if !slices.Equal(got, want) || e != wantErr {
		t.Fatalf("Trim of %#v by %#v, %q: %#v %v, not %#v %v", l, r, a, got, e, want, wantErr)
	}
	if e != api.OK {
		return
	}
	for _, k := range keys {
		if !key.In(r, a+k) {
			continue
		}
		was, there := newest(l, a+k)
		is, ok := newest(got, k)
		if ok != there || ok && where(is, k) != where(was, a+k) {
			t.Fatalf("Trim of %#v by %#v, %q says of %q: %#v %v, not %#v %v", l, r, a, k, is, ok, was, there)
		}
	}
}

// P6.1, P6.4: Trim of each message of a small world, by all its ranges and beginnings.
func TestAllTrim(t *testing.T) {
	keys := words(few, 2)
	for _, m := range of(keys) {
		for _, r := range ranges(keys) {
			for _, a := range keys {
				holdTrim(t, row(m), r, a, keys)
			}
		}
	}
}

// P6.1, P6.4: Trim of rows, Gotos within others among them, with short Adds and long ones.
func TestTrimOfRows(t *testing.T) {
	r := rand.New(rand.NewSource(6))
	keys := words("a\xff", 4)
	some := func() string { return keys[r.Intn(len(keys))] }
	good := 0
	for range 60000 {
		a := some()
		var l []api.Msg
		for range r.Intn(6) {
			k := some()
			if r.Intn(4) > 0 { // Else there is hardly a row that may be trimmed.
				k = a + k[:r.Intn(len(k)+1)]
			}
			m := []api.Msg{put(k, some()), del(k), far(k[:r.Intn(len(k)+1)], r.Uint32(), long(r.Intn(4)*r.Intn(6))), odd(0, k)}
			l = append(l, m[r.Intn(len(m))])
		}
		span := api.Range{Lo: some(), Hi: some(), End: r.Intn(4) > 0}
		if r.Intn(2) == 0 {
			span = key.Of(a)
		}
		asked := append(words("a\xff", 2), span.Lo)
		for _, m := range l {
			asked = append(asked, m.Key)
		}
		holdTrim(t, l, span, a, asked)
		if x, e := Trim(l, span, a); e == api.OK && len(x) > 1 {
			good++
		}
	}
	if good < 5000 {
		t.Errorf("only %d rows were trimmed", good)
	}
}

// P6.1, P6.3: Put and Delete are done in order, to pairs in order.
func TestApply(t *testing.T) {
	three := []api.Pair{pair("a", "1"), pair("b", "2"), pair("c", "3")}
	for _, c := range []struct {
		pairs []api.Pair
		l     []api.Msg
		want  []api.Pair
	}{
		{nil, nil, nil},
		{three, nil, three},
		{three, row(), three},
		// Without pairs.
		{nil, row(put("b", "1"), put("a", "2")), []api.Pair{pair("a", "2"), pair("b", "1")}},
		{nil, row(del("a")), nil},
		{nil, row(put("a", "1"), del("a")), nil},
		// A key that isn't there is deleted; one that is, and all.
		{three, row(del("bb")), three},
		{three, row(del(""), del("aa"), del("d"), del("\xff")), three},
		{three, row(del("b")), []api.Pair{three[0], three[2]}},
		{three, row(del("c"), del("a"), del("b")), nil},
		// A key that is put, deleted and put again; deleted twice.
		{three, row(put("b", "4"), del("b"), put("b", "5")), []api.Pair{three[0], pair("b", "5"), three[2]}},
		{three, row(del("b"), put("b", "4"), del("b")), []api.Pair{three[0], three[2]}},
		{three, row(del("b"), del("b")), []api.Pair{three[0], three[2]}},
		// Ahead of all, between, behind all; an empty key and an empty value; bytes 0 and 255.
		{
			three, row(put("d", "7"), put("", "8"), put("b\x00", "9"), put("a\xff", ""), put("\xff", "\xff")),
			[]api.Pair{pair("", "8"), three[0], pair("a\xff", ""), three[1], pair("b\x00", "9"), three[2], pair("d", "7"), pair("\xff", "\xff")},
		},
		{[]api.Pair{pair("", "1")}, row(del("")), nil},
		{[]api.Pair{pair("", ""), pair("\x00", "")}, nil, []api.Pair{pair("", ""), pair("\x00", "")}},
		// How long keys and values are isn't asked here.
		{[]api.Pair{pair(long(40), long(40))}, row(put("a", long(50))), []api.Pair{pair("a", long(50)), pair(long(40), long(40))}},
	} {
		if got, e := Apply(c.pairs, c.l); !slices.Equal(got, c.want) || e != api.OK {
			t.Errorf("Apply of %#v to %#v: %#v %v, not %#v", c.l, c.pairs, got, e, c.want)
		}
	}
}

// unrisen are pairs whose keys don't rise, or stand there twice.
var unrisen = [][]api.Pair{
	{pair("b", "1"), pair("a", "2")},
	{pair("a", "1"), pair("a", "1")},
	{pair("a", "1"), pair("a", "2")},
	{pair("", ""), pair("", "")},
	{pair("a", ""), pair("", "")},
	{pair("\xff", ""), pair("\x7f", "")},
	{pair("aa", ""), pair("a", "")},
	{pair("b", ""), pair("a", ""), pair("c", "")},
	{pair("a", ""), pair("c", ""), pair("b", "")},
	{pair("a", ""), pair("b", ""), pair("c", ""), pair("c", "")},
	{pair("a", ""), pair("b", ""), pair("a", "")},
}

// P6.1, P0.2: pairs whose keys don't rise are ErrArg, but with another message it is ErrKind.
func TestApplyRefuses(t *testing.T) {
	refused := func(pairs []api.Pair, l []api.Msg, want api.Errno) {
		t.Helper()
		if got, e := Apply(pairs, l); len(got) != 0 || e != want {
			t.Errorf("Apply of %#v to %#v: %#v %v, not %v", l, pairs, got, e, want)
		}
	}
	good := []api.Pair{pair("a", "1"), pair("b", "2")}
	others := row(far("a", 1, "x"), far("", 0, ""))
	for _, kind := range oddKinds {
		others = append(others, odd(kind, "a"), api.Msg{Kind: kind})
	}
	for _, m := range others {
		for _, pairs := range append(unrisen, nil, good) {
			refused(pairs, row(m), api.ErrKind)
			refused(pairs, row(m, put("a", "1")), api.ErrKind)
			refused(pairs, row(put("a", "1"), m, del("a")), api.ErrKind)
			refused(pairs, row(put("a", "1"), del("a"), m), api.ErrKind)
		}
	}
	for _, pairs := range unrisen {
		refused(pairs, nil, api.ErrArg)
		refused(pairs, row(put("z", "1")), api.ErrArg)
		// Not even if the messages would take away what stands wrong.
		refused(pairs, row(del(""), del("a"), del("b"), del("c")), api.ErrArg)
	}
}

// plain is what pairs are behind messages, by a map of Go's own.
func plain(pairs []api.Pair, l []api.Msg) []api.Pair {
	all := map[string]string{}
	for _, p := range pairs {
		all[p.Key] = p.Value
	}
	for _, m := range l {
		if m.Kind == api.Put {
			all[m.Key] = m.Value
		} else {
			delete(all, m.Key)
		}
	}
	var done []api.Pair
	for _, k := range slices.Sorted(maps.Keys(all)) {
		done = append(done, pair(k, all[k]))
	}
	return done
}

// applied is what Apply answers, which must be no error.
func applied(t *testing.T, pairs []api.Pair, l []api.Msg) []api.Pair {
	t.Helper()
	got, e := Apply(pairs, l)
	if e != api.OK {
		t.Fatalf("Apply of %#v to %#v: %v", l, pairs, e)
	}
	return got
}

// P6.3, P6.2: applied at once is applied one behind the other, in any two parts, and as Add leaves them.
func TestApplyInParts(t *testing.T) {
	r := rand.New(rand.NewSource(63))
	keys := words("a\xff", 3)
	some := func() string { return keys[r.Intn(len(keys))] }
	for range 4000 {
		var first, l, added []api.Msg
		for range r.Intn(12) {
			first = append(first, put(some(), some()))
		}
		for range r.Intn(16) {
			m := put(some(), some())
			if r.Intn(2) == 0 {
				m = del(some())
			}
			l = append(l, m)
			added = Add(added, m)
		}
		pairs := applied(t, nil, first)
		want := plain(pairs, l)
		if got := applied(t, pairs, l); !slices.Equal(got, want) {
			t.Fatalf("Apply of %#v to %#v: %#v, not %#v", l, pairs, got, want)
		}
		if got := applied(t, pairs, added); !slices.Equal(got, want) {
			t.Fatalf("Apply of what Add left of %#v: %#v, not %#v", l, got, want)
		}
		one := pairs
		for i, m := range l {
			if got := applied(t, applied(t, pairs, l[:i]), l[i:]); !slices.Equal(got, want) {
				t.Fatalf("Apply of %#v, from %d on by itself: %#v, not %#v", l, i, got, want)
			}
			one = applied(t, one, row(m))
		}
		if !slices.Equal(one, want) {
			t.Fatalf("Apply of %#v, one by one: %#v, not %#v", l, one, want)
		}
	}
}

// P6.3: of each key what Last finds counts; of which nothing speaks the pair stays.
func TestApplyIsLast(t *testing.T) {
	keys := words("a\xff", 1)
	var all []api.Msg
	for _, k := range append(keys, "b") {
		all = append(all, put(k, "1"), put(k, "2"), del(k))
	}
	pairs := []api.Pair{pair("", "0"), pair("a", "0"), pair("aa", "0")}
	for _, l := range rows(all, 3) {
		got := applied(t, pairs, l)
		for _, k := range append(keys, "b", "aa", "ab") {
			at := slices.IndexFunc(pairs, func(p api.Pair) bool { return p.Key == k })
			there := at >= 0
			value := "0"
			if i := Last(l, k); i >= 0 {
				there, value = l[i].Kind == api.Put, l[i].Value
			}
			is := slices.Contains(got, pair(k, value))
			some := slices.ContainsFunc(got, func(p api.Pair) bool { return p.Key == k })
			if is != there || some != there {
				t.Fatalf("Apply of %#v: %#v, and %q there: %v", l, got, k, there)
			}
		}
	}
}

// P6.1: the blocks of all Gotos, in order, each as often as it is named.
func TestBlocks(t *testing.T) {
	l := row(
		far("b", 9, ""), put("a", "1"), far("a", 0, "x"), odd(4, "a"), del("b"), odd(0, "a"), far("a", 9, ""),
		api.Msg{Kind: api.Put, Block: 5}, api.Msg{Kind: api.Delete, Block: 6}, api.Msg{Kind: api.Goto, Block: 1<<32 - 1},
	)
	if got, want := Blocks(l), []uint32{9, 0, 9, 1<<32 - 1}; !slices.Equal(got, want) {
		t.Errorf("Blocks: %v, not %v", got, want)
	}
	for _, l := range [][]api.Msg{nil, {}, {put("a", "1"), del("a"), odd(4, "a")}} {
		if got := Blocks(l); len(got) != 0 {
			t.Errorf("Blocks of %#v: %v", l, got)
		}
	}
}

// P6.1, P0.1: messages of another Kind, by every call.
func TestOtherKinds(t *testing.T) {
	for _, kind := range oddKinds {
		m := odd(kind, "a")
		if May(m) || May(api.Msg{Kind: kind}) {
			t.Errorf("Kind %d: it may not be", kind)
		}
		if Speaks(m, "a") || Speaks(api.Msg{Kind: kind}, "") || About(m) != nothing {
			t.Errorf("Kind %d: it speaks of nothing", kind)
		}
		if got := Last(row(put("a", "1"), m), "a"); got != 0 {
			t.Errorf("Kind %d: Last: %d", kind, got)
		}
		if got := Add(row(m), m); !slices.Equal(got, row(m)) {
			t.Errorf("Kind %d: Add: %#v", kind, got)
		}
		// It isn't asked for its Key, nor for its Add, for it speaks of no key of the range.
		m.Add = long(17)
		if got, e := Trim(row(m, put("ba", "1")), api.Range{}, "b"); !slices.Equal(got, row(put("a", "1"))) || e != api.OK {
			t.Errorf("Kind %d: Trim: %#v %v", kind, got, e)
		}
		if got, e := Apply(nil, row(m)); len(got) != 0 || e != api.ErrKind {
			t.Errorf("Kind %d: Apply: %#v %v", kind, got, e)
		}
		if got := Blocks(row(m)); len(got) != 0 {
			t.Errorf("Kind %d: Blocks: %v", kind, got)
		}
	}
}

// P0.4: a nil list is the same as an empty one.
func TestNoLists(t *testing.T) {
	for _, l := range [][]api.Msg{nil, {}} {
		if Last(l, "") != -1 || len(Blocks(l)) != 0 {
			t.Error("Last or Blocks of nothing")
		}
		if got := Add(l, del("")); !slices.Equal(got, row(del(""))) {
			t.Errorf("Add to nothing: %#v", got)
		}
		for _, r := range []api.Range{{}, nothing, span("a", "b")} {
			if got, e := Trim(l, r, long(100)); len(got) != 0 || e != api.OK {
				t.Errorf("Trim of nothing: %#v %v", got, e)
			}
		}
		for _, pairs := range [][]api.Pair{nil, {}} {
			if got, e := Apply(pairs, l); len(got) != 0 || e != api.OK {
				t.Errorf("Apply of nothing to nothing: %#v %v", got, e)
			}
		}
	}
}

// scribble writes over a list, and over all the room behind its end.
func scribble[T any](l []T, with T) {
	l = l[:cap(l)]
	for i := range l {
		l[i] = with
	}
}

// P0.3, P0.5: what is handed in stays as it was, also behind a list's end; what is answered is new memory, and
// the same one time and the next.
func TestHandedIn(t *testing.T) {
	room := row(put("ab", "1"), far("a", 7, "x"), del("ac"), put("b", "2"), odd(4, "c"), put("ad", "3"), far("b", 8, ""), put("x", "9"))
	plainRoom := row(put("b", "1"), del("a"), put("c", "2"), put("x", "9"), del("x"))
	pairRoom := []api.Pair{pair("a", "1"), pair("b", "2"), pair("d", "3"), pair("x", "9"), pair("a", "9")}
	l, puts, pairs := slices.Clone(room)[:6], slices.Clone(plainRoom)[:3], slices.Clone(pairRoom)[:3]
	stay := func(what string) {
		t.Helper()
		whole := func(got, want []api.Msg) bool { return slices.Equal(got[:len(want)], want) }
		if !whole(l, room) || !whole(puts, plainRoom) || !slices.Equal(pairs[:len(pairRoom)], pairRoom) {
			t.Fatalf("%s wrote into what was handed in", what)
		}
	}
	junk := api.Msg{Kind: 77, Key: "junk"}
	lists := map[string]func() []api.Msg{
		"Add":               func() []api.Msg { return Add(l, put("b", "5")) },
		"Add of nothing":    func() []api.Msg { return Add(l, odd(4, "")) },
		"Add of one beside": func() []api.Msg { return Add(l, put("zz", "5")) },
		"Trim":              func() []api.Msg { x, _ := Trim(l, key.Of("a"), "a"); return x },
		"Trim by all":       func() []api.Msg { x, _ := Trim(l, api.Range{}, ""); return x },
		"Trim refused":      func() []api.Msg { x, _ := Trim(l, api.Range{}, "a"); return x },
	}
	for what, call := range lists {
		first := call()
		stay(what)
		kept, second := slices.Clone(first), call()
		scribble(first, junk)
		stay(what)
		if !slices.Equal(second, kept) || !slices.Equal(call(), kept) {
			t.Errorf("%s answers otherwise the next time", what)
		}
	}
	for what, with := range map[string][]api.Msg{"Apply": puts, "Apply of nothing": nil} {
		first, _ := Apply(pairs, with)
		stay(what)
		kept := slices.Clone(first)
		second, _ := Apply(pairs, with)
		scribble(first, pair("junk", "junk"))
		stay(what)
		if third, _ := Apply(pairs, with); !slices.Equal(second, kept) || !slices.Equal(third, kept) {
			t.Errorf("%s answers otherwise the next time", what)
		}
	}
	Apply(pairs, l)
	Last(l, "a")
	first := Blocks(l)
	second := Blocks(l)
	scribble(first, 1234)
	stay("Blocks, Last or a refused Apply")
	if !slices.Equal(second, []uint32{7}) {
		t.Errorf("Blocks answers otherwise the next time: %v", second)
	}
}
