package lift

import (
	"strings"
	"testing"

	"marcot/api"
	"marcot/key"
)

// words are all keys of at most so many of these letters, the empty one too.
func words(letters string, most int) []string {
	all := []string{""}
	from := 0
	for range most {
		upto := len(all)
		for _, w := range all[from:upto] {
			for i := range len(letters) {
				all = append(all, w+letters[i:i+1])
			}
		}
		from = upto
	}
	return all
}

// lifts are all whose Strip and Add are such keys.
func lifts(keys []string) []api.Lift {
	var all []api.Lift
	for _, strip := range keys {
		for _, add := range keys {
			all = append(all, api.Lift{Strip: strip, Add: add})
		}
	}
	return all
}

// ranges are all whose Lo and Hi are such keys, with an end and without one, Hi above Lo or not.
func ranges(keys []string) []api.Range {
	var all []api.Range
	for _, lo := range keys {
		for _, hi := range keys {
			all = append(all, api.Range{Lo: lo, Hi: hi, End: true}, api.Range{Lo: lo, Hi: hi})
		}
	}
	return all
}

// span is the range from lo on, ahead of hi.
func span(lo, hi string) api.Range { return api.Range{Lo: lo, Hi: hi, End: true} }

// from is the range from lo on, without an end.
func from(lo string) api.Range { return api.Range{Lo: lo} }

// way is a lift.
func way(strip, add string) api.Lift { return api.Lift{Strip: strip, Add: add} }

// swap is what the document says of going, byte by byte: one beginning in place of another one.
func swap(k, off, on string) (string, bool) {
	if len(off) > len(k) {
		return "", false
	}
	for i := range len(off) {
		if k[i] != off[i] {
			return "", false
		}
	}
	all := []byte(on)
	for i := len(off); i < len(k); i++ {
		all = append(all, k[i])
	}
	return string(all), true
}

// The letters of small worlds: the least and the greatest bytes, and one beside the greatest, so that
// what stands just above a beginning is there too.
const few = "\x00\xfe\xff"

// P4.1: the document's examples.
func TestExamples(t *testing.T) {
	if k, ok := Up(way("ab", "x"), "abc"); k != "xc" || !ok {
		t.Errorf("Up: %q %v", k, ok)
	}
	if j, ok := Join(way("a", "bc"), way("b", "y")); j != way("a", "yc") || !ok {
		t.Errorf("Join: %#v %v", j, ok)
	}
}

// steps are lifts, keys from which they go, and where to.
var steps = []struct {
	l        api.Lift
	from, to string
}{
	{way("ab", "x"), "abc", "xc"},
	{way("ab", "x"), "abab", "xab"},
	{way("x", "abc"), "xx", "abcx"},
	{way("a", "a"), "ab", "ab"},
	{way("a", "aa"), "aab", "aaab"},
	// Keys that are just Strip, and lead to just Add.
	{way("ab", "x"), "ab", "x"},
	{way("ab", ""), "ab", ""},
	{way("", "x"), "", "x"},
	{way("", ""), "", ""},
	// An empty Strip, an empty Add, both.
	{way("", "x"), "abc", "xabc"},
	{way("", "x"), "x", "xx"},
	{way("ab", ""), "abc", "c"},
	{way("ab", ""), "abab", "ab"},
	{way("", ""), "abc", "abc"},
	// Bytes 255, and others that aren't letters.
	{way("\xff", "a"), "\xff\xff", "a\xff"},
	{way("\xff\xff", ""), "\xff\xff\x00", "\x00"},
	{way("a", "\xff\xff"), "ab", "\xff\xffb"},
	{way("a\xff", "b\xff\xff"), "a\xff\xff", "b\xff\xff\xff"},
	{way("\x00", "\x00\x00"), "\x00", "\x00\x00"},
	{way("\xc3", "a"), "\xc3\xa4", "a\xa4"},
}

// P4.1, P4.2: a lift goes from keys that begin with Strip, to Add in its place, and back.
func TestUpAndDown(t *testing.T) {
	for _, s := range steps {
		if k, ok := Up(s.l, s.from); k != s.to || !ok {
			t.Errorf("Up of %#v from %q: %q %v", s.l, s.from, k, ok)
		}
		if k, ok := Down(s.l, s.to); k != s.from || !ok {
			t.Errorf("Down of %#v from %q: %q %v", s.l, s.to, k, ok)
		}
	}
}

// P4.1: from other keys it doesn't go, nor back.
func TestNoWay(t *testing.T) {
	for _, c := range []struct{ beginning, k string }{
		{"ab", ""}, {"ab", "a"}, {"ab", "b"}, {"ab", "ac"}, {"ab", "bab"}, {"ab", "aab"},
		{"ab", "Ab"}, {"ab", "aB"}, {"ab", "a\x00b"},
		{"\xff\xff", "\xff"}, {"\xff\xff", "\xff\xfe\xff"}, {"a\xff", "b"}, {"\x00", ""},
	} {
		for _, other := range []string{"", "x", "a", "ab", c.k} {
			if k, ok := Up(way(c.beginning, other), c.k); k != "" || ok {
				t.Errorf("Up of %q, %q from %q: %q %v", c.beginning, other, c.k, k, ok)
			}
			if k, ok := Down(way(other, c.beginning), c.k); k != "" || ok {
				t.Errorf("Down of %q, %q from %q: %q %v", other, c.beginning, c.k, k, ok)
			}
		}
	}
}

// P4.1: going and going back, by all lifts and keys of a small world.
func TestAllWays(t *testing.T) {
	keys := words(few, 3)
	for _, l := range lifts(words(few, 2)) {
		for _, k := range keys {
			want, ok := swap(k, l.Strip, l.Add)
			if got, does := Up(l, k); got != want || does != ok {
				t.Fatalf("Up of %#v from %q: %q %v", l, k, got, does)
			}
			want, ok = swap(k, l.Add, l.Strip)
			if got, does := Down(l, k); got != want || does != ok {
				t.Fatalf("Down of %#v from %q: %q %v", l, k, got, does)
			}
		}
	}
}

// P4.2: a key to which a lift goes goes back to where it came from, and the other way round.
func TestThereAndBack(t *testing.T) {
	keys := words(few, 3)
	for _, l := range lifts(words(few, 2)) {
		for _, k := range keys {
			if up, ok := Up(l, k); ok {
				if back, ok := Down(l, up); back != k || !ok {
					t.Fatalf("%#v goes from %q to %q, and back to %q %v", l, k, up, back, ok)
				}
			}
			if down, ok := Down(l, k); ok {
				if again, ok := Up(l, down); again != k || !ok {
					t.Fatalf("%#v goes back from %q to %q, and on to %q %v", l, k, down, again, ok)
				}
			}
		}
	}
}

// P4.2: lifts keep the order.
func TestOrder(t *testing.T) {
	keys := words(few, 3)
	for _, l := range lifts(words(few, 1)) {
		for _, a := range keys {
			for _, b := range keys {
				toA, okA := Up(l, a)
				toB, okB := Up(l, b)
				if okA && okB && strings.Compare(a, b) != strings.Compare(toA, toB) {
					t.Fatalf("%#v goes from %q and %q to %q and %q", l, a, b, toA, toB)
				}
			}
		}
	}
}

// P4.1, P4.2: the lift that goes back has its beginnings the other way round, and turned twice is the same.
func TestTurn(t *testing.T) {
	if got := Turn(way("ab", "x")); got != way("x", "ab") {
		t.Errorf("Turn: %#v", got)
	}
	keys := words(few, 2)
	for _, l := range lifts(keys) {
		back := Turn(l)
		if back.Strip != l.Add || back.Add != l.Strip || Turn(back) != l {
			t.Fatalf("Turn of %#v: %#v", l, back)
		}
		for _, k := range keys {
			want, ok := Down(l, k)
			if got, does := Up(back, k); got != want || does != ok {
				t.Fatalf("%#v goes from %q to %q, %#v back to %q", back, k, got, l, want)
			}
		}
	}
}

// P4.1, P4.3: one lift behind the other, as one.
func TestJoin(t *testing.T) {
	for _, c := range []struct{ a, b, want api.Lift }{
		// a's Add is the beginning of b's Strip: what b takes more stands behind a's Strip.
		{way("a", "b"), way("bc", "y"), way("ac", "y")},
		{way("a", ""), way("bc", "y"), way("abc", "y")},
		{way("", "b"), way("bcd", ""), way("cd", "")},
		{way("", ""), way("bc", "y"), way("bc", "y")},
		{way("a", "\xff"), way("\xff\xff", "\xff"), way("a\xff", "\xff")},
		{way("a\xff", "b"), way("b\x00", "\xff"), way("a\xff\x00", "\xff")},
		// b's Strip is the beginning of a's Add: what b leaves stands behind its Add.
		{way("a", "bc"), way("b", "y"), way("a", "yc")},
		{way("a", "bc"), way("", "y"), way("a", "ybc")},
		{way("", "bcd"), way("b", ""), way("", "cd")},
		{way("a", "bc"), way("", ""), way("a", "bc")},
		{way("\xff", "\xff\xff"), way("\xff", "a"), way("\xff", "a\xff")},
		{way("a", "b\xff"), way("b", "b\xff"), way("a", "b\xff\xff")},
		// They are the same.
		{way("a", "b"), way("b", "c"), way("a", "c")},
		{way("a", "b"), way("b", "a"), way("a", "a")},
		{way("a", ""), way("", "c"), way("a", "c")},
		{way("", "b"), way("b", ""), way("", "")},
		{way("", ""), way("", ""), way("", "")},
		{way("a", "\xff\xff"), way("\xff\xff", "c"), way("a", "c")},
	} {
		if got, ok := Join(c.a, c.b); got != c.want || !ok {
			t.Errorf("Join of %#v and %#v: %#v %v", c.a, c.b, got, ok)
		}
	}
}

// P4.1, P4.3: two of which no key goes through both aren't joined.
func TestJoinNone(t *testing.T) {
	for _, c := range []struct{ a, b api.Lift }{
		{way("", "b"), way("c", "")},
		{way("a", "b"), way("a", "b")},
		{way("a", "bc"), way("bd", "y")},
		{way("a", "bc"), way("c", "y")},
		{way("a", "bc"), way("bdc", "y")},
		{way("a", "bcd"), way("bd", "y")},
		{way("c", "b"), way("c", "b")},
		{way("a", "\xff\xff"), way("\xff\xfe", "y")},
		{way("a", "\x00"), way("\xff", "\x00")},
	} {
		if got, ok := Join(c.a, c.b); got != (api.Lift{}) || ok {
			t.Errorf("Join of %#v and %#v: %#v %v", c.a, c.b, got, ok)
		}
	}
}

// through is where two lifts lead, one behind the other.
func through(a, b api.Lift, k string) (string, bool) {
	mid, ok := swap(k, a.Strip, a.Add)
	if !ok {
		return "", false
	}
	return swap(mid, b.Strip, b.Add)
}

// P4.3: joined they go from the same keys to the same keys as one behind the other, by all of a small world;
// keys of four bytes are enough for all that a Strip of two and more behind it may ask.
func TestJoinGoesAsBoth(t *testing.T) {
	keys := words(few, 4)
	all := lifts(words(few, 1))
	all = append(all, way("\x00\xff", "\xff\xff"), way("\xff\xff", "\x00\xff"), way("\xff\xff", ""),
		way("", "\xff\xff"), way("\xff\xfe", "\xff"), way("\xff", "\xff\xfe"), way("\xfe", "\x00\xff"))
	for _, a := range all {
		for _, b := range all {
			j, joined := Join(a, b)
			some := false
			for _, k := range keys {
				want, ok := through(a, b, k)
				some = some || ok
				got, does := swap(k, j.Strip, j.Add)
				if joined && (got != want || does != ok) {
					t.Fatalf("%#v and %#v joined are %#v: from %q to %q %v, not to %q %v", a, b, j, k, got, does, want, ok)
				}
			}
			if joined != some {
				t.Fatalf("%#v and %#v are joined: %v; keys go through both: %v", a, b, joined, some)
			}
			if !joined && j != (api.Lift{}) {
				t.Fatalf("%#v and %#v aren't joined, but answer %#v", a, b, j)
			}
		}
	}
}

// frontFirst joins the first two of three first.
func frontFirst(a, b, c api.Lift) (api.Lift, bool) {
	ab, ok := Join(a, b)
	if !ok {
		return api.Lift{}, false
	}
	return Join(ab, c)
}

// backFirst joins the last two of three first.
func backFirst(a, b, c api.Lift) (api.Lift, bool) {
	bc, ok := Join(b, c)
	if !ok {
		return api.Lift{}, false
	}
	return Join(a, bc)
}

// P4.3: three joined, by what the document says.
func TestThreeJoined(t *testing.T) {
	for _, c := range []struct {
		a, b, c, want api.Lift
		ok            bool
	}{
		{way("a", "b"), way("bc", "d"), way("d", "ef"), way("ac", "ef"), true},
		{way("a", "b"), way("bc", "d"), way("de", "f"), way("ace", "f"), true},
		{way("a", "bcd"), way("b", ""), way("c", "x"), way("a", "xd"), true},
		{way("", "\xff"), way("\xff\xff", ""), way("", "\xff"), way("\xff", "\xff"), true},
		{way("a", "b"), way("b", "c"), way("d", "e"), api.Lift{}, false},
		{way("a", "b"), way("c", "d"), way("d", "e"), api.Lift{}, false},
		{way("a", "bc"), way("b", ""), way("d", "e"), api.Lift{}, false},
	} {
		if got, ok := frontFirst(c.a, c.b, c.c); got != c.want || ok != c.ok {
			t.Errorf("%#v, %#v, %#v, the front first: %#v %v", c.a, c.b, c.c, got, ok)
		}
		if got, ok := backFirst(c.a, c.b, c.c); got != c.want || ok != c.ok {
			t.Errorf("%#v, %#v, %#v, the back first: %#v %v", c.a, c.b, c.c, got, ok)
		}
	}
}

// P4.3: three it matters not in which order they are joined.
func TestJoinOrder(t *testing.T) {
	all := lifts(words("\x00\xff", 2))
	for _, a := range all {
		for _, b := range all {
			for _, c := range all {
				front, okFront := frontFirst(a, b, c)
				back, okBack := backFirst(a, b, c)
				if front != back || okFront != okBack {
					t.Fatalf("%#v, %#v, %#v: %#v %v, and %#v %v", a, b, c, front, okFront, back, okBack)
				}
			}
		}
	}
}

// P4.2, P4.3: joined with the one that goes back it leads nowhere else; back, joined lifts go the other way round.
func TestJoinAndTurn(t *testing.T) {
	all := lifts(words("\x00\xff", 2))
	for _, a := range all {
		if j, ok := Join(a, Turn(a)); j != way(a.Strip, a.Strip) || !ok {
			t.Fatalf("%#v there and back: %#v %v", a, j, ok)
		}
		for _, b := range all {
			there, ok := Join(a, b)
			back, does := Join(Turn(b), Turn(a))
			if ok != does || Turn(there) != back {
				t.Fatalf("%#v and %#v: there %#v %v, back %#v %v", a, b, there, ok, back, does)
			}
		}
	}
}

// none is the empty range.
var none = api.Range{End: true}

// P4.1, P4.4: where ranges go.
func TestOver(t *testing.T) {
	l := way("ab", "x")
	for _, c := range []struct {
		l       api.Lift
		r, want api.Range
	}{
		// All keys.
		{l, api.Range{}, span("x", "y")},
		{way("", "x"), api.Range{}, span("x", "y")},
		{way("ab", ""), api.Range{}, api.Range{}},
		{way("", ""), api.Range{}, api.Range{}},
		{way("\xff", "x"), api.Range{}, span("x", "y")},
		{way("ab", "\xff\xff"), api.Range{}, from("\xff\xff")},
		{way("ab", "x\xff"), api.Range{}, span("x\xff", "y")},
		{way("a\xff", "\xff"), api.Range{}, from("\xff")},
		// Without an end; what stands in Hi doesn't count.
		{l, from("abc"), span("xc", "y")},
		{l, from("ab"), span("x", "y")},
		{l, api.Range{Lo: "abc", Hi: "abd"}, span("xc", "y")},
		{l, api.Range{Lo: "abc", Hi: "abb"}, span("xc", "y")},
		{way("ab", ""), from("abc"), from("c")},
		{way("", "x"), api.Range{Lo: "abc", Hi: "abd"}, span("xabc", "y")},
		{way("", ""), api.Range{Lo: "abc", Hi: "abd"}, from("abc")},
		{way("\xff", "\xff\xff"), api.Range{Lo: "\xff\x00", Hi: "\xff\xff"}, from("\xff\xff\x00")},
		// An end that begins with Strip.
		{l, span("abc", "abd"), span("xc", "xd")},
		{l, span("ab", "ab\x00"), span("x", "x\x00")},
		{l, span("abc", "ab\xff"), span("xc", "x\xff")},
		{way("ab", ""), span("abc", "abd"), span("c", "d")},
		{way("", "x"), span("abc", "b"), span("xabc", "xb")},
		{way("", ""), span("abc", "b"), span("abc", "b")},
		{way("\xff", "\xff"), span("\xff", "\xff\xff"), span("\xff", "\xff\xff")},
		{way("\xff\xff", "a"), span("\xff", "\xff\xff\xff"), span("a", "a\xff")},
		{way("a", "\xff"), span("ab", "a\xff"), span("\xffb", "\xff\xff")},
		// One that doesn't.
		{l, span("abc", "z"), span("xc", "y")},
		{l, span("abc", "ac"), span("xc", "y")},
		{l, span("abc", "b"), span("xc", "y")},
		{way("ab", ""), span("abc", "ac"), from("c")},
		{way("ab", "\xff"), span("abc", "ac"), from("\xffc")},
		{way("a\xff", "x\xff"), span("a\xff\xff", "b"), span("x\xff\xff", "y")},
		{way("a\xff", "\xff\xff"), span("a\xff", "b"), from("\xff\xff")},
		// From ahead of all that begin with Strip.
		{l, from("aa"), span("x", "y")},
		{l, from("a"), span("x", "y")},
		{l, span("", "abd"), span("x", "xd")},
		{l, span("aazz", "z"), span("x", "y")},
		{way("\xff", ""), span("", "\xffb"), span("", "b")},
		{way("\xff", "\xff"), from("b"), from("\xff")},
		// No key: the empty range, others that have none, ranges that have none that begins with Strip.
		{l, none, none},
		{way("", "x"), none, none},
		{way("ab", ""), none, none},
		{way("", ""), none, none},
		{l, span("abc", "abc"), none},
		{l, span("abd", "abc"), none},
		{l, span("z", ""), none},
		{way("", "x"), span("b", "a"), none},
		{way("", ""), span("b", ""), none},
		{l, span("", "ab"), none},
		{l, span("a", "ab"), none},
		{l, span("", "a"), none},
		{l, from("ac"), none},
		{l, from("b"), none},
		{l, span("ac", "ad"), none},
		{way("\xff", "x"), span("", "\xff"), none},
		{way("\xff", "x"), span("a", "b"), none},
		{way("a\xff", "x"), from("b"), none},
		{way("a\xff", "x"), span("a", "a\xff"), none},
	} {
		if got := Over(c.l, c.r); got != c.want {
			t.Errorf("Over of %#v and %#v: %#v", c.l, c.r, got)
		}
	}
}

// over is what the document says of the range to which one goes, from the least key on that may be of it.
func over(l api.Lift, r api.Range) api.Range {
	lo, ok := swap(max(r.Lo, l.Strip), l.Strip, l.Add)
	if !ok || !key.In(r, max(r.Lo, l.Strip)) {
		return none
	}
	if hi, ok := swap(r.Hi, l.Strip, l.Add); r.End && ok {
		return span(lo, hi)
	}
	above, ok := key.Succ(l.Add)
	return api.Range{Lo: lo, Hi: above, End: ok}
}

// P4.1, P4.4: a key is in the range just if a key of the other one goes to it, by all lifts, ranges and keys
// of a small world.
func TestOverHasWhereItGoes(t *testing.T) {
	short := words(few, 2)
	keys := words(few, 4)
	for _, l := range lifts(short) {
		for _, r := range ranges(short) {
			got := Over(l, r)
			if want := over(l, r); got != want {
				t.Fatalf("Over of %#v and %#v: %#v, not %#v", l, r, got, want)
			}
			for _, k := range keys {
				back, ok := swap(k, l.Add, l.Strip)
				if want := ok && key.In(r, back); key.In(got, k) != want {
					t.Fatalf("Over of %#v and %#v: %#v; has %q: %v", l, r, got, k, !want)
				}
			}
		}
	}
}

// P4.3, P4.4: joined they lead a range to where they lead it one behind the other.
func TestOverOfJoined(t *testing.T) {
	short := words("\x00\xff", 2)
	for _, a := range lifts(short) {
		for _, b := range lifts(short) {
			j, ok := Join(a, b)
			for _, r := range ranges(words("\x00\xff", 1)) {
				want := none
				if ok {
					want = Over(j, r)
				}
				if got := Over(b, Over(a, r)); got != want {
					t.Fatalf("%#v, %#v over %#v: %#v, not %#v", a, b, r, got, want)
				}
			}
		}
	}
}

// P0.1, P4.1: keys of any length, longer ones than a store takes too.
func TestLong(t *testing.T) {
	for _, n := range []int{api.MaxKey, api.MaxKey + 1, 255, 256, 65536, 1 << 20} {
		for _, b := range []string{"a", "\xff"} {
			k := strings.Repeat(b, n)
			if got, ok := Up(way(k, "x"), k+"y"); got != "xy" || !ok {
				t.Errorf("%d bytes, Up: %q %v", n, got, ok)
			}
			if got, ok := Up(way(k+"y", "x"), k); got != "" || ok {
				t.Errorf("%d bytes, Up of too short a key: %d bytes, %v", n, len(got), ok)
			}
			if got, ok := Down(way(k, "x"), "x"+k); got != k+k || !ok {
				t.Errorf("%d bytes, Down: %d bytes, %v", n, len(got), ok)
			}
			if got, ok := Join(way("x", k), way(k+k, "y")); got != way("x"+k, "y") || !ok {
				t.Errorf("%d bytes, Join: %v", n, ok)
			}
			if got := Over(way(k, ""), span("", k+"y")); got != span("", "y") {
				t.Errorf("%d bytes, Over: Lo %d, Hi %d", n, len(got.Lo), len(got.Hi))
			}
		}
	}
}

// P0.5: the same arguments are answered the same again.
func TestSameAgain(t *testing.T) {
	short := words("\x00\xff", 1)
	for _, l := range lifts(short) {
		for _, m := range lifts(short) {
			first, ok := Join(l, m)
			Over(m, api.Range{Lo: l.Strip})
			if again, does := Join(l, m); again != first || does != ok {
				t.Fatalf("Join of %#v and %#v: %#v, then %#v", l, m, first, again)
			}
		}
		for _, r := range ranges(short) {
			first := Over(l, r)
			Up(l, r.Lo)
			if again := Over(l, r); again != first {
				t.Fatalf("Over of %#v and %#v: %#v, then %#v", l, r, first, again)
			}
		}
	}
}
