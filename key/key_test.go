package key

import (
	"math/rand"
	"strings"
	"testing"

	"marcot/api"
)

// words are all keys of at most so many of these letters, the empty one too.
func words(letters string, most int) []string {
	all := []string{""}
	from := 0
	for range most {
		upto := len(all)
		for _, w := range all[from:upto] {
			for i := range len(letters) {
				all = append(all, w+letters[i:i+1])
			}
		}
		from = upto
	}
	return all
}

// ranges are all whose Lo and Hi are such keys, with an end and without one, Hi above Lo or not.
func ranges(keys []string) []api.Range {
	var all []api.Range
	for _, lo := range keys {
		for _, hi := range keys {
			all = append(all, api.Range{Lo: lo, Hi: hi, End: true}, api.Range{Lo: lo, Hi: hi})
		}
	}
	return all
}

// span is the range from lo on, ahead of hi.
func span(lo, hi string) api.Range { return api.Range{Lo: lo, Hi: hi, End: true} }

// begins holds byte against byte.
func begins(k, p string) bool {
	if len(p) > len(k) {
		return false
	}
	for i := range len(p) {
		if k[i] != p[i] {
			return false
		}
	}
	return true
}

// above holds byte against byte, from the front on; what goes on stands above its beginning.
func above(a, b string) bool {
	for i := range min(len(a), len(b)) {
		if a[i] != b[i] {
			return a[i] > b[i]
		}
	}
	return len(a) > len(b)
}

// within is what the document says of a range's keys.
func within(r api.Range, k string) bool {
	return !above(r.Lo, k) && (!r.End || above(r.Hi, k))
}

// The letters of small worlds: the least and the greatest bytes, and some beside them, so that what
// stands just above a key is there too.
const (
	few  = "\x00\x01\xfe\xff"
	more = "\x00\x01\x02\xfe\xff"
)

// P3.1: the document's examples.
func TestExamples(t *testing.T) {
	if s, ok := Succ("a\xff"); s != "b" || !ok {
		t.Errorf("Succ: %q %v", s, ok)
	}
	if p := Under(span("ab", "ac")); p != "ab" {
		t.Errorf("Under: %q", p)
	}
	if m := Between("abc", "abzz"); m != "abz" {
		t.Errorf("Between: %q", m)
	}
}

// P3.1: Has, with nothing as a beginning, the whole key, and more than it.
func TestHas(t *testing.T) {
	for _, c := range []struct {
		k, p string
		want bool
	}{
		{"", "", true}, {"a", "", true}, {"", "a", false}, {"abc", "ab", true}, {"abc", "abc", true},
		{"ab", "abc", false}, {"abc", "bc", false}, {"abc", "ac", false}, {"\xff", "\xff", true},
		{"\xff", "\xff\xff", false}, {"\x00", "", true}, {"", "\x00", false}, {"ä", "\xc3", true},
		{"\xffa", "\xff", true}, {"A", "a", false},
	} {
		if got := Has(c.k, c.p); got != c.want {
			t.Errorf("Has(%q, %q): %v", c.k, c.p, got)
		}
	}
	for _, k := range words(few, 3) {
		for _, p := range words(few, 3) {
			if Has(k, p) != begins(k, p) {
				t.Errorf("Has(%q, %q): %v", k, p, Has(k, p))
			}
		}
	}
}

// P3.1: Succ, of beginnings that end in bytes 255, have them within, or are all of them, too.
func TestSucc(t *testing.T) {
	for _, c := range []struct {
		p, want string
		ok      bool
	}{
		{"", "", false}, {"\xff", "", false}, {"\xff\xff\xff", "", false}, {"a", "b", true},
		{"ab", "ac", true}, {"a\xff\xff", "b", true}, {"\xffa", "\xffb", true}, {"\xffa\xff", "\xffb", true},
		{"a\xffa", "a\xffb", true}, {"\x00", "\x01", true}, {"a\x00", "a\x01", true}, {"\xfe", "\xff", true},
		{"\xfe\xff", "\xff", true}, {"a\x7f", "a\x80", true}, {"\xc3", "\xc4", true}, {"\x7f\xff", "\x80", true},
	} {
		if s, ok := Succ(c.p); s != c.want || ok != c.ok {
			t.Errorf("Succ(%q): %q %v", c.p, s, ok)
		}
	}
}

// P3.1: just the keys above all that begin so are Succ or above it, and where there is no Succ there are none.
func TestSuccIsTheLeast(t *testing.T) {
	for _, p := range words(few, 3) {
		s, ok := Succ(p)
		if !ok && s != "" {
			t.Errorf("Succ(%q): %q beside false", p, s)
		}
		for _, k := range words(more, 4) {
			over := above(k, p) && !begins(k, p)
			if over != (ok && !above(s, k)) {
				t.Errorf("Succ(%q): %q %v, but %q", p, s, ok, k)
			}
		}
	}
}

// P3.1, P3.2: nothing stands between a key and the next one, also where bytes 255 are at the end.
func TestNext(t *testing.T) {
	for k, want := range map[string]string{"": "\x00", "a": "a\x00", "\xff": "\xff\x00", "\x00": "\x00\x00", "ab\xff": "ab\xff\x00"} {
		if got := Next(k); got != want {
			t.Errorf("Next(%q): %q", k, got)
		}
	}
	for _, k := range words(few, 3) {
		next := Next(k)
		if !above(next, k) {
			t.Errorf("Next(%q): %q isn't above", k, next)
		}
		for _, o := range words(more, 4) {
			if above(o, k) && above(next, o) {
				t.Errorf("Next(%q): %q, but %q stands between", k, next, o)
			}
		}
	}
}

// P3.1: Common, of keys of which one is the beginning of the other, or that have none, too.
func TestCommon(t *testing.T) {
	for _, c := range [][3]string{
		{"", "", ""}, {"a", "", ""}, {"", "a", ""}, {"abc", "abd", "ab"}, {"abc", "ab", "ab"}, {"ab", "abc", "ab"},
		{"abc", "abc", "abc"}, {"abc", "xbc", ""}, {"axc", "abc", "a"}, {"\xff\xff", "\xff", "\xff"}, {"\x00", "\x00\x00", "\x00"},
	} {
		if got := Common(c[0], c[1]); got != c[2] {
			t.Errorf("Common(%q, %q): %q", c[0], c[1], got)
		}
	}
	for _, a := range words(few, 3) {
		for _, b := range words(few, 3) {
			c := Common(a, b)
			n := len(c)
			if !begins(a, c) || !begins(b, c) {
				t.Errorf("Common(%q, %q): %q is no beginning", a, b, c)
			} else if n < len(a) && n < len(b) && a[n] == b[n] {
				t.Errorf("Common(%q, %q): %q isn't the longest", a, b, c)
			}
		}
	}
}

// P3.1: In, at a range's Lo, at its Hi, and beside them; without an end Hi doesn't count.
func TestIn(t *testing.T) {
	for _, c := range []struct {
		r    api.Range
		k    string
		want bool
	}{
		{span("b", "d"), "b", true}, {span("b", "d"), "c", true}, {span("b", "d"), "d", false},
		{span("b", "d"), "a\xff", false}, {span("b", "d"), "c\xff\xff", true}, {span("b", "d"), "d\x00", false},
		{span("b", "d"), "", false}, {span("b", "d"), "bzzz", true}, {api.Range{}, "", true}, {api.Range{}, "\xff\xff", true},
		{api.Range{Lo: "b"}, "\xff", true}, {api.Range{Lo: "b"}, "a", false}, {api.Range{Lo: "b"}, "b", true},
		{api.Range{Lo: "b", Hi: "d"}, "x", true}, {api.Range{Lo: "b", Hi: "a"}, "x", true}, {api.Range{Hi: "d"}, "d", true},
		{span("", ""), "", false}, {span("", ""), "a", false}, {span("", "a"), "", true}, {span("d", "b"), "c", false},
		{span("d", "b"), "d", false}, {span("b", "b"), "b", false}, {span("b", "b\x00"), "b", true}, {span("b", "b\x00"), "b\x00", false},
	} {
		if got := In(c.r, c.k); got != c.want {
			t.Errorf("In(%#v, %q): %v", c.r, c.k, got)
		}
	}
	for _, r := range ranges(words(few, 2)) {
		for _, k := range words(more, 3) {
			if In(r, k) != within(r, k) {
				t.Errorf("In(%#v, %q): %v", r, k, In(r, k))
			}
		}
	}
}

// P3.1: Empty, of the empty range, of others without a key, and of a range of just one.
func TestEmpty(t *testing.T) {
	for _, r := range []api.Range{span("", ""), span("b", "b"), span("b", "a"), span("b", ""), span("ab", "a"), span("\xff\xff", "\xff")} {
		if !Empty(r) {
			t.Errorf("Empty(%#v): false", r)
		}
	}
	for _, r := range []api.Range{{}, {Lo: "b"}, {Lo: "b", Hi: "a"}, {Lo: "b", Hi: "b"}, {Hi: "a"}, {Lo: "\xff\xff\xff"}, span("", "\x00"), span("b", "b\x00"), span("a", "ab"), span("a", "b")} {
		if Empty(r) {
			t.Errorf("Empty(%#v): true", r)
		}
	}
	keys := words(more, 3)
	for _, r := range ranges(words(few, 2)) {
		if Empty(r) != (count(r, keys) == 0) {
			t.Errorf("Empty(%#v): %v", r, Empty(r))
		}
	}
}

// count is how many of the keys a range has.
func count(r api.Range, keys []string) int {
	n := 0
	for _, k := range keys {
		if within(r, k) {
			n++
		}
	}
	return n
}

// P3.1: Cut, of ranges one within the other, that meet in part, in one key, in nothing, where one ends just
// where the other begins, and of such without an end, whose Hi doesn't count.
func TestCut(t *testing.T) {
	none := span("", "")
	for _, c := range []struct{ a, b, want api.Range }{
		{span("b", "f"), span("d", "h"), span("d", "f")},
		{span("b", "f"), span("c", "d"), span("c", "d")},
		{span("b", "f"), span("b", "f"), span("b", "f")},
		{span("b", "f"), span("b", "d"), span("b", "d")},
		{span("b", "f"), span("f", "h"), none},
		{span("b", "f"), span("g", "h"), none},
		{span("b", "f"), span("e\xff", "h"), span("e\xff", "f")},
		{span("b", "c\x00"), span("c", "h"), span("c", "c\x00")},
		{span("b", "f"), api.Range{}, span("b", "f")},
		{span("b", "f"), api.Range{Lo: "d"}, span("d", "f")},
		{span("b", "f"), api.Range{Lo: "f"}, none},
		{span("b", "f"), api.Range{Lo: "d", Hi: "e"}, span("d", "f")},
		{span("b", "f"), api.Range{Lo: "d", Hi: "a"}, span("d", "f")},
		{api.Range{}, api.Range{}, api.Range{}},
		{api.Range{Hi: "x"}, api.Range{Hi: "y"}, api.Range{}},
		{api.Range{Lo: "b", Hi: "c"}, api.Range{Lo: "d", Hi: "e"}, api.Range{Lo: "d"}},
		{api.Range{Lo: "d"}, api.Range{Lo: "\xff\xff"}, api.Range{Lo: "\xff\xff"}},
		{none, none, none},
		{none, api.Range{}, none},
		{none, span("b", "f"), none},
		{span("f", "b"), api.Range{}, none},
		{span("f", "b"), span("f", "b"), none},
		{span("b", "b"), span("a", "z"), none},
		{span("a", ""), api.Range{}, none},
	} {
		if got := Cut(c.a, c.b); got != c.want {
			t.Errorf("Cut(%#v, %#v): %#v", c.a, c.b, got)
		}
		if got := Cut(c.b, c.a); got != c.want {
			t.Errorf("Cut(%#v, %#v): %#v", c.b, c.a, got)
		}
	}
}

// P3.2: a key is in Cut just if it is in both. P3.1: Lo is the greater one, Hi the lower one of those that
// there are, and without a key it is the empty range.
func TestCutIsWhatBothHave(t *testing.T) {
	keys := words("\x00a\xff", 3)
	all := ranges(words("\x00a\xff", 2))
	for i, a := range all {
		// All pairs would take long: every seventh, at another beginning for each range, meets all kinds.
		for j := i % 7; j < len(all); j += 7 {
			b := all[j]
			cut := Cut(a, b)
			for _, k := range keys {
				if within(cut, k) != (within(a, k) && within(b, k)) {
					t.Fatalf("Cut(%#v, %#v): %#v, but %q", a, b, cut, k)
				}
			}
			if bad := cutForm(a, b, cut); bad != "" {
				t.Fatalf("Cut(%#v, %#v): %#v: %s", a, b, cut, bad)
			}
		}
	}
}

// cutForm tells what is wrong with a cut's form, as its keys are right.
func cutForm(a, b, cut api.Range) string {
	if cut == span("", "") {
		return ""
	}
	var ends []string
	for _, r := range []api.Range{a, b} {
		if r.End {
			ends = append(ends, r.Hi)
		}
		if above(r.Lo, cut.Lo) {
			return "a greater Lo"
		}
	}
	if cut.Lo != a.Lo && cut.Lo != b.Lo {
		return "a Lo of nobody"
	}
	if !above(cut.Hi, cut.Lo) && cut.End {
		return "no key, but not the empty range"
	}
	if cut.End != (len(ends) > 0) || !cut.End && cut.Hi != "" {
		return "the end"
	}
	for _, hi := range ends {
		if above(cut.Hi, hi) {
			return "a lower Hi"
		}
	}
	return ""
}

// P3.1: Of ends ahead of Succ, if there is one; of nothing it is all keys.
func TestOf(t *testing.T) {
	for p, want := range map[string]api.Range{
		"": {}, "a": span("a", "b"), "a\xff": span("a\xff", "b"), "\xff": {Lo: "\xff"}, "\xff\xff": {Lo: "\xff\xff"},
		"\xffa": span("\xffa", "\xffb"), "a\x00": span("a\x00", "a\x01"), "\xfe\xff\xff": span("\xfe\xff\xff", "\xff"),
	} {
		if got := Of(p); got != want {
			t.Errorf("Of(%q): %#v", p, got)
		}
	}
}

// P3.2: a key is in Of just if it begins so.
func TestOfIsWhatBeginsSo(t *testing.T) {
	for _, p := range words(few, 3) {
		r := Of(p)
		for _, k := range words(more, 4) {
			if In(r, k) != begins(k, p) {
				t.Errorf("Of(%q): %#v, but %q", p, r, k)
			}
		}
	}
}

// P3.1: Under, of ranges with an end and without one, of just one key, and of none.
func TestUnder(t *testing.T) {
	for _, c := range []struct {
		r    api.Range
		want string
	}{
		{api.Range{}, ""}, {api.Range{Hi: "a"}, ""}, {api.Range{Lo: "ab"}, ""}, {api.Range{Lo: "ab", Hi: "ac"}, ""},
		{api.Range{Lo: "\xff"}, "\xff"}, {api.Range{Lo: "\xff\xffa"}, "\xff\xff"}, {api.Range{Lo: "\xff\xffa", Hi: "a"}, "\xff\xff"},
		{api.Range{Lo: "a\xff"}, ""}, {api.Range{Lo: "\xffa\xff"}, "\xff"},
		{span("ab", "ac"), "ab"}, {span("ab", "ad"), "a"}, {span("a", "b"), "a"}, {span("a", "c"), ""}, {span("a", "b\x00"), ""},
		{span("a", "ab"), "a"}, {span("ab", "abzz"), "ab"}, {span("abc", "abc\x00"), "abc"}, {span("", "\x00"), ""}, {span("", "a"), ""},
		{span("ab", "b"), "a"}, {span("a\xff", "b"), "a\xff"}, {span("a\xff\xff", "b"), "a\xff\xff"}, {span("a\xffa", "b"), "a\xff"},
		{span("a\xff", "b\x00"), ""}, {span("a\xff", "c"), ""}, {span("xa\xffb\xff", "xb"), "xa\xff"}, {span("a\xfe", "b"), "a"},
		{span("\xfe\xff", "\xff"), "\xfe\xff"}, {span("\xff\xfe", "\xff\xff"), "\xff\xfe"}, {span("\xff", "\xff\xff"), "\xff"},
		{span("a\x00", "a\x01"), "a\x00"}, {span("abx", "ac"), "ab"}, {span("abx", "aby"), "abx"}, {span("abx", "ab\xff"), "ab"},
		{span("", ""), ""}, {span("ab", "ab"), ""}, {span("ac", "ab"), ""}, {span("abc", "ab"), ""}, {span("ab", ""), ""}, {span("\xff", "\xfe"), ""},
	} {
		if got := Under(c.r); got != c.want {
			t.Errorf("Under(%#v): %q, not %q", c.r, got, c.want)
		}
	}
}

// P3.3: all keys of a range begin with Under, and of anything longer not all do; without keys it is empty.
func TestUnderIsTheLongest(t *testing.T) {
	keys := words(more, 4)
	for _, r := range ranges(words(few, 3)) {
		u := Under(r)
		var has []string
		for _, k := range keys {
			if within(r, k) {
				has = append(has, k)
			}
		}
		if len(has) == 0 {
			if u != "" {
				t.Errorf("Under(%#v): %q of nothing", r, u)
			}
			continue
		}
		// Whatever is longer and all have, the first key has too.
		longer := has[0][:min(len(u)+1, len(has[0]))]
		all := len(longer) > len(u)
		for _, k := range has {
			if !begins(k, u) {
				t.Errorf("Under(%#v): %q, but %q", r, u, k)
			}
			all = all && begins(k, longer)
		}
		if all {
			t.Errorf("Under(%#v): %q, but all begin with %q", r, u, longer)
		}
	}
}

// P3.3: all keys that begin so begin so, and nothing longer is the beginning of all of them.
func TestUnderOfOf(t *testing.T) {
	for _, p := range words(few, 4) {
		if got := Under(Of(p)); got != p {
			t.Errorf("Under(Of(%q)): %q", p, got)
		}
	}
}

// P3.1: Between, of keys of which one is the beginning of the other, and wrong ones: the first isn't below.
func TestBetween(t *testing.T) {
	for _, c := range [][3]string{
		{"a", "ab", "ab"}, {"a", "abc", "ab"}, {"abc", "b", "b"}, {"abc", "bcd", "b"}, {"", "a", "a"}, {"", "abc", "a"},
		{"", "\x00", "\x00"}, {"a", "a\x00", "a\x00"}, {"a", "a\x00b", "a\x00"}, {"abc", "abd", "abd"}, {"a\xff\xff", "b", "b"},
		{"\xfe", "\xff\xff", "\xff"}, {"\xff", "\xff\xff\xff", "\xff\xff"}, {"a\x7f", "a\x80b", "a\x80"},
		{"", "", ""}, {"a", "a", ""}, {"b", "a", ""}, {"ab", "a", ""}, {"a", "", ""}, {"abd", "abc", ""}, {"\xff", "\xfe\xff", ""},
	} {
		if got := Between(c[0], c[1]); got != c[2] {
			t.Errorf("Between(%q, %q): %q, not %q", c[0], c[1], got, c[2])
		}
	}
	for _, a := range words(few, 3) {
		for _, b := range words(few, 3) {
			if got, want := Between(a, b), shortest(a, b); got != want {
				t.Errorf("Between(%q, %q): %q, not %q", a, b, got, want)
			}
		}
	}
}

// shortest tries the beginnings of b one behind the other.
func shortest(a, b string) string {
	for n := range len(b) + 1 {
		if above(b[:n], a) {
			return b[:n]
		}
	}
	return ""
}

// P3.1 to P3.3: keys of any bytes and lengths, near each other.
func TestAnyKeys(t *testing.T) {
	from := rand.New(rand.NewSource(3))
	word := func() string {
		b := make([]byte, from.Intn(20))
		for i := range b {
			b[i] = []byte{0, 255, 'a', byte(from.Intn(256))}[from.Intn(4)]
		}
		return string(b)
	}
	for range 20000 {
		a, k := word(), word()
		b := a[:from.Intn(len(a)+1)] + word()
		if Has(b, a) != begins(b, a) || In(Of(a), b) != begins(b, a) || Between(a, b) != shortest(a, b) {
			t.Fatalf("%q %q", a, b)
		}
		r, s := api.Range{Lo: a, Hi: b, End: from.Intn(3) > 0}, api.Range{Lo: k, Hi: Next(b), End: from.Intn(3) > 0}
		for _, x := range []string{a, b, k, Next(a), Next(k), Common(a, b), Common(a, k)} {
			if In(Cut(r, s), x) != (within(r, x) && within(s, x)) || In(r, x) != within(r, x) {
				t.Fatalf("%#v %#v: %q", r, s, x)
			}
			if In(r, x) && !begins(x, Under(r)) {
				t.Fatalf("Under(%#v): %q, but %q", r, Under(r), x)
			}
		}
	}
}

// P0.1: keys that are far longer than a volume's may be, as much as other ones.
func TestLongKeys(t *testing.T) {
	long := strings.Repeat("\xff", 1<<20)
	if s, ok := Succ("a" + long); s != "b" || !ok {
		t.Error("Succ of a long one")
	}
	if _, ok := Succ(long); ok {
		t.Error("Succ of long bytes 255")
	}
	if Common(long+"a", long+"b") != long || Between(long+"a", long+"bc") != long+"b" || Next(long) != long+"\x00" {
		t.Error("Common, Between or Next of a long one")
	}
	if Under(api.Range{Lo: long + "a"}) != long || Under(span("a"+long+"b", "b")) != "a"+long || Under(span(long, long+"a")) != long {
		t.Error("Under of a long one")
	}
	if !In(Of(long), long+"x") || In(Of(long), long[1:]) || !Empty(Cut(Of(long), span("", "\xff"))) {
		t.Error("Of or Cut of a long one")
	}
}

// P0.5: the same again is answered the same, whatever was asked between.
func TestAgain(t *testing.T) {
	r, s := span("ab", "b"), api.Range{Lo: "ac", Hi: "x"}
	cut, under, of := Cut(r, s), Under(r), Of("a\xff")
	for _, k := range words(few, 2) {
		Cut(Of(k), r)
		Under(Of(k))
	}
	if Cut(r, s) != cut || Under(r) != under || Of("a\xff") != of || r != span("ab", "b") || s != (api.Range{Lo: "ac", Hi: "x"}) {
		t.Error("not the same again")
	}
}
