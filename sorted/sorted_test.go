package sorted

import (
	"cmp"
	"iter"
	"maps"
	"math"
	"math/rand"
	"slices"
	"testing"
)

// pair is a key and its value, as they are gone through.
type pair[K cmp.Ordered, V any] struct {
	k K
	v V
}

// row is what is gone through.
func row[K cmp.Ordered, V any](seq iter.Seq2[K, V]) []pair[K, V] {
	var l []pair[K, V]
	for k, v := range seq {
		l = append(l, pair[K, V]{k, v})
	}
	return l
}

// of is a map of these keys, put in this order, each with the number of its place there.
func of[K cmp.Ordered](keys ...K) *Map[K, int] {
	m := New[K, int]()
	for i, k := range keys {
		m.Put(k, i)
	}
	return m
}

// pairs is what a map of Go's own holds, by rising keys.
func pairs[K cmp.Ordered, V any](plain map[K]V) []pair[K, V] {
	var l []pair[K, V]
	for _, k := range slices.Sorted(maps.Keys(plain)) {
		l = append(l, pair[K, V]{k, plain[k]})
	}
	return l
}

// same holds all that a map answers without being changed against a plain one; asked are the keys to ask.
func same[K cmp.Ordered, V comparable](t *testing.T, m *Map[K, V], plain map[K]V, asked ...K) {
	t.Helper()
	want := pairs(plain)
	if m.Len() != len(want) {
		t.Fatalf("Len: %d, not %d", m.Len(), len(want))
	}
	if got := row(m.All()); !slices.Equal(got, want) {
		t.Fatalf("All: %#v, not %#v", got, want)
	}
	for i, p := range want {
		if k, v, ok := m.At(i); k != p.k || v != p.v || !ok {
			t.Fatalf("At(%d): %#v %#v %v, not %#v", i, k, v, ok, p)
		}
	}
	for _, i := range []int{-1, len(want), len(want) + 1, math.MinInt, math.MaxInt} {
		var noKey K
		var noValue V
		if k, v, ok := m.At(i); k != noKey || v != noValue || ok {
			t.Fatalf("At(%d) of %d: %#v %#v %v", i, len(want), k, v, ok)
		}
	}
	for _, k := range asked {
		sameAt(t, m, plain, want, k)
	}
}

// sameAt holds what a map answers of a key against a plain one.
func sameAt[K cmp.Ordered, V comparable](t *testing.T, m *Map[K, V], plain map[K]V, want []pair[K, V], k K) {
	t.Helper()
	// A key that isn't there has the zero value in a plain map too.
	v, there := plain[k]
	if got, ok := m.Get(k); got != v || ok != there {
		t.Fatalf("Get(%#v): %#v %v, not %#v %v", k, got, ok, v, there)
	}
	below := 0
	for below < len(want) && want[below].k < k {
		below++
	}
	if got := m.Below(k); got != below {
		t.Fatalf("Below(%#v): %d, not %d", k, got, below)
	}
	if got := row(m.From(k)); !slices.Equal(got, want[below:]) {
		t.Fatalf("From(%#v): %#v, not %#v", k, got, want[below:])
	}
}

// P5.1, P5.2: the document's example.
func TestExample(t *testing.T) {
	m := of("c", "a", "b")
	if got := row(m.All()); !slices.Equal(got, []pair[string, int]{{"a", 1}, {"b", 2}, {"c", 0}}) {
		t.Errorf("All: %v", got)
	}
	if got := m.Below("b"); got != 1 {
		t.Errorf("Below of b: %d", got)
	}
}

// P5.1: a map without keys.
func TestEmpty(t *testing.T) {
	m := New[string, int]()
	if m == nil {
		t.Fatal("New: nil")
	}
	same(t, m, nil, "", "a", "\xff")
	if m.Delete("") || m.Delete("a") {
		t.Error("Delete of what isn't there: true")
	}
	same(t, m, nil, "", "a", "\xff")
	c := m.Copy()
	if c == nil {
		t.Fatal("Copy: nil")
	}
	same(t, c, nil, "a")
	m.Put("a", 1)
	m.Delete("a")
	same(t, m, nil, "", "a", "b")
}

// P5.1: one key, also the empty one; it is put, put again, deleted, and put again.
func TestOneKey(t *testing.T) {
	for _, k := range []string{"", "\x00", "b", "\xff\xff"} {
		asked := []string{"", "\x00", "a", "b", "c", "\xff\xff", "\xff\xff\x00"}
		m := New[string, int]()
		if !m.Put(k, 7) {
			t.Errorf("Put of %q: false", k)
		}
		same(t, m, map[string]int{k: 7}, asked...)
		if m.Put(k, 8) {
			t.Errorf("Put of %q again: true", k)
		}
		same(t, m, map[string]int{k: 8}, asked...)
		if !m.Delete(k) || m.Delete(k) {
			t.Errorf("Delete of %q, twice: not true, false", k)
		}
		same(t, m, nil, asked...)
		if !m.Put(k, 0) {
			t.Errorf("Put of %q behind its Delete: false", k)
		}
		same(t, m, map[string]int{k: 0}, asked...)
	}
}

// P5.1: a key that is put again has the new value, and the others have theirs.
func TestPutAgain(t *testing.T) {
	for again := range 5 {
		m := of(0, 1, 2, 3, 4)
		plain := map[int]int{0: 0, 1: 1, 2: 2, 3: 3, 4: 4}
		for _, v := range []int{9, 9, -1, again} {
			if m.Put(again, v) {
				t.Errorf("Put of %d again: true", again)
			}
			plain[again] = v
			same(t, m, plain, -1, 0, 1, 2, 3, 4, 5)
		}
	}
}

// P5.1: each key in turn, the least and the greatest too, deleted and put again.
func TestDeleteEach(t *testing.T) {
	keys := []string{"", "a", "ab", "b", "\xff"}
	asked := append([]string{"\x00", "aa", "ac", "c", "\xff\xff"}, keys...)
	for _, gone := range keys {
		m, plain := New[string, int](), map[string]int{}
		for i, k := range keys {
			m.Put(k, i)
			plain[k] = i
		}
		if !m.Delete(gone) {
			t.Errorf("Delete of %q: false", gone)
		}
		delete(plain, gone)
		same(t, m, plain, asked...)
		if m.Delete(gone) {
			t.Errorf("Delete of %q again: true", gone)
		}
		same(t, m, plain, asked...)
		if !m.Put(gone, 77) {
			t.Errorf("Put of %q behind its Delete: false", gone)
		}
		plain[gone] = 77
		same(t, m, plain, asked...)
	}
}

// P5.1: all keys deleted, from below and from above.
func TestDeleteAll(t *testing.T) {
	for _, turned := range []bool{false, true} {
		m, plain := New[int, int](), map[int]int{}
		var keys []int
		for i := range 20 {
			keys = append(keys, 2*i)
			m.Put(2*i, i)
			plain[2*i] = i
		}
		if turned {
			slices.Reverse(keys)
		}
		for _, k := range keys {
			if !m.Delete(k) {
				t.Errorf("Delete of %d: false", k)
			}
			delete(plain, k)
			same(t, m, plain, -1, k-1, k, k+1, 20, 99)
		}
	}
}

// P5.1: Get and Delete of keys that aren't there change nothing, and answer no value.
func TestNotThere(t *testing.T) {
	m := of("b", "d")
	plain := map[string]int{"b": 0, "d": 1}
	for _, k := range []string{"", "a", "b\x00", "bb", "c", "d\x00", "e", "B", "\xff"} {
		if v, ok := m.Get(k); v != 0 || ok {
			t.Errorf("Get of %q: %d %v", k, v, ok)
		}
		if m.Delete(k) {
			t.Errorf("Delete of %q: true", k)
		}
		same(t, m, plain, "a", "b", "c", "d", "e", k)
	}
}

// P5.1: Below of keys that are there, that aren't, below all and above all.
func TestBelow(t *testing.T) {
	m := of("m", "d", "t", "da", "d\xff")
	for _, c := range []struct {
		k    string
		want int
	}{
		{"d", 0}, {"da", 1}, {"d\xff", 2}, {"m", 3}, {"t", 4},
		{"d\x00", 1}, {"daa", 2}, {"e", 3}, {"l\xff", 3}, {"m\x00", 4}, {"s", 4},
		{"", 0}, {"a", 0}, {"c\xff\xff", 0},
		{"t\x00", 5}, {"u", 5}, {"\xff", 5},
	} {
		if got := m.Below(c.k); got != c.want {
			t.Errorf("Below of %q: %d, not %d", c.k, got, c.want)
		}
	}
}

// P5.1: At of the first, of the last, and where there is none.
func TestAt(t *testing.T) {
	m := of("y", "x", "z")
	for _, c := range []struct {
		i, v int
		k    string
		ok   bool
	}{
		{0, 1, "x", true}, {1, 0, "y", true}, {2, 2, "z", true},
		{-1, 0, "", false}, {-3, 0, "", false}, {math.MinInt, 0, "", false},
		{3, 0, "", false}, {4, 0, "", false}, {math.MaxInt, 0, "", false},
	} {
		if k, v, ok := m.At(c.i); k != c.k || v != c.v || ok != c.ok {
			t.Errorf("At(%d): %q %d %v", c.i, k, v, ok)
		}
	}
}

// P5.1, P5.2: the place that At tells is the one that Below tells, and Get has its value.
func TestPlacesAgree(t *testing.T) {
	m := New[int, string]()
	for i := range 200 {
		m.Put(i*7919%1000, string(rune('a'+i%26)))
	}
	for i := range m.Len() {
		k, v, ok := m.At(i)
		if got, there := m.Get(k); !ok || !there || got != v || m.Below(k) != i || m.Below(k+1) != i+1 {
			t.Fatalf("At(%d): %d %q %v; Get: %q %v; Below: %d", i, k, v, ok, got, there, m.Below(k))
		}
	}
}

// P5.1: a nil map is as one without keys, by every call.
func TestNil(t *testing.T) {
	var m *Map[string, int]
	for range 2 {
		if m.Put("a", 1) {
			t.Error("Put: true")
		}
		if m.Delete("a") {
			t.Error("Delete: true")
		}
		if m.Copy() != nil {
			t.Error("Copy: not nil")
		}
		same(t, m, nil, "", "a", "\xff")
	}
	if m.All() == nil || m.From("a") == nil {
		t.Error("nothing to go through by")
	}
	var floats *Map[float64, []int]
	if v, ok := floats.Get(math.NaN()); v != nil || ok {
		t.Errorf("Get: %v %v", v, ok)
	}
	if floats.Put(math.NaN(), []int{1}) || floats.Delete(math.NaN()) || floats.Below(math.Inf(1)) != 0 || floats.Len() != 0 {
		t.Error("a nil map of other types")
	}
}

// P5.1: all rows of a few calls that change a map of a few keys, held against a plain one behind each call.
func TestAllRows(t *testing.T) {
	const long = 6
	var try func(m *Map[int8, int], plain map[int8]int, left int)
	try = func(m *Map[int8, int], plain map[int8]int, left int) {
		same(t, m, plain, -2, -1, 0, 1, 2)
		if left == 0 {
			return
		}
		for _, k := range []int8{-1, 0, 1} {
			_, was := plain[k]
			next, nextPlain := m.Copy(), maps.Clone(plain)
			if next.Put(k, left) == was {
				t.Fatalf("Put of %d to %v: %v", k, plain, !was)
			}
			nextPlain[k] = left
			try(next, nextPlain, left-1)
			next, nextPlain = m.Copy(), maps.Clone(plain)
			if next.Delete(k) != was {
				t.Fatalf("Delete of %d from %v: %v", k, plain, !was)
			}
			delete(nextPlain, k)
			try(next, nextPlain, left-1)
		}
		// What was done to copies was not done here.
		same(t, m, plain, -1, 0, 1)
	}
	try(New[int8, int](), map[int8]int{}, long)
}

// mixed makes long rows of calls of all kinds, and holds them against a plain map.
func mixed[K cmp.Ordered, V comparable](t *testing.T, seed int64, newKey func(*rand.Rand) K, newValue func(*rand.Rand) V) {
	t.Helper()
	from := rand.New(rand.NewSource(seed))
	m, plain := New[K, V](), map[K]V{}
	for n := range 3000 {
		k, v := newKey(from), newValue(from)
		_, was := plain[k]
		switch from.Intn(8) {
		case 0, 1, 2:
			if m.Put(k, v) == was {
				t.Fatalf("Put of %#v: %v", k, !was)
			}
			plain[k] = v
		case 3, 4:
			if m.Delete(k) != was {
				t.Fatalf("Delete of %#v: %v", k, !was)
			}
			delete(plain, k)
		case 5:
			m = m.Copy()
		default:
			sameAt(t, m, plain, pairs(plain), k)
		}
		if n%10 == 0 {
			same(t, m, plain, k)
		}
	}
	same(t, m, plain)
}

// P5.1, P5.2: maps of texts and of numbers, with values of several types.
func TestMixedRows(t *testing.T) {
	text := func(from *rand.Rand) string {
		b := make([]byte, from.Intn(4))
		for i := range b {
			b[i] = "\x00a\xff"[from.Intn(3)]
		}
		return string(b)
	}
	number := func(from *rand.Rand) int { return from.Intn(100) - 50 }
	mixed(t, 1, text, number)
	mixed(t, 2, number, text)
	mixed(t, 3, func(from *rand.Rand) uint8 { return uint8(from.Intn(256)) }, func(from *rand.Rand) bool { return from.Intn(2) > 0 })
	mixed(t, 4, func(from *rand.Rand) uint64 { return math.MaxUint64 - uint64(from.Intn(40)) }, func(from *rand.Rand) [2]int { return [2]int{number(from), 1} })
	mixed(t, 5, func(from *rand.Rand) int64 { return math.MinInt64 + int64(from.Intn(40)) }, func(from *rand.Rand) struct{} { return struct{}{} })
	mixed(t, 6, func(from *rand.Rand) float64 { return float64(from.Intn(60))/4 - 7 }, func(from *rand.Rand) any { return text(from) })
	type name string
	mixed(t, 7, func(from *rand.Rand) name { return name(text(from)) }, func(from *rand.Rand) pair[int, string] { return pair[int, string]{number(from), text(from)} })
}

// P5.1: the greatest and the least numbers of a kind stand in order.
func TestEndsOfKinds(t *testing.T) {
	m := of[int64](math.MaxInt64, 0, math.MinInt64, -1, 1)
	plain := map[int64]int{math.MaxInt64: 0, 0: 1, math.MinInt64: 2, -1: 3, 1: 4}
	same(t, m, plain, math.MinInt64, math.MinInt64+1, -1, 0, 1, math.MaxInt64-1, math.MaxInt64)
	u := of[uint8](255, 0, 128, 127)
	same(t, u, map[uint8]int{255: 0, 0: 1, 128: 2, 127: 3}, 0, 1, 127, 128, 129, 254, 255)
}

// P5.1, P5.2: floats: what isn't a number is one key, below all others; both zeros are one key.
func TestFloats(t *testing.T) {
	nan, inf := math.NaN(), math.Inf(1)
	m := New[float64, string]()
	for _, k := range []float64{1, inf, nan, 0, -inf} {
		if !m.Put(k, "old") {
			t.Errorf("Put of %v: false", k)
		}
	}
	if m.Put(nan, "nan") || m.Put(math.Copysign(0, -1), "zero") || m.Len() != 5 {
		t.Errorf("put again: %v", row(m.All()))
	}
	if v, ok := m.Get(nan); v != "nan" || !ok {
		t.Errorf("Get of what isn't a number: %q %v", v, ok)
	}
	if v, ok := m.Get(0); v != "zero" || !ok {
		t.Errorf("Get of 0: %q %v", v, ok)
	}
	got := row(m.All())
	if len(got) != 5 || !math.IsNaN(got[0].k) || got[1].k != -inf || got[2].k != 0 || got[3].k != 1 || got[4].k != inf {
		t.Errorf("All: %v", got)
	}
	if m.Below(nan) != 0 || m.Below(-inf) != 1 || m.Below(inf) != 4 || len(row(m.From(nan))) != 5 || len(row(m.From(-inf))) != 4 {
		t.Error("Below or From")
	}
	if !m.Delete(nan) || m.Delete(nan) || m.Len() != 4 || m.Below(-inf) != 0 {
		t.Errorf("deleted: %v", row(m.All()))
	}
}

// P5.2: From of keys that are there, between two, below all, above all.
func TestFrom(t *testing.T) {
	m := of("b", "d", "f")
	all := []pair[string, int]{{"b", 0}, {"d", 1}, {"f", 2}}
	for _, c := range []struct {
		k    string
		left int
	}{
		{"", 3}, {"a", 3}, {"b", 3}, {"b\x00", 2}, {"c", 2}, {"d", 2}, {"e", 1}, {"f", 1}, {"f\x00", 0}, {"g", 0}, {"\xff", 0},
	} {
		if got := row(m.From(c.k)); !slices.Equal(got, all[3-c.left:]) {
			t.Errorf("From %q: %v", c.k, got)
		}
	}
}

// P5.2: going through that is left early tells nothing more, and changes nothing.
func TestLeftEarly(t *testing.T) {
	m := of(10, 20, 30, 40)
	for stop := 1; stop <= 4; stop++ {
		for _, c := range []struct {
			seq   iter.Seq2[int, int]
			first int
		}{{m.All(), 10}, {m.From(15), 20}, {m.From(20), 20}} {
			n := 0
			for k := range c.seq {
				if k != c.first+10*n {
					t.Fatalf("place %d: %d", n, k)
				}
				n++
				if n == stop {
					break
				}
			}
			if want := min(stop, 5-c.first/10); n != want {
				t.Errorf("left behind %d, from %d on: %d keys, not %d", stop, c.first, n, want)
			}
		}
	}
	same(t, m, map[int]int{10: 0, 20: 1, 30: 2, 40: 3}, 10, 20, 30, 40)
}

// P5.1, P5.2: what is kept to go through by goes through again, and each time as the map is when that begins.
func TestThroughAgain(t *testing.T) {
	m := of("b", "d")
	all, from := m.All(), m.From("c")
	for range 2 {
		if got := row(all); !slices.Equal(got, []pair[string, int]{{"b", 0}, {"d", 1}}) {
			t.Errorf("All: %v", got)
		}
		if got := row(from); !slices.Equal(got, []pair[string, int]{{"d", 1}}) {
			t.Errorf("From: %v", got)
		}
	}
	m.Put("c", 5)
	m.Put("a", 6)
	m.Delete("d")
	if got := row(all); !slices.Equal(got, []pair[string, int]{{"a", 6}, {"b", 0}, {"c", 5}}) {
		t.Errorf("All, behind changes: %v", got)
	}
	if got := row(from); !slices.Equal(got, []pair[string, int]{{"c", 5}}) {
		t.Errorf("From, behind changes: %v", got)
	}
}

// changes are what may be done to a map of 10, 20, 30, 40 and 50 while it is gone through, and n keys were told.
func changes() map[string]func(m *Map[int, int], n int) {
	return map[string]func(m *Map[int, int], n int){
		"puts above all":    func(m *Map[int, int], n int) { m.Put(100+n, n) },
		"puts below all":    func(m *Map[int, int], n int) { m.Put(-n, n) },
		"puts between":      func(m *Map[int, int], n int) { m.Put(10*n+5, n) },
		"puts just told":    func(m *Map[int, int], n int) { m.Put(10*n, 77) },
		"puts what follows": func(m *Map[int, int], n int) { m.Put(10*n+10, 77) },
		"puts all again": func(m *Map[int, int], n int) {
			for k := 10; k <= 50; k += 10 {
				m.Put(k, 77)
			}
		},
		"deletes just told":    func(m *Map[int, int], n int) { m.Delete(10 * n) },
		"deletes what follows": func(m *Map[int, int], n int) { m.Delete(10*n + 10) },
		"deletes the least":    func(m *Map[int, int], n int) { m.Delete(func() int { k, _, _ := m.At(0); return k }()) },
		"deletes the greatest": func(m *Map[int, int], n int) { m.Delete(60 - 10*n) },
		"deletes all": func(m *Map[int, int], n int) {
			for k := 10; k <= 50; k += 10 {
				m.Delete(k)
			}
		},
		"puts back": func(m *Map[int, int], n int) {
			m.Delete(50)
			m.Put(45, 77)
			m.Put(50, 78)
		},
	}
}

// P5.2: a map that is changed while it is gone through is gone through as it was, and is changed all the same.
func TestChangedOnTheWay(t *testing.T) {
	for name, change := range changes() {
		for _, from := range []int{math.MinInt, 10, 25, 50, 51} {
			m, changed := of(10, 20, 30, 40, 50), of(10, 20, 30, 40, 50)
			seq := m.From(from)
			if from == math.MinInt {
				seq = m.All()
			}
			want := row(of(10, 20, 30, 40, 50).From(from))
			var got []pair[int, int]
			for k, v := range seq {
				got = append(got, pair[int, int]{k, v})
				change(m, k/10)
				change(changed, k/10)
			}
			if !slices.Equal(got, want) {
				t.Errorf("%s, from %d on: %v, not %v", name, from, got, want)
			}
			if got, want := row(m.All()), row(changed.All()); !slices.Equal(got, want) {
				t.Errorf("%s, from %d on: it is %v then, not %v", name, from, got, want)
			}
		}
	}
}

// P5.2: gone through within going through, each is as the map was when that one began.
func TestThroughWithin(t *testing.T) {
	m := of(1, 2, 3)
	var outer, inner []int
	for k := range m.All() {
		outer = append(outer, k)
		m.Put(k+10, 0)
		for k := range m.From(3) {
			inner = append(inner, k)
			m.Delete(3)
		}
	}
	if !slices.Equal(outer, []int{1, 2, 3}) || !slices.Equal(inner, []int{3, 11, 11, 12, 11, 12, 13}) {
		t.Errorf("gone through: %v, and within %v", outer, inner)
	}
}

// P5.1: a copy is the same; what is done to it changes nothing of the map, and the other way round.
func TestCopy(t *testing.T) {
	for name, change := range changes() {
		plain := map[int]int{10: 0, 20: 1, 30: 2, 40: 3, 50: 4}
		asked := []int{5, 10, 15, 30, 50, 55}
		m := of(10, 20, 30, 40, 50)
		c := m.Copy()
		same(t, c, plain, asked...)
		for n := range 6 {
			change(c, n)
			same(t, m, plain, asked...)
		}
		m = of(10, 20, 30, 40, 50)
		c = m.Copy()
		for n := range 6 {
			change(m, n)
			same(t, c, plain, asked...)
		}
		if slices.Equal(row(m.All()), row(c.All())) {
			t.Errorf("%s: nothing was changed", name)
		}
	}
}

// P5.1, P0.3: a map and its copy both grow and shrink, whatever room stands behind their lists.
func TestCopiesGrow(t *testing.T) {
	for size := range 20 {
		m, plain := New[int, int](), map[int]int{}
		for i := range size {
			m.Put(i, i)
			plain[i] = i
		}
		if size > 2 {
			m.Delete(size - 1)
			delete(plain, size-1)
		}
		a, b := m.Copy(), m.Copy()
		aPlain, bPlain := maps.Clone(plain), maps.Clone(plain)
		for i := range 5 {
			m.Put(100+i, 1)
			plain[100+i] = 1
			a.Put(200+i, 2)
			aPlain[200+i] = 2
			b.Put(-i, 3)
			bPlain[-i] = 3
			same(t, m, plain, 100+i, 200+i, -i)
			same(t, a, aPlain, 100+i, 200+i, -i)
			same(t, b, bPlain, 100+i, 200+i, -i)
		}
	}
}

// P5.1: a copy that is made while the map is gone through is as the map is then.
func TestCopyOnTheWay(t *testing.T) {
	m := of(1, 2, 3)
	var c *Map[int, int]
	for k := range m.All() {
		m.Delete(k)
		if k == 2 {
			c = m.Copy()
		}
	}
	same(t, c, map[int]int{3: 2}, 1, 2, 3)
	same(t, m, nil, 1, 2, 3)
}

// orders hands on all orders of keys.
func orders(keys []string, told func([]string)) {
	var try func(n int)
	try = func(n int) {
		if n == len(keys) {
			told(keys)
			return
		}
		for i := n; i < len(keys); i++ {
			keys[n], keys[i] = keys[i], keys[n]
			try(n + 1)
			keys[n], keys[i] = keys[i], keys[n]
		}
	}
	try(0)
}

// P5.3: the same keys, put in all orders, are the same map.
func TestAnyOrder(t *testing.T) {
	plain := map[string]int{"": 0, "\x00": 1, "a": 2, "ab": 3, "b": 4, "\xff": 5}
	keys := slices.Sorted(maps.Keys(plain))
	asked := append([]string{"\x00\x00", "aa", "c", "\xff\xff"}, keys...)
	orders(keys, func(keys []string) {
		m := New[string, int]()
		for _, k := range keys {
			if !m.Put(k, plain[k]) {
				t.Fatalf("%q: Put of %q: false", keys, k)
			}
		}
		same(t, m, plain, asked...)
	})
}

// P5.3: many keys, put rising, falling, and mixed, some of them twice or deleted between.
func TestManyOrders(t *testing.T) {
	const many = 1000
	plain := map[uint32]string{}
	var rising []uint32
	for i := range uint32(many) {
		k := 2 * i * i
		rising = append(rising, k)
		plain[k] = string(rune('a' + i%26))
	}
	falling := slices.Clone(rising)
	slices.Reverse(falling)
	all := [][]uint32{rising, falling}
	for seed := range int64(5) {
		mixed := slices.Clone(rising)
		rand.New(rand.NewSource(seed)).Shuffle(many, func(i, j int) { mixed[i], mixed[j] = mixed[j], mixed[i] })
		all = append(all, mixed)
	}
	for _, keys := range all {
		m := New[uint32, string]()
		for i, k := range keys {
			m.Put(k, "wrong")
			if i%3 == 0 {
				m.Delete(k)
			}
			m.Put(k+1, "too much")
			m.Put(k, plain[k])
			m.Delete(k + 1)
		}
		same(t, m, plain, 0, 1, 2, 3, 8, 500, 2*999*999, 2*999*999+1, math.MaxUint32)
	}
}

// P5.1: values that are lists, also nil ones; a key that is deleted has none any more.
func TestListsAsValues(t *testing.T) {
	m := New[string, []int]()
	m.Put("a", []int{1, 2})
	m.Put("b", nil)
	m.Put("c", []int{})
	if v, ok := m.Get("a"); !slices.Equal(v, []int{1, 2}) || !ok {
		t.Errorf("Get of a: %v %v", v, ok)
	}
	if v, ok := m.Get("b"); v != nil || !ok {
		t.Errorf("Get of b: %v %v", v, ok)
	}
	m.Delete("a")
	if v, ok := m.Get("a"); v != nil || ok {
		t.Errorf("Get of a behind its Delete: %v %v", v, ok)
	}
	if k, v, ok := m.At(2); k != "" || v != nil || ok {
		t.Errorf("At behind the last: %q %v %v", k, v, ok)
	}
}

// P0.5: asking changes nothing: the same again is answered the same, and maps know nothing of each other.
func TestAgain(t *testing.T) {
	m, other := of("b", "a", "c"), of("x")
	for range 3 {
		same(t, m, map[string]int{"b": 0, "a": 1, "c": 2}, "", "a", "b", "bb", "c", "d")
		same(t, other, map[string]int{"x": 0}, "a", "x")
		for range m.From("b") {
			break
		}
		m.Copy().Delete("b")
	}
}
