package tests

import (
	"slices"
	"strings"
	"testing"

	"loop.example/g00950/impl"
)

func setOp(key string, val string) impl.Op { return impl.Op{Key: key, Val: val} }

func delOp(key string) impl.Op { return impl.Op{Key: key, Del: true} }

func opsFor(ops ...impl.Op) []impl.Op { return ops }

// mapFor returns a map with these keys, each with a value of its own.
func mapFor(keys ...string) []impl.KV {
	var m []impl.KV
	for _, key := range keys {
		m = append(m, impl.KV{Key: key, Val: "old " + key})
	}
	return m
}

// numbered returns this many texts of two bytes, in order.
func numbered(count int) []string {
	var list []string
	for i := range count {
		list = append(list, string([]byte{byte('a' + i/10), byte('0' + i%10)}))
	}
	return list
}

// repeatOp returns a batch of this many operations, each of another key.
func repeatOp(count int) []impl.Op {
	var l []impl.Op
	for _, key := range numbered(count) {
		l = append(l, setOp(key, "new "+key))
	}
	return l
}

func validMaps() [][]impl.KV {
	return [][]impl.KV{
		nil,
		{},
		mapFor("a"),
		mapFor("a", "b"),
		mapFor("a", "ab", "abc", "b", "ba"),
		mapFor("\x00", "\x00\x00", "\x01", "\x7f", "\x80", "\xff", "\xff\x00", "\xff\xff"),
		{{Key: "a"}, {Key: "b"}},
		{{Key: "same", Val: "value"}, {Key: "samf", Val: "value"}},
		{{Key: "1234567890", Val: "1234567890123456"}, {Key: "1234567891", Val: ""}},
		{{Key: strings.Repeat("\x00", 10), Val: strings.Repeat("\x00", 16)}, {Key: strings.Repeat("\xff", 10), Val: strings.Repeat("\xff", 16)}},
		// Lengths count bytes: five runes of two bytes are 10.
		{{Key: strings.Repeat("\u00e9", 5), Val: strings.Repeat("\u00e9", 8)}},
		mapFor(numbered(200)...),
	}
}

// invalidMaps lists maps of which each is invalid for one reason.
func invalidMaps() [][]impl.KV {
	return [][]impl.KV{
		{{Key: "", Val: "x"}},
		{{Key: ""}},
		{{Key: "12345678901"}},
		{{Key: strings.Repeat("k", 100)}},
		{{Key: "a", Val: "12345678901234567"}},
		{{Key: "a", Val: strings.Repeat("v", 100)}},
		{{Key: strings.Repeat("\u00e9", 6)}},
		{{Key: "a", Val: strings.Repeat("\u00e9", 9)}},
		mapFor("", "a"),
		mapFor("a", "b", "12345678901"),
		{{Key: "a"}, {Key: "b", Val: "12345678901234567"}, {Key: "c"}},
		mapFor("b", "a"),
		mapFor("a", "c", "b"),
		mapFor("b", "a", "c"),
		mapFor("a", "a"),
		{{Key: "a", Val: "1"}, {Key: "a", Val: "2"}},
		mapFor("a", "b", "b", "c"),
		mapFor("a", "b", "a"),
		mapFor("ab", "a"),
		mapFor("\xff", "\x00"),
		mapFor("\x80", "\x7f"),
		mapFor("\x00\x00", "\x00"),
		mapFor("a", "B"),
	}
}

func validBatches() [][]impl.Op {
	return [][]impl.Op{
		{setOp("a", "x")},
		{setOp("a", "")},
		{delOp("a")},
		{setOp("a", "x"), delOp("b")},
		{delOp("a"), delOp("a"), delOp("b")},
		{setOp("a", "1"), setOp("a", "2"), setOp("a", "3")},
		{setOp("1234567890", "1234567890123456"), delOp("1234567890")},
		{setOp("\x00", "\x00"), delOp("\xff"), setOp("\xff\x00", "\xff"), delOp("\x00")},
		{setOp(strings.Repeat("\u00e9", 5), strings.Repeat("\u00e9", 8))},
		repeatOp(5),
		repeatOp(6),
		{delOp("a"), delOp("b"), delOp("c"), delOp("d"), delOp("e"), delOp("f")},
		{delOp("a"), setOp("a", "1"), delOp("a"), setOp("a", "2"), delOp("ab")},
	}
}

// invalidBatches lists batches of which each is invalid for one reason.
func invalidBatches() [][]impl.Op {
	return [][]impl.Op{
		nil,
		{},
		repeatOp(7),
		repeatOp(8),
		repeatOp(100),
		make([]impl.Op, 1),
		{setOp("", "x")},
		{delOp("")},
		{setOp("12345678901", "x")},
		{delOp("12345678901")},
		{setOp(strings.Repeat("k", 100), "x")},
		{setOp(strings.Repeat("\u00e9", 6), "x")},
		{setOp("a", "12345678901234567")},
		{setOp("a", strings.Repeat("v", 100))},
		{setOp("a", strings.Repeat("\u00e9", 9))},
		{{Key: "a", Del: true, Val: "x"}},
		{{Key: "a", Del: true, Val: "\x00"}},
		{{Key: "a", Del: true, Val: "1234567890123456"}},
		{{Key: "a", Del: true, Val: "12345678901234567"}},
		{setOp("a", "x"), setOp("", "x")},
		{setOp("", "x"), setOp("a", "x")},
		{setOp("a", "x"), setOp("b", "x"), setOp("12345678901", "x"), setOp("c", "x")},
		append(repeatOp(5), impl.Op{Key: "z", Del: true, Val: "x"}),
		append(repeatOp(5), setOp("z", "12345678901234567")),
	}
}

// plainApply executes operations on a map of Go and sorts its keys by their bytes; it knows no limits.
func plainApply(m []impl.KV, l []impl.Op) []impl.KV {
	held := map[string]string{}
	for _, kv := range m {
		held[kv.Key] = kv.Val
	}
	for _, op := range l {
		if op.Del {
			delete(held, op.Key)
		} else {
			held[op.Key] = op.Val
		}
	}
	var out []impl.KV
	for key, val := range held {
		out = append(out, impl.KV{Key: key, Val: val})
	}
	slices.SortFunc(out, func(a, b impl.KV) int { return slices.Compare([]byte(a.Key), []byte(b.Key)) })
	return out
}

func checkMap(t *testing.T, what string, got []impl.KV, gotOk bool, want []impl.KV, wantOk bool) {
	t.Helper()
	if gotOk != wantOk || !slices.Equal(got, want) {
		t.Errorf("%s = %q, %v, want %q, %v", what, got, gotOk, want, wantOk)
	}
}

func checkApply(t *testing.T, m []impl.KV, l []impl.Op, want []impl.KV, wantOk bool) {
	t.Helper()
	if got, ok := impl.ApplyBatch(m, l); ok != wantOk || !slices.Equal(got, want) {
		t.Errorf("ApplyBatch(%q, %#v) = %q, %v, want %q, %v", m, l, got, ok, want, wantOk)
	}
}

// checkOneByOne holds a batch against one call for each of its operations, and against the tests' own way.
func checkOneByOne(t *testing.T, m []impl.KV, l []impl.Op) {
	t.Helper()
	got, ok := impl.ApplyBatch(m, l)
	single := m
	for i := range l {
		next, nextOk := impl.ApplyBatch(single, l[i:i+1])
		if !nextOk {
			t.Fatalf("ApplyBatch(%q, %#v) refuses", single, l[i:i+1])
		}
		single = next
	}
	if !ok || !slices.Equal(got, single) || !slices.Equal(got, plainApply(m, l)) || !impl.MapOk(got) {
		t.Fatalf("ApplyBatch(%q, %#v) = %q, %v; one by one %q, want %q", m, l, got, ok, single, plainApply(m, l))
	}
}

func TestApplyBatchOfFixedExamples(t *testing.T) {
	for _, c := range []struct {
		m    []impl.KV
		l    []impl.Op
		want []impl.KV
	}{
		{nil, opsFor(setOp("a", "1")), []impl.KV{{Key: "a", Val: "1"}}},
		{nil, opsFor(setOp("a", "")), []impl.KV{{Key: "a", Val: ""}}},
		{nil, opsFor(delOp("a")), nil},
		{[]impl.KV{{Key: "a", Val: "0"}}, opsFor(delOp("a")), nil},
		{[]impl.KV{{Key: "a", Val: "0"}}, opsFor(setOp("a", "1")), []impl.KV{{Key: "a", Val: "1"}}},
		{[]impl.KV{{Key: "a", Val: "0"}}, opsFor(setOp("a", "")), []impl.KV{{Key: "a", Val: ""}}},
		{[]impl.KV{{Key: "b", Val: "0"}}, opsFor(setOp("c", "3"), setOp("a", "1")), []impl.KV{{Key: "a", Val: "1"}, {Key: "b", Val: "0"}, {Key: "c", Val: "3"}}},
		{[]impl.KV{{Key: "a", Val: "0"}, {Key: "b", Val: "0"}, {Key: "c", Val: "0"}}, opsFor(delOp("b"), setOp("c", "1")), []impl.KV{{Key: "a", Val: "0"}, {Key: "c", Val: "1"}}},
		{nil, opsFor(setOp("f", "6"), setOp("e", "5"), setOp("d", "4"), setOp("c", "3"), setOp("b", "2"), setOp("a", "1")),
			[]impl.KV{{Key: "a", Val: "1"}, {Key: "b", Val: "2"}, {Key: "c", Val: "3"}, {Key: "d", Val: "4"}, {Key: "e", Val: "5"}, {Key: "f", Val: "6"}}},
	} {
		checkApply(t, c.m, c.l, c.want, true)
	}
}

func TestABatchWithAKeyTwice(t *testing.T) {
	one, two := setOp("k", "1"), setOp("k", "2")
	gone := delOp("k")
	for _, c := range []struct {
		l    []impl.Op
		held bool
		val  string
	}{
		{opsFor(one, two), true, "2"},
		{opsFor(two, one), true, "1"},
		{opsFor(one, one), true, "1"},
		{opsFor(one, gone), false, ""},
		{opsFor(gone, one), true, "1"},
		{opsFor(gone, gone), false, ""},
		{opsFor(one, gone, two), true, "2"},
		{opsFor(gone, one, gone), false, ""},
		{opsFor(one, two, gone), false, ""},
		{opsFor(gone, one, two), true, "2"},
		{opsFor(one, setOp("k", "")), true, ""},
		{opsFor(one, gone, one, gone, one, gone), false, ""},
		{opsFor(gone, one, gone, one, gone, two), true, "2"},
		{opsFor(one, two, one, two, one, two), true, "2"},
	} {
		for _, others := range [][]string{nil, {"a"}, {"z"}, {"a", "z"}, {"K", "j", "k\x00", "ka", "l"}} {
			want := mapFor(others...)
			if c.held {
				want = append(want, impl.KV{Key: "k", Val: c.val})
			}
			want = plainApply(want, nil)
			checkApply(t, mapFor(others...), c.l, want, true)
			with := plainApply(mapFor(append(others, "k")...), nil)
			checkApply(t, with, c.l, want, true)
		}
	}
}

func TestABatchWithAKeyTwiceAmongOthers(t *testing.T) {
	m := mapFor("b", "d")
	for _, key := range []string{"a", "b", "c", "d", "e"} {
		for _, other := range []string{"a", "b", "c", "d", "e"} {
			for _, first := range opsFor(setOp(key, "1"), delOp(key)) {
				for _, between := range opsFor(setOp(other, "2"), delOp(other)) {
					for _, last := range opsFor(setOp(key, "3"), delOp(key)) {
						checkOneByOne(t, m, opsFor(first, between, last))
						checkOneByOne(t, m, opsFor(first, last, between))
						checkOneByOne(t, m, opsFor(between, first, last, between))
					}
				}
			}
		}
	}
}

func TestDelOfAKeyThatIsNotContained(t *testing.T) {
	for _, m := range validMaps() {
		held := map[string]bool{}
		for _, kv := range m {
			held[kv.Key] = true
		}
		for _, key := range []string{"\x00", "\x00\x00", "\x01", "A", "a", "a\x00", "aa", "ab", "abc", "abd", "b", "c", "z", "\xfe", "\xff", "\xff\xff", "old a", "1234567890", "old 1"} {
			if held[key] {
				continue
			}
			checkApply(t, m, opsFor(delOp(key)), m, true)
			checkApply(t, m, opsFor(delOp(key), delOp(key)), m, true)
			checkApply(t, m, opsFor(setOp(key, "x"), delOp(key)), m, true)
		}
	}
}

func TestDelOfAKeyThatIsContained(t *testing.T) {
	for _, m := range validMaps() {
		for i, kv := range m {
			want := slices.Concat(m[:i], m[i+1:])
			checkApply(t, m, opsFor(delOp(kv.Key)), want, true)
			checkApply(t, want, opsFor(setOp(kv.Key, kv.Val)), m, true)
			checkApply(t, m, opsFor(delOp(kv.Key), setOp(kv.Key, kv.Val)), m, true)
		}
	}
}

func TestAKeyThatIsSetAnewKeepsItsPlace(t *testing.T) {
	for _, m := range validMaps() {
		for i, kv := range m {
			for _, val := range []string{"", "x", kv.Val, "1234567890123456"} {
				want := slices.Clone(m)
				want[i].Val = val
				checkApply(t, m, opsFor(setOp(kv.Key, val)), want, true)
			}
		}
	}
}

// The keys are listed in the order that the document asks for: byte by byte, a proper prefix first.
func TestKeysAreOrderedByteByByte(t *testing.T) {
	keys := []string{
		"\x00", "\x00\x00", "\x00\x00\x00", "\x00\x01", "\x00\xff", "\x01", "\x01\x00", "0", "00", "1", "10", "2", "A", "Z", "a", "a\x00", "a\x00\x00", "a\x00a", "aB", "aa", "aaa",
		"ab", "a\x7f", "a\x80", "a\xff", "a\xff\xff", "b", "\x7f", "\x7f\xff", "\x80", "\u00e9", "\xfe", "\xff", "\xff\x00", "\xff\xff", strings.Repeat("\xff", 10),
	}
	if !impl.MapOk(mapFor(keys...)) {
		t.Errorf("MapOk refuses %q", keys)
	}
	var m []impl.KV
	for i := range keys {
		// 17 has no divisor in common with the number of keys, so this takes each of them once.
		key := keys[i*17%len(keys)]
		next, ok := impl.ApplyBatch(m, opsFor(setOp(key, "old "+key)))
		if !ok || !impl.MapOk(next) {
			t.Fatalf("ApplyBatch(%q, set %q) = %q, %v", m, key, next, ok)
		}
		m = next
	}
	if !slices.Equal(m, mapFor(keys...)) {
		t.Errorf("the keys are in the order %q", m)
	}
	for i, first := range keys {
		for j, second := range keys {
			want := mapFor(keys[min(i, j)], keys[max(i, j)])
			if i == j {
				want = mapFor(first)
			}
			checkApply(t, nil, opsFor(setOp(first, "old "+first), setOp(second, "old "+second)), want, true)
			if got := impl.MapOk(mapFor(first, second)); got != (i < j) {
				t.Errorf("MapOk of the keys %q and %q is %v", first, second, got)
			}
		}
	}
}

// allBatches returns all batches of this many of the operations.
func allBatches(ops []impl.Op, count int) [][]impl.Op {
	all := [][]impl.Op{nil}
	for range count {
		var next [][]impl.Op
		for _, l := range all {
			for _, op := range ops {
				next = append(next, append(slices.Clone(l), op))
			}
		}
		all = next
	}
	return all
}

func TestABatchHasTheEffectOfItsOperations(t *testing.T) {
	var ops []impl.Op
	for _, key := range []string{"a", "ab", "b"} {
		ops = append(ops, setOp(key, ""), setOp(key, "new"), delOp(key))
	}
	maps := [][]impl.KV{nil, mapFor("a"), mapFor("ab"), mapFor("b"), mapFor("a", "ab"), mapFor("a", "b"), mapFor("ab", "b"), mapFor("a", "ab", "b"), mapFor("A", "a\x00", "aa", "c")}
	for count := 1; count <= 4; count++ {
		for _, l := range allBatches(ops, count) {
			for _, m := range maps {
				checkOneByOne(t, m, l)
			}
		}
	}
	few := opsFor(setOp("a", "1"), delOp("a"), setOp("b", "2"), delOp("b"))
	for count := 5; count <= 6; count++ {
		for _, l := range allBatches(few, count) {
			for _, m := range maps {
				checkOneByOne(t, m, l)
			}
		}
	}
}

// dice returns numbers that only depend on the seed, so that a failure is seen again.
func dice(seed uint32) func(below int) int {
	return func(below int) int {
		seed = seed*1664525 + 1013904223
		return int(seed>>8) % below
	}
}

func thrownBatch(throw func(below int) int, keys []string) []impl.Op {
	var l []impl.Op
	for range 1 + throw(impl.MaxOps) {
		key := keys[throw(len(keys))]
		if throw(3) == 0 {
			l = append(l, delOp(key))
		} else {
			l = append(l, setOp(key, strings.Repeat(string([]byte{byte(throw(256))}), throw(impl.MaxVal+1))))
		}
	}
	return l
}

func TestManyBatchesHaveTheEffectOfTheirOperations(t *testing.T) {
	throw := dice(7)
	keys := append(allStrings("\x00a\xff", 3)[1:], "1234567890", strings.Repeat("\x00", 10), strings.Repeat("\xff", 10))
	for range 40 {
		var m, want []impl.KV
		for range 100 {
			l := thrownBatch(throw, keys)
			checkOneByOne(t, m, l)
			next, ok := impl.ApplyBatch(m, l)
			want = plainApply(want, l)
			checkMap(t, "the map after some batches", next, ok, want, true)
			m = next
		}
	}
}

func TestBatchesOnALargeMap(t *testing.T) {
	var keys []string
	for i := range 3000 {
		keys = append(keys, impl.Fixed(2*i, 3))
	}
	m := mapFor(keys...)
	for _, at := range []int{0, 1, 1499, 2998, 2999} {
		want := slices.Clone(m)
		want[at].Val = "new"
		between := impl.KV{Key: impl.Fixed(2*at+1, 3), Val: "between"}
		want = slices.Insert(want, at+1, between)
		checkApply(t, m, opsFor(setOp(keys[at], "new"), setOp(between.Key, "between")), want, true)
	}
}

func TestBatchOkAtItsLimits(t *testing.T) {
	for count := range 20 {
		if got, want := impl.BatchOk(repeatOp(count)), count >= 1 && count <= 6; got != want {
			t.Errorf("BatchOk of %d operations is %v", count, got)
		}
	}
	for keyLength := range 30 {
		for valLength := range 40 {
			for _, del := range []bool{false, true} {
				op := impl.Op{Key: strings.Repeat("k", keyLength), Del: del, Val: strings.Repeat("\x00", valLength)}
				want := keyLength >= 1 && keyLength <= 10 && valLength <= 16 && !(del && valLength > 0)
				for at := range 6 {
					l := repeatOp(6)
					l[at] = op
					if got := impl.BatchOk(l); got != want {
						t.Errorf("BatchOk with a key of %d bytes, Del %v and a value of %d bytes at %d is %v", keyLength, del, valLength, at, got)
					}
				}
				if got := impl.BatchOk(opsFor(op)); got != want {
					t.Errorf("BatchOk of a key of %d bytes, Del %v and a value of %d bytes is %v", keyLength, del, valLength, got)
				}
			}
		}
	}
}

func TestBatchOk(t *testing.T) {
	for _, l := range validBatches() {
		if !impl.BatchOk(l) {
			t.Errorf("BatchOk(%#v) is false", l)
		}
	}
	for _, l := range invalidBatches() {
		if impl.BatchOk(l) {
			t.Errorf("BatchOk(%#v) is true", l)
		}
	}
}

func TestMapOkAtItsLimits(t *testing.T) {
	for keyLength := range 30 {
		for valLength := range 40 {
			kv := impl.KV{Key: strings.Repeat("k", keyLength), Val: strings.Repeat("\x00", valLength)}
			want := keyLength >= 1 && keyLength <= 10 && valLength <= 16
			for _, m := range [][]impl.KV{{kv}, {kv, {Key: "z"}}} {
				if got := impl.MapOk(m); got != want {
					t.Errorf("MapOk with a key of %d bytes and a value of %d bytes ahead is %v", keyLength, valLength, got)
				}
			}
			// An empty key would not be in order behind another one, so it is refused in any case.
			if got := impl.MapOk([]impl.KV{{Key: "A"}, kv}); got != want {
				t.Errorf("MapOk with a key of %d bytes and a value of %d bytes behind is %v", keyLength, valLength, got)
			}
			if got := impl.MapOk([]impl.KV{{Key: "A"}, kv, {Key: "z"}}); got != want {
				t.Errorf("MapOk with a key of %d bytes and a value of %d bytes between is %v", keyLength, valLength, got)
			}
		}
	}
}

func TestMapOk(t *testing.T) {
	for _, m := range validMaps() {
		if !impl.MapOk(m) {
			t.Errorf("MapOk(%q) is false", m)
		}
	}
	for _, m := range invalidMaps() {
		if impl.MapOk(m) {
			t.Errorf("MapOk(%q) is true", m)
		}
	}
	// Each pair of neighbours exchanged, and each key twice.
	for at := range 9 {
		m := mapFor(numbered(10)...)
		m[at], m[at+1] = m[at+1], m[at]
		if impl.MapOk(m) {
			t.Errorf("MapOk with %d and %d exchanged is true", at, at+1)
		}
		m = mapFor(numbered(10)...)
		m[at].Key = m[at+1].Key
		if impl.MapOk(m) {
			t.Errorf("MapOk with the key of %d twice is true", at)
		}
	}
}

func TestApplyBatchWithAnInvalidBatch(t *testing.T) {
	for _, m := range validMaps() {
		for _, l := range invalidBatches() {
			checkApply(t, m, l, m, false)
		}
	}
}

func TestApplyBatchWithAnInvalidMap(t *testing.T) {
	for _, m := range invalidMaps() {
		for _, l := range validBatches() {
			checkApply(t, m, l, nil, false)
		}
		// Operations that would leave a valid map do not help.
		for _, kv := range m {
			if len(kv.Key) >= 1 && len(kv.Key) <= 10 {
				checkApply(t, m, opsFor(delOp(kv.Key)), nil, false)
				checkApply(t, m, opsFor(setOp(kv.Key, "x")), nil, false)
			}
		}
	}
}

// The document lists the invalid batch first, and what is listed first takes precedence.
func TestApplyBatchWithBothInvalid(t *testing.T) {
	for _, m := range invalidMaps() {
		for _, l := range invalidBatches() {
			checkApply(t, m, l, m, false)
		}
	}
}

func TestBytes(t *testing.T) {
	for _, c := range []struct {
		m    []impl.KV
		want int
	}{
		{nil, 0},
		{[]impl.KV{}, 0},
		{[]impl.KV{{Key: "a"}}, 1},
		{[]impl.KV{{Key: "a", Val: "12"}}, 3},
		{[]impl.KV{{Key: "a", Val: "12"}, {Key: "bcd", Val: ""}}, 6},
		{[]impl.KV{{Key: "1234567890", Val: "1234567890123456"}}, 26},
		{[]impl.KV{{Key: "\u00e9", Val: "\x00\xff"}}, 4},
		{mapFor(numbered(200)...), 200 * (2 + 6)},
	} {
		if got := impl.Bytes(c.m); got != c.want {
			t.Errorf("Bytes(%q) = %d, want %d", c.m, got, c.want)
		}
	}
	for _, m := range validMaps() {
		want := 0
		for _, kv := range m {
			want += len(kv.Key + kv.Val)
		}
		if got := impl.Bytes(m); got != want {
			t.Errorf("Bytes(%q) = %d, want %d", m, got, want)
		}
	}
	for _, m := range invalidMaps() {
		if got := impl.Bytes(m); got != 0 {
			t.Errorf("Bytes(%q) = %d, want 0", m, got)
		}
	}
}

// wideKVs returns a list with these elements and further ones in its unused capacity.
func wideKVs(m []impl.KV) (list []impl.KV, whole []impl.KV) {
	whole = slices.Concat(m, mapFor(numbered(20)...))
	return whole[:len(m)], whole
}

func wideOps(l []impl.Op) (list []impl.Op, whole []impl.Op) {
	whole = slices.Concat(l, repeatOp(20))
	return whole[:len(l)], whole
}

// scribbleKVs writes over a list and its unused capacity.
func scribbleKVs(m []impl.KV) {
	m = m[:cap(m)]
	for i := range m {
		m[i] = impl.KV{Key: "scribble", Val: "written over"}
	}
}

func scribbleOps(l []impl.Op) {
	l = l[:cap(l)]
	for i := range l {
		l[i] = impl.Op{Key: "scribble", Val: "written over"}
	}
}

func TestBatchFunctionsLeaveTheirArguments(t *testing.T) {
	for _, m := range append(validMaps(), invalidMaps()...) {
		for _, l := range append(validBatches(), invalidBatches()...) {
			list, whole := wideKVs(m)
			ops, wholeOps := wideOps(l)
			before, beforeOps := slices.Clone(whole), slices.Clone(wholeOps)
			impl.BatchOk(ops)
			impl.MapOk(list)
			impl.Bytes(list)
			impl.ShowBatch(ops)
			first, _ := impl.ApplyBatch(list, ops)
			second, _ := impl.ApplyBatch(list, ops)
			if !slices.Equal(whole, before) || !slices.Equal(wholeOps, beforeOps) {
				t.Fatalf("a call with %q and %#v wrote into its arguments", m, l)
			}
			kept := slices.Clone(second)
			scribbleKVs(first)
			if !slices.Equal(whole, before) || !slices.Equal(wholeOps, beforeOps) {
				t.Fatalf("writing into the result of ApplyBatch(%q, %#v) changed an argument", m, l)
			}
			if !slices.Equal(second, kept) {
				t.Fatalf("two results of ApplyBatch(%q, %#v) share memory", m, l)
			}
			scribbleKVs(list)
			scribbleOps(ops)
			if !slices.Equal(second, kept) {
				t.Fatalf("writing into the arguments of ApplyBatch(%q, %#v) changed its result", m, l)
			}
		}
	}
}

func TestReadBatchReturnsNewMemory(t *testing.T) {
	for _, l := range validBatches() {
		s := impl.ShowBatch(l)
		first, _ := impl.ReadBatch(s)
		scribbleOps(first)
		checkBatch(t, s, l)
	}
}

func TestNilAndEmptyAreTheSame(t *testing.T) {
	empty := make([]impl.KV, 0, 4)
	if !impl.MapOk(nil) || !impl.MapOk(empty) || impl.BatchOk(nil) || impl.BatchOk(make([]impl.Op, 0, 4)) {
		t.Error("a nil and an empty list differ")
	}
	for _, l := range validBatches() {
		fromNil, nilOk := impl.ApplyBatch(nil, l)
		fromEmpty, emptyOk := impl.ApplyBatch(empty, l)
		checkMap(t, "ApplyBatch of an empty list", fromEmpty, emptyOk, fromNil, nilOk)
	}
	checkApply(t, nil, nil, nil, false)
	checkApply(t, empty, nil, nil, false)
	checkApply(t, mapFor("a"), make([]impl.Op, 0, 4), mapFor("a"), false)
	if impl.ShowBatch(make([]impl.Op, 0, 4)) != "" {
		t.Error("ShowBatch of an empty list is not empty")
	}
}

func TestBatchFunctionsKeepNoState(t *testing.T) {
	m, l := mapFor("a", "b"), opsFor(setOp("c", "1"), delOp("a"))
	want, _ := impl.ApplyBatch(m, l)
	s := impl.ShowBatch(l)
	for range 3 {
		impl.ApplyBatch(mapFor("b", "a"), l)
		impl.ApplyBatch(m, nil)
		impl.ApplyBatch(mapFor("x"), repeatOp(6))
		impl.ReadBatch("\x06")
		checkApply(t, m, l, want, true)
		checkBatch(t, s, l)
	}
}

// spelling is a format with the ways to spell it wrongly. Its lengths are those of the texts unless they are replaced.
type spelling struct {
	count    int
	ops      []impl.Op
	marks    []byte
	longer   int // the position of the number that gets superfluous bytes, from 1 on; 0 for none
	extra    int // how many superfluous bytes
	replaced int // the position of the number that is replaced, from 1 on; 0 for none
	by       int
}

// hasVal tells which operations are spelled with their value: one that is deleted has none to spell, unless it is invalid.
func hasVal(op impl.Op) bool { return !op.Del || op.Val != "" }

// numbers returns how many numbers the spelling holds.
func (p spelling) numbers() int {
	count := 1
	for _, op := range p.ops {
		count++
		if hasVal(op) {
			count++
		}
	}
	return count
}

func spellingOf(l []impl.Op) spelling {
	p := spelling{count: len(l), ops: l}
	for _, op := range l {
		mark := byte(0)
		if op.Del {
			mark = 1
		}
		p.marks = append(p.marks, mark)
	}
	return p
}

func (p spelling) text() string {
	at := 0
	number := func(n int) string {
		at++
		if at == p.replaced {
			n = p.by
		}
		if at == p.longer {
			return plainVar(n, p.extra)
		}
		return plainVar(n, 0)
	}
	out := number(p.count)
	for i, op := range p.ops {
		out += string([]byte{p.marks[i]}) + number(len(op.Key)) + op.Key
		if hasVal(op) {
			out += number(len(op.Val)) + op.Val
		}
	}
	return out
}

func checkBatch(t *testing.T, s string, want []impl.Op) {
	t.Helper()
	if got, ok := impl.ReadBatch(s); !ok || !slices.Equal(got, want) {
		t.Errorf("ReadBatch(%q) = %#v, %v, want %#v, true", s, got, ok, want)
	}
}

func checkNoBatch(t *testing.T, what string, s string) {
	t.Helper()
	if got, ok := impl.ReadBatch(s); ok || len(got) != 0 {
		t.Errorf("%s: ReadBatch(%q) = %#v, %v, want nothing, false", what, s, got, ok)
	}
}

func TestShowBatchOfFixedExamples(t *testing.T) {
	for _, c := range []struct {
		l    []impl.Op
		want []byte
	}{
		{opsFor(setOp("a", "x")), []byte{1, 0, 1, 'a', 1, 'x'}},
		{opsFor(setOp("a", "")), []byte{1, 0, 1, 'a', 0}},
		{opsFor(delOp("a")), []byte{1, 1, 1, 'a'}},
		{opsFor(setOp("ab", "xyz"), delOp("cde"), setOp("f", "")), []byte{3, 0, 2, 'a', 'b', 3, 'x', 'y', 'z', 1, 3, 'c', 'd', 'e', 0, 1, 'f', 0}},
		{opsFor(delOp("b"), delOp("b"), setOp("b", "b")), []byte{3, 1, 1, 'b', 1, 1, 'b', 0, 1, 'b', 1, 'b'}},
		{opsFor(setOp("\x00\xff", "\xff\x00")), []byte{1, 0, 2, 0, 255, 2, 255, 0}},
		{opsFor(delOp("\u00e9")), []byte{1, 1, 2, 0xc3, 0xa9}},
		{opsFor(setOp("1234567890", "1234567890123456")), []byte("\x01\x00\x0a1234567890\x101234567890123456")},
		{opsFor(delOp("1"), delOp("2"), delOp("3"), delOp("4"), delOp("5"), delOp("6")), []byte("\x06\x01\x011\x01\x012\x01\x013\x01\x014\x01\x015\x01\x016")},
	} {
		if got := impl.ShowBatch(c.l); got != string(c.want) {
			t.Errorf("ShowBatch(%#v) = %q, want %q", c.l, got, c.want)
		}
		checkBatch(t, string(c.want), c.l)
	}
}

func TestReadBatchReadsWhatShowBatchWrites(t *testing.T) {
	for _, l := range validBatches() {
		s := impl.ShowBatch(l)
		if s == "" || s != spellingOf(l).text() {
			t.Errorf("ShowBatch(%#v) = %q, want %q", l, s, spellingOf(l).text())
		}
		checkBatch(t, s, l)
	}
	throw := dice(11)
	keys := append(allStrings("\x00\x01a\xff", 3)[1:], "1234567890", strings.Repeat("\x00", 10))
	for range 20000 {
		l := thrownBatch(throw, keys)
		s := impl.ShowBatch(l)
		if s != spellingOf(l).text() {
			t.Fatalf("ShowBatch(%#v) = %q, want %q", l, s, spellingOf(l).text())
		}
		checkBatch(t, s, l)
	}
	for keyLength := 1; keyLength <= 10; keyLength++ {
		checkBatch(t, impl.ShowBatch(opsFor(delOp(strings.Repeat("k", keyLength)))), opsFor(delOp(strings.Repeat("k", keyLength))))
		for valLength := range 17 {
			l := opsFor(setOp(strings.Repeat("k", keyLength), strings.Repeat("\x01", valLength)))
			checkBatch(t, spellingOf(l).text(), l)
		}
	}
}

func TestShowBatchOfInvalidBatches(t *testing.T) {
	for _, l := range invalidBatches() {
		if got := impl.ShowBatch(l); got != "" {
			t.Errorf("ShowBatch(%#v) = %q, want nothing", l, got)
		}
	}
}

// The strings here spell out the invalid batches as if there were no limits, so that only the limits can refuse them.
func TestReadBatchOfInvalidBatches(t *testing.T) {
	for _, l := range invalidBatches() {
		checkNoBatch(t, "an invalid batch", spellingOf(l).text())
	}
	for _, op := range opsFor(setOp("", "x"), delOp(""), setOp("12345678901", "x"), delOp("12345678901"), setOp("a", "12345678901234567"), setOp("a", strings.Repeat("v", 128)), delOp(strings.Repeat("k", 300))) {
		for at := range 6 {
			l := repeatOp(6)
			l[at] = op
			checkNoBatch(t, "a length beyond the limits", spellingOf(l).text())
		}
	}
}

func TestReadBatchCutShortOrWithMoreBehind(t *testing.T) {
	for _, l := range validBatches() {
		s := spellingOf(l).text()
		for size := range len(s) {
			checkNoBatch(t, "cut short", s[:size])
		}
		for b := range 256 {
			checkNoBatch(t, "a byte behind its end", s+string([]byte{byte(b)}))
		}
		for _, more := range validBatches() {
			checkNoBatch(t, "another batch behind its end", s+spellingOf(more).text())
			checkNoBatch(t, "more operations than it says", s+spellingOf(more).text()[1:])
		}
		checkNoBatch(t, "a long string behind its end", s+strings.Repeat("\x00", 100000))
	}
	checkNoBatch(t, "the empty string", "")
}

func TestReadBatchWithASuperfluousByte(t *testing.T) {
	for _, l := range validBatches() {
		p := spellingOf(l)
		for p.longer = 1; p.longer <= p.numbers(); p.longer++ {
			for p.extra = 1; p.extra <= 9; p.extra++ {
				checkNoBatch(t, "a longer number", p.text())
			}
		}
	}
}

func TestReadBatchWithAnotherMark(t *testing.T) {
	for _, l := range validBatches() {
		for at := range l {
			p := spellingOf(l)
			for mark := 2; mark < 256; mark++ {
				p.marks[at] = byte(mark)
				checkNoBatch(t, "a mark that is neither 0 nor 1", p.text())
			}
		}
	}
	checkNoBatch(t, "a value behind a deleted key", "\x01\x01\x01a\x00")
	checkNoBatch(t, "a value behind a deleted key", "\x01\x01\x01a\x01x")
	checkNoBatch(t, "no value behind a key that is set", "\x01\x00\x01a")
	checkNoBatch(t, "no value behind a key that is set", "\x02\x00\x01a\x01\x01b")
}

func TestReadBatchWithAnotherCount(t *testing.T) {
	for held := range 9 {
		for _, count := range []int{0, 1, 2, 3, 4, 5, 6, 7, 8, 127, 128, 256 + 6, 16384, impl.MaxVar, impl.MaxVar + 1, 1 << 62} {
			p := spellingOf(repeatOp(held))
			p.count = count
			if count == held && held >= 1 && held <= 6 {
				checkBatch(t, p.text(), repeatOp(held))
			} else {
				checkNoBatch(t, "another number of operations", p.text())
			}
		}
	}
	for size := range 12 {
		checkNoBatch(t, "no end of the number", strings.Repeat("\x80", size))
		checkNoBatch(t, "no end of the number", strings.Repeat("\xff", size))
		checkNoBatch(t, "no end of the length", "\x01\x00"+strings.Repeat("\xff", size))
		checkNoBatch(t, "no end of the length", "\x01\x01"+strings.Repeat("\x80", size))
		checkNoBatch(t, "no end of the length", "\x01\x00\x01a"+strings.Repeat("\xff", size))
	}
}

func TestReadBatchWithLengthsBeyondTheEnd(t *testing.T) {
	for _, l := range validBatches() {
		s := spellingOf(l).text()
		p := spellingOf(l)
		for p.replaced = 2; p.replaced <= p.numbers(); p.replaced++ {
			for _, length := range []int{len(s), len(s) + 1, 127, 128, 300, 1 << 31, 1 << 32, impl.MaxVar - 1, impl.MaxVar, impl.MaxVar + 1, 1 << 62} {
				p.by = length
				checkNoBatch(t, "a length beyond the end", p.text())
				// With enough bytes behind it, the length is still beyond the limits.
				checkNoBatch(t, "a length beyond the limits", p.text()+strings.Repeat("x", 400))
			}
		}
	}
	for length := 1; length <= 17; length++ {
		lengthByte := string([]byte{byte(length)})
		short := strings.Repeat("x", length-1)
		checkNoBatch(t, "a key beyond the end", "\x01\x01"+lengthByte+short)
		checkNoBatch(t, "a key beyond the end", "\x01\x00"+lengthByte+short)
		checkNoBatch(t, "a value beyond the end", "\x01\x00\x01a"+lengthByte+short)
	}
}

// A changed byte may make another batch, but never a string that ShowBatch does not return.
func TestReadBatchOfChangedBytes(t *testing.T) {
	for _, l := range validBatches() {
		s := spellingOf(l).text()
		for at := range len(s) {
			for b := range 256 {
				changed := replaceByte(s, at, byte(b))
				got, ok := impl.ReadBatch(changed)
				if ok && (impl.ShowBatch(got) != changed || spellingOf(got).text() != changed || !impl.BatchOk(got)) {
					t.Errorf("ReadBatch(%q) = %#v, true", changed, got)
				}
				if !ok && len(got) != 0 {
					t.Errorf("ReadBatch(%q) = %#v, false", changed, got)
				}
			}
		}
	}
}

// shortFormats returns the batches of all formats of at most 7 bytes whose texts are made of these bytes.
func shortFormats(alphabet string) map[string][]impl.Op {
	var ops []impl.Op
	for _, key := range allStrings(alphabet, 4)[1:] {
		ops = append(ops, delOp(key))
		for _, val := range allStrings(alphabet, 2) {
			if len(key)+len(val) <= 3 {
				ops = append(ops, setOp(key, val))
			}
		}
	}
	formats := map[string][]impl.Op{}
	for _, op := range ops {
		one := spellingOf(opsFor(op)).text()
		formats[one] = opsFor(op)
		// The shortest operation has 3 bytes.
		if len(one) > 4 {
			continue
		}
		for _, next := range ops {
			if two := spellingOf(opsFor(op, next)).text(); len(two) <= 7 {
				formats[two] = opsFor(op, next)
			}
		}
	}
	return formats
}

func TestReadBatchAcceptsExactlyTheFormats(t *testing.T) {
	alphabet := "\x00\x01\x02\x03a"
	formats := shortFormats(alphabet)
	found := 0
	for _, s := range allStrings(alphabet, 7) {
		want, is := formats[s]
		if is {
			found++
			checkBatch(t, s, want)
		} else {
			checkNoBatch(t, "a short string", s)
		}
	}
	if found == 0 {
		t.Error("no short string is a format")
	}
	for _, s := range allStrings(allBytes(), 2) {
		checkNoBatch(t, "a short string", s)
	}
}

func TestBatchesOfOneFormatAreTheSame(t *testing.T) {
	owners := map[string][]impl.Op{}
	throw := dice(5)
	keys := append(allStrings("\x00\x01\x02", 3)[1:], "a")
	lists := validBatches()
	for range 5000 {
		lists = append(lists, thrownBatch(throw, keys))
	}
	for _, l := range lists {
		s := impl.ShowBatch(l)
		if other, taken := owners[s]; taken && !slices.Equal(other, l) {
			t.Errorf("%#v and %#v have the format %q", other, l, s)
		}
		owners[s] = l
	}
}
