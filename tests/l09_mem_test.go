package tests

import (
	"maps"
	"math"
	"slices"
	"sort"
	"strings"
	"testing"

	"loop.example/g00950/impl"
)

const (
	memLimit = 60
	seqLimit = 1000000
)

func setEnt(key string, seq int, val string) impl.Ent {
	return impl.Ent{Key: key, Seq: seq, Val: val}
}

func delEnt(key string, seq int) impl.Ent { return impl.Ent{Key: key, Seq: seq, Del: true} }

func entsFor(ents ...impl.Ent) []impl.Ent { return ents }

// plainAhead tells by the document's words whether a stands ahead of b.
func plainAhead(a, b impl.Ent) bool {
	if a.Key == b.Key {
		return a.Seq > b.Seq
	}
	return a.Key < b.Key
}

func plainEntOk(e impl.Ent) bool {
	return len(e.Key) >= 1 && len(e.Key) <= 10 && e.Seq >= 0 && e.Seq <= seqLimit && len(e.Val) <= 16 && (!e.Del || e.Val == "")
}

// plainInOrder tells whether entries are valid, whatever their number.
func plainInOrder(l []impl.Ent) bool {
	for i, e := range l {
		if !plainEntOk(e) || i > 0 && !plainAhead(l[i-1], e) {
			return false
		}
	}
	return true
}

func plainMemOk(l []impl.Ent) bool {
	return plainInOrder(l) && len(l) <= memLimit
}

// plainOrder returns entries in order, whatever their order was.
func plainOrder(written []impl.Ent) []impl.Ent {
	l := slices.Clone(written)
	sort.SliceStable(l, func(i, j int) bool { return plainAhead(l[i], l[j]) })
	return l
}

// plainGet looks at every entry that was written, in whatever order that was.
func plainGet(written []impl.Ent, key string, seq int) (impl.Ent, bool) {
	var last impl.Ent
	found := false
	for _, e := range written {
		if e.Key == key && e.Seq <= seq && (!found || e.Seq > last.Seq) {
			last, found = e, true
		}
	}
	return last, found
}

// plainRange returns what is seen of the keys from one on and up to another; no upper bound if that is empty.
func plainRange(written []impl.Ent, from string, to string, seq int) []impl.KV {
	vals := map[string]string{}
	for _, e := range written {
		last, found := plainGet(written, e.Key, seq)
		if found && !last.Del {
			vals[e.Key] = last.Val
		}
	}
	var m []impl.KV
	for _, key := range slices.Sorted(maps.Keys(vals)) {
		if key >= from && (key < to || to == "") {
			m = append(m, impl.KV{Key: key, Val: vals[key]})
		}
	}
	return m
}

func checkEnts(t *testing.T, what string, got []impl.Ent, gotOk bool, want []impl.Ent, wantOk bool) {
	t.Helper()
	if gotOk != wantOk || !slices.Equal(got, want) {
		t.Errorf("%s = %#v, %v, want %#v, %v", what, got, gotOk, want, wantOk)
	}
}

func checkMemPut(t *testing.T, l []impl.Ent, e impl.Ent, want []impl.Ent, wantOk bool) {
	t.Helper()
	got, ok := impl.MemPut(l, e)
	if ok != wantOk || !slices.Equal(got, want) {
		t.Errorf("MemPut(%#v, %#v) = %#v, %v, want %#v, %v", l, e, got, ok, want, wantOk)
	}
}

func checkMemGet(t *testing.T, l []impl.Ent, key string, seq int, want impl.Ent, wantOk bool) {
	t.Helper()
	if got, ok := impl.MemGet(l, key, seq); ok != wantOk || got != want {
		t.Errorf("MemGet(%#v, %q, %d) = %#v, %v, want %#v, %v", l, key, seq, got, ok, want, wantOk)
	}
}

func checkMemMap(t *testing.T, l []impl.Ent, seq int, want []impl.KV) {
	t.Helper()
	if got := impl.MemMap(l, seq); !slices.Equal(got, want) {
		t.Errorf("MemMap(%#v, %d) = %q, want %q", l, seq, got, want)
	}
}

func checkMemRange(t *testing.T, l []impl.Ent, from string, to string, seq int, want []impl.KV) {
	t.Helper()
	if got := impl.MemRange(l, from, to, seq); !slices.Equal(got, want) {
		t.Errorf("MemRange(%#v, %q, %q, %d) = %q, want %q", l, from, to, seq, got, want)
	}
}

// putAll puts entries one after another, each of which must be taken and stand at its place.
func putAll(t *testing.T, written []impl.Ent) []impl.Ent {
	t.Helper()
	var l []impl.Ent
	for i, e := range written {
		next, ok := impl.MemPut(l, e)
		checkEnts(t, "the entries after a MemPut", next, ok, plainOrder(written[:i+1]), true)
		l = next
	}
	return l
}

// nearSeqs lists the numbers at, below and above each Seq, and those at and beyond the limits.
func nearSeqs(ents []impl.Ent) []int {
	list := []int{math.MinInt, -1, 0, 1, seqLimit - 1, seqLimit, seqLimit + 1, math.MaxInt}
	for _, e := range ents {
		list = append(list, e.Seq-1, e.Seq, e.Seq+1)
	}
	slices.Sort(list)
	return slices.Compact(list)
}

// nearKeys lists each key with the strings next to it, its prefixes and keys that are longer than it, and strings that are no keys.
func nearKeys(ents []impl.Ent) []string {
	list := []string{"", "\x00", "\xff", "a", strings.Repeat("\xff", 10), strings.Repeat("\xff", 11), strings.Repeat("k", 100)}
	for _, e := range ents {
		last := len(e.Key) - 1
		list = append(list, e.Key, e.Key+"\x00", e.Key+"\xff", e.Key[:last], e.Key[:last]+string([]byte{e.Key[last] - 1}), e.Key[:last]+string([]byte{e.Key[last] + 1}))
	}
	slices.Sort(list)
	return slices.Compact(list)
}

// checkLookups holds MemGet and MemMap of entries against what was written, for each key and number and those next to them.
func checkLookups(t *testing.T, l []impl.Ent, written []impl.Ent) {
	t.Helper()
	keys := nearKeys(written)
	for _, seq := range nearSeqs(written) {
		for _, key := range keys {
			want, found := plainGet(written, key, seq)
			checkMemGet(t, l, key, seq, want, found)
		}
		checkMemMap(t, l, seq, plainRange(written, "", "", seq))
	}
}

// versionedKeys lists entries in order: several versions of keys of which some are prefixes of others, with the bytes 0 and 255.
func versionedKeys() []impl.Ent {
	return []impl.Ent{
		setEnt("\x00", 7, "nul 7"),
		delEnt("\x00", 3),
		setEnt("\x00\x00", 5, "nuls 5"),
		delEnt("a", 9),
		setEnt("a", 8, "a8"),
		delEnt("a", 4),
		setEnt("a", 2, "a2"),
		setEnt("a", 0, ""),
		setEnt("a\x00", 6, "a nul 6"),
		delEnt("a\x00", 1),
		setEnt("aa", 8, "aa8"),
		setEnt("aa", 3, "aa3"),
		delEnt("ab", 2),
		setEnt("a\xff", 5, "a 255 5"),
		delEnt("b", 4),
		delEnt("b", 3),
		setEnt("\xff", seqLimit, "last"),
		setEnt("\xff", 0, "first"),
		delEnt("\xff\x00", seqLimit),
		setEnt("\xff\xff", seqLimit-1, "255s"),
	}
}

// manyEnts returns this many entries in order, three versions of each key.
func manyEnts(count int) []impl.Ent {
	var l []impl.Ent
	for i, key := range numbered(count/3 + 1) {
		l = append(l, setEnt(key, 30+i, "new"), delEnt(key, 20+i), setEnt(key, 10+i, "old"))
	}
	return l[:count]
}

func validMems() [][]impl.Ent {
	return [][]impl.Ent{
		nil,
		{},
		{setEnt("a", 0, "")},
		{delEnt("a", seqLimit)},
		{setEnt("a", 2, "x"), setEnt("a", 1, "y")},
		{setEnt("a", 1, "x"), setEnt("b", 1, "x")},
		{setEnt("a", 1, "x"), setEnt("b", 2, "x")},
		{setEnt("a", 2, "x"), setEnt("b", 1, "x")},
		{setEnt("k", seqLimit, "same"), setEnt("k", 0, "same")},
		{delEnt("a", 2), delEnt("a", 1), delEnt("a", 0)},
		{setEnt("1234567890", 1, "1234567890123456"), setEnt("1234567891", 1, "")},
		// Lengths count bytes: five runes of two bytes are 10.
		{setEnt(strings.Repeat("\u00e9", 5), 1, strings.Repeat("\u00e9", 8))},
		{setEnt(strings.Repeat("\x00", 10), 1, strings.Repeat("\x00", 16)), setEnt(strings.Repeat("\xff", 10), 1, strings.Repeat("\xff", 16))},
		versionedKeys(),
		manyEnts(59),
		manyEnts(60),
	}
}

// invalidEnts lists entries of which each is invalid for one reason.
func invalidEnts() []impl.Ent {
	return []impl.Ent{
		{},
		setEnt("", 15, "x"),
		delEnt("", 15),
		setEnt("12345678901", 15, "x"),
		delEnt("b1234567890", 15),
		setEnt(strings.Repeat("k", 100), 15, "x"),
		setEnt(strings.Repeat("\u00e9", 6), 15, "x"),
		setEnt("a", -1, "x"),
		delEnt("a", -1),
		setEnt("a", math.MinInt, "x"),
		setEnt("a", seqLimit+1, "x"),
		delEnt("a", seqLimit+1),
		setEnt("a", math.MaxInt, "x"),
		setEnt("a", 15, "12345678901234567"),
		setEnt("a", 15, strings.Repeat("v", 100)),
		setEnt("a", 15, strings.Repeat("\u00e9", 9)),
		{Key: "a", Seq: 15, Del: true, Val: "x"},
		{Key: "a", Seq: 15, Del: true, Val: "\x00"},
		{Key: "a", Seq: 15, Del: true, Val: "1234567890123456"},
	}
}

// invalidMems lists entries of which each are invalid for one reason.
func invalidMems() [][]impl.Ent {
	list := [][]impl.Ent{
		manyEnts(61),
		manyEnts(62),
		manyEnts(200),
		make([]impl.Ent, 1),
		{setEnt("b", 1, "x"), setEnt("a", 1, "x")},
		{setEnt("b", 2, "x"), setEnt("a", 1, "x")},
		{setEnt("b", 1, "x"), setEnt("a", 2, "x")},
		{setEnt("a", 1, "x"), setEnt("a", 2, "x")},
		{setEnt("a", 3, "x"), setEnt("a", 1, "x"), setEnt("a", 2, "x")},
		{setEnt("a", 2, "x"), setEnt("a", 3, "x"), setEnt("a", 1, "x")},
		{setEnt("a", 1, "x"), setEnt("a", 1, "x")},
		{setEnt("a", 1, "x"), setEnt("a", 1, "y")},
		{setEnt("a", 1, "x"), delEnt("a", 1)},
		{delEnt("a", 1), setEnt("a", 1, "x")},
		{setEnt("a", 2, "x"), setEnt("b", 1, "x"), setEnt("a", 1, "x")},
		{setEnt("a", 1, "x"), setEnt("c", 1, "x"), setEnt("b", 1, "x")},
		{setEnt("ab", 1, "x"), setEnt("a", 1, "x")},
		{setEnt("a\x00", 1, "x"), setEnt("a", 2, "x")},
		{setEnt("\xff", 1, "x"), setEnt("\x00", 1, "x")},
		{setEnt("\x80", 1, "x"), setEnt("\x7f", 1, "x")},
		{setEnt("a", 1, "x"), setEnt("B", 1, "x")},
	}
	for _, e := range invalidEnts() {
		list = append(list, []impl.Ent{e}, plainOrder(append(manyEnts(7), e)))
	}
	return list
}

func TestMemOk(t *testing.T) {
	for _, l := range validMems() {
		if !impl.MemOk(l) {
			t.Errorf("MemOk(%#v) is false", l)
		}
	}
	for _, l := range invalidMems() {
		if impl.MemOk(l) {
			t.Errorf("MemOk(%#v) is true", l)
		}
	}
	// Each pair of neighbours exchanged, and each entry twice.
	for at := range 59 {
		l := manyEnts(60)
		l[at], l[at+1] = l[at+1], l[at]
		if impl.MemOk(l) {
			t.Errorf("MemOk with %d and %d exchanged is true", at, at+1)
		}
		l = manyEnts(60)
		l[at].Key, l[at].Seq = l[at+1].Key, l[at+1].Seq
		if impl.MemOk(l) {
			t.Errorf("MemOk with the key and number of %d twice is true", at+1)
		}
	}
}

func TestMemOkAtItsLimits(t *testing.T) {
	for count := range 200 {
		if got := impl.MemOk(manyEnts(count)); got != (count <= 60) {
			t.Errorf("MemOk of %d entries is %v", count, got)
		}
	}
	for _, seq := range []int{math.MinInt, -seqLimit, -1, 0, 1, 999999, 1000000, 1000001, math.MaxInt} {
		want := seq >= 0 && seq <= 1000000
		for _, l := range [][]impl.Ent{
			{setEnt("b", seq, "x")},
			{delEnt("b", seq)},
			{setEnt("a", 5, "x"), setEnt("b", seq, "x"), setEnt("c", 5, "x")},
		} {
			if got := impl.MemOk(l); got != want {
				t.Errorf("MemOk(%#v) is %v", l, got)
			}
		}
	}
	for keyLength := range 30 {
		for valLength := range 40 {
			for _, del := range []bool{false, true} {
				e := impl.Ent{Key: strings.Repeat("k", keyLength), Seq: 5, Del: del, Val: strings.Repeat("\x00", valLength)}
				want := keyLength >= 1 && keyLength <= 10 && valLength <= 16 && !(del && valLength > 0)
				for _, l := range [][]impl.Ent{{e}, {e, setEnt("z", 1, "x")}, {setEnt("A", 1, "x"), e}} {
					if got := impl.MemOk(l); got != want {
						t.Errorf("MemOk with a key of %d bytes, Del %v and a value of %d bytes is %v", keyLength, del, valLength, got)
					}
				}
			}
		}
	}
}

// smallMems lists all lists of up to this many out of these entries, in any order and each as often as it fits.
func smallMems(ents []impl.Ent, most int) [][]impl.Ent {
	all := [][]impl.Ent{nil}
	longest := all
	for range most {
		var longer [][]impl.Ent
		for _, l := range longest {
			for _, e := range ents {
				longer = append(longer, slices.Concat(l, []impl.Ent{e}))
			}
		}
		all = append(all, longer...)
		longest = longer
	}
	return all
}

func TestMemFunctionsOfEverySmallList(t *testing.T) {
	ents := entsFor(setEnt("a", 1, "x"), delEnt("a", 1), setEnt("a", 2, "y"), setEnt("a\x00", 1, "z"), delEnt("b", 0), setEnt("b", 2, ""), setEnt("", 1, "no"))
	for _, l := range smallMems(ents, 4) {
		valid := plainMemOk(l)
		if got := impl.MemOk(l); got != valid {
			t.Errorf("MemOk(%#v) is %v", l, got)
		}
		for _, seq := range []int{-1, 0, 1, 2} {
			for _, key := range []string{"", "a", "a\x00", "b", "c"} {
				want, found := impl.Ent{}, false
				if valid {
					want, found = plainGet(l, key, seq)
				}
				checkMemGet(t, l, key, seq, want, found)
			}
			if valid {
				checkMemMap(t, l, seq, plainRange(l, "", "", seq))
				checkMemRange(t, l, "a\x00", "b", seq, plainRange(l, "a\x00", "b", seq))
			} else {
				checkMemMap(t, l, seq, nil)
				checkMemRange(t, l, "", "", seq, nil)
			}
		}
		for _, e := range ents {
			put := plainOrder(append(slices.Clone(l), e))
			switch {
			case !valid:
				checkMemPut(t, l, e, nil, false)
			case plainMemOk(put):
				checkMemPut(t, l, e, put, true)
			default:
				checkMemPut(t, l, e, l, false)
			}
		}
	}
}

func TestMemPutOfFixedExamples(t *testing.T) {
	b5, b3, d4 := setEnt("b", 5, "b5"), delEnt("b", 3), setEnt("d", 4, "d4")
	l := entsFor(b5, b3, d4)
	for _, c := range []struct {
		l    []impl.Ent
		e    impl.Ent
		want []impl.Ent
	}{
		{nil, b5, entsFor(b5)},
		{[]impl.Ent{}, b3, entsFor(b3)},
		// At the front.
		{l, setEnt("a", 1, "x"), entsFor(setEnt("a", 1, "x"), b5, b3, d4)},
		{l, delEnt("b", 6), entsFor(delEnt("b", 6), b5, b3, d4)},
		{l, setEnt("\x00", seqLimit, ""), entsFor(setEnt("\x00", seqLimit, ""), b5, b3, d4)},
		// In the middle.
		{l, setEnt("b", 4, "x"), entsFor(b5, setEnt("b", 4, "x"), b3, d4)},
		{l, setEnt("b", 2, "x"), entsFor(b5, b3, setEnt("b", 2, "x"), d4)},
		{l, setEnt("b\x00", 9, "x"), entsFor(b5, b3, setEnt("b\x00", 9, "x"), d4)},
		{l, setEnt("c", 5, "x"), entsFor(b5, b3, setEnt("c", 5, "x"), d4)},
		{l, setEnt("d", 5, "x"), entsFor(b5, b3, setEnt("d", 5, "x"), d4)},
		// At the end.
		{l, delEnt("d", 3), entsFor(b5, b3, d4, delEnt("d", 3))},
		{l, setEnt("d\x00", 9, "x"), entsFor(b5, b3, d4, setEnt("d\x00", 9, "x"))},
		{l, setEnt("e", 0, ""), entsFor(b5, b3, d4, setEnt("e", 0, ""))},
		{l, setEnt("\xff", 1, "x"), entsFor(b5, b3, d4, setEnt("\xff", 1, "x"))},
		// An entry like another one but for its number or its key.
		{l, setEnt("b", 1, "b5"), entsFor(b5, b3, setEnt("b", 1, "b5"), d4)},
		{l, delEnt("d", 5), entsFor(b5, b3, delEnt("d", 5), d4)},
	} {
		checkMemPut(t, c.l, c.e, c.want, true)
	}
}

func TestMemPutFillsEachGap(t *testing.T) {
	for _, count := range []int{1, 2, 7, 59, 60} {
		whole := manyEnts(count)
		for at := range whole {
			l := slices.Delete(manyEnts(count), at, at+1)
			checkMemPut(t, l, whole[at], whole, true)
		}
	}
	whole := versionedKeys()
	for at := range whole {
		checkMemPut(t, slices.Delete(versionedKeys(), at, at+1), whole[at], whole, true)
	}
}

func TestMemPutRefusesInvalidEntries(t *testing.T) {
	for _, l := range validMems() {
		for _, e := range invalidEnts() {
			checkMemPut(t, l, e, l, false)
		}
	}
}

func TestMemPutRefusesWhatIsContained(t *testing.T) {
	for _, l := range validMems() {
		for _, e := range l {
			checkMemPut(t, l, e, l, false)
			checkMemPut(t, l, setEnt(e.Key, e.Seq, "another value"), l, false)
			checkMemPut(t, l, delEnt(e.Key, e.Seq), l, false)
		}
	}
}

func TestMemPutIntoFullEntries(t *testing.T) {
	l := manyEnts(60)
	for _, e := range entsFor(setEnt("A", 1, "x"), setEnt("z", 1, "x"), delEnt("c1", 25), setEnt("a0", 999, ""), l[0], l[59]) {
		checkMemPut(t, l, e, l, false)
	}
	for _, e := range entsFor(setEnt("A", 1, "x"), setEnt("z", 1, "x"), delEnt("c1", 25), setEnt("a0", 999, "")) {
		checkMemPut(t, l[:59], e, plainOrder(append(manyEnts(59), e)), true)
	}
}

func TestMemFunctionsOfInvalidEntries(t *testing.T) {
	for _, l := range invalidMems() {
		puts := append(invalidEnts(), l...)
		puts = append(puts, setEnt("a", 15, "x"), delEnt("z", 15), setEnt("A", 15, "x"))
		for _, e := range puts {
			checkMemPut(t, l, e, nil, false)
		}
		for _, key := range []string{"", "a", "ab", "a0", "b", "b1234567890", "12345678901", "\x80"} {
			for _, seq := range []int{math.MinInt, -1, 0, 1, 2, 15, seqLimit, seqLimit + 1, math.MaxInt} {
				checkMemGet(t, l, key, seq, impl.Ent{}, false)
				checkMemMap(t, l, seq, nil)
				checkMemRange(t, l, key, "", seq, nil)
				checkMemRange(t, l, "", key, seq, nil)
			}
		}
	}
}

func TestMemGetOfFixedExamples(t *testing.T) {
	l := versionedKeys()
	for _, c := range []struct {
		key  string
		seq  int
		want impl.Ent
	}{
		{"a", 0, setEnt("a", 0, "")},
		{"a", 1, setEnt("a", 0, "")},
		{"a", 2, setEnt("a", 2, "a2")},
		{"a", 3, setEnt("a", 2, "a2")},
		{"a", 4, delEnt("a", 4)},
		{"a", 7, delEnt("a", 4)},
		{"a", 8, setEnt("a", 8, "a8")},
		{"a", 9, delEnt("a", 9)},
		{"a", 10, delEnt("a", 9)},
		{"a", seqLimit, delEnt("a", 9)},
		{"a", seqLimit + 1, delEnt("a", 9)},
		{"a", math.MaxInt, delEnt("a", 9)},
		{"a\x00", 1, delEnt("a\x00", 1)},
		{"a\x00", 5, delEnt("a\x00", 1)},
		{"a\x00", 6, setEnt("a\x00", 6, "a nul 6")},
		{"aa", 3, setEnt("aa", 3, "aa3")},
		{"aa", 7, setEnt("aa", 3, "aa3")},
		{"aa", 9, setEnt("aa", 8, "aa8")},
		{"a\xff", 5, setEnt("a\xff", 5, "a 255 5")},
		{"\x00", 3, delEnt("\x00", 3)},
		{"\x00", 6, delEnt("\x00", 3)},
		{"\x00", 7, setEnt("\x00", 7, "nul 7")},
		{"\x00\x00", 5, setEnt("\x00\x00", 5, "nuls 5")},
		{"b", 3, delEnt("b", 3)},
		{"b", 4, delEnt("b", 4)},
		{"\xff", 0, setEnt("\xff", 0, "first")},
		{"\xff", seqLimit - 1, setEnt("\xff", 0, "first")},
		{"\xff", seqLimit, setEnt("\xff", seqLimit, "last")},
		{"\xff\x00", seqLimit, delEnt("\xff\x00", seqLimit)},
		{"\xff\xff", seqLimit, setEnt("\xff\xff", seqLimit-1, "255s")},
	} {
		checkMemGet(t, l, c.key, c.seq, c.want, true)
	}
}

func TestMemGetOfNothing(t *testing.T) {
	l := versionedKeys()
	for _, c := range []struct {
		key string
		seq int
	}{
		// Below the first number of a key, also where the keys next to it have an older version.
		{"a", -1}, {"a", math.MinInt}, {"a\x00", 0}, {"aa", 2}, {"ab", 1}, {"a\xff", 4}, {"b", 2}, {"\x00", 2}, {"\x00\x00", 4},
		{"\xff", -1}, {"\xff\x00", seqLimit - 1}, {"\xff\xff", seqLimit - 2},
		// Keys that are not contained.
		{"", 5}, {"A", 5}, {"ac", 5}, {"aaa", 5}, {"aa\x00", 5}, {"a\x00\x00", 9}, {"a\xff\x00", 5}, {"b\x00", 5}, {"c", 5}, {"\x01", 5},
		{"\x00\x00\x00", 5}, {"\xfe", 5}, {"\xff\xff\xff", seqLimit}, {"\xff\x01", seqLimit}, {strings.Repeat("a", 11), 5}, {"", math.MaxInt},
	} {
		checkMemGet(t, l, c.key, c.seq, impl.Ent{}, false)
	}
	for _, seq := range nearSeqs(nil) {
		for _, key := range nearKeys(nil) {
			checkMemGet(t, nil, key, seq, impl.Ent{}, false)
		}
	}
}

// permutations lists all orders of entries.
func permutations(ents []impl.Ent) [][]impl.Ent {
	if len(ents) == 0 {
		return [][]impl.Ent{nil}
	}
	var all [][]impl.Ent
	for i, first := range ents {
		for _, rest := range permutations(slices.Concat(ents[:i], ents[i+1:])) {
			all = append(all, slices.Concat([]impl.Ent{first}, rest))
		}
	}
	return all
}

func TestEntriesPutInEveryOrder(t *testing.T) {
	for _, ents := range [][]impl.Ent{
		{setEnt("k", 6, "6"), delEnt("k", 5), setEnt("k", 4, "4"), setEnt("k", 2, "2"), delEnt("k", 1), setEnt("k", 0, "0")},
		{setEnt("a", 4, "4"), delEnt("a", 2), setEnt("a\x00", 3, "3"), delEnt("a\x00", 1), setEnt("aa", 4, "4"), setEnt("b", 2, "2")},
		{setEnt("\x00", 3, "3"), setEnt("\x00", 1, "1"), setEnt("\x00\xff", 2, "2"), delEnt("\xff", 2), setEnt("\xff", 0, "0")},
	} {
		for _, written := range permutations(ents) {
			l := putAll(t, written)
			checkEnts(t, "the entries after all", l, true, ents, true)
			checkLookups(t, l, written)
		}
	}
}

func TestEntriesPutInAscendingOrderOfSeq(t *testing.T) {
	written := versionedKeys()
	sort.SliceStable(written, func(i, j int) bool { return written[i].Seq < written[j].Seq })
	for count := range len(written) + 1 {
		l := putAll(t, written[:count])
		checkLookups(t, l, written[:count])
	}
	slices.Reverse(written)
	checkLookups(t, putAll(t, written), written)
}

func TestMemGetAfterEachWriteReturnsIt(t *testing.T) {
	throw := dice(9)
	keys := append(allStrings("\x00a\xff", 2)[1:], strings.Repeat("\xff", 10))
	last := map[string]impl.Ent{}
	var l []impl.Ent
	for seq := range memLimit {
		e := delEnt(keys[throw(len(keys))], seq)
		if throw(3) > 0 {
			e = setEnt(e.Key, seq, "value "+impl.Dec(seq))
		}
		l, _ = impl.MemPut(l, e)
		for _, now := range []int{seq, seq + 1, seqLimit, math.MaxInt} {
			checkMemGet(t, l, e.Key, now, e, true)
		}
		older, found := last[e.Key]
		checkMemGet(t, l, e.Key, seq-1, older, found)
		last[e.Key] = e
	}
	if len(l) != memLimit {
		t.Errorf("%d entries were put, want %d", len(l), memLimit)
	}
}

// thrownEnts returns this many entries, no two of them equal in Key and Seq, in no order.
func thrownEnts(throw func(below int) int, keys []string, count int, seqs int) []impl.Ent {
	type place struct {
		key string
		seq int
	}
	used := map[place]bool{}
	var ents []impl.Ent
	for len(ents) < count {
		at := place{key: keys[throw(len(keys))], seq: throw(seqs)}
		if used[at] {
			continue
		}
		used[at] = true
		if throw(3) == 0 {
			ents = append(ents, delEnt(at.key, at.seq))
		} else {
			ents = append(ents, setEnt(at.key, at.seq, strings.Repeat(string([]byte{byte(throw(256))}), throw(17))))
		}
	}
	return ents
}

// thrownKind tells which entries are thrown.
type thrownKind struct {
	keys  []string
	count int
	seqs  int
}

func thrownKinds() []thrownKind {
	return []thrownKind{
		{[]string{"k"}, 60, 70},
		{[]string{"a", "a\x00"}, 60, 40},
		{allStrings("\x00a\xff", 2)[1:], 60, 12},
		{numbered(60), 60, 3},
		{append(allStrings("ab", 3)[1:], strings.Repeat("b", 10)), 33, seqLimit + 1},
	}
}

func TestThrownEntries(t *testing.T) {
	throw := dice(11)
	for _, c := range thrownKinds() {
		for range 4 {
			written := thrownEnts(throw, c.keys, c.count, c.seqs)
			checkLookups(t, putAll(t, written), written)
		}
	}
}

func TestMemMapOfFixedExamples(t *testing.T) {
	l := versionedKeys()
	kv := func(key string, val string) impl.KV { return impl.KV{Key: key, Val: val} }
	for _, c := range []struct {
		seq  int
		want []impl.KV
	}{
		{math.MinInt, nil},
		{-1, nil},
		{0, []impl.KV{kv("a", ""), kv("\xff", "first")}},
		{1, []impl.KV{kv("a", ""), kv("\xff", "first")}},
		{2, []impl.KV{kv("a", "a2"), kv("\xff", "first")}},
		{3, []impl.KV{kv("a", "a2"), kv("aa", "aa3"), kv("\xff", "first")}},
		{4, []impl.KV{kv("aa", "aa3"), kv("\xff", "first")}},
		{5, []impl.KV{kv("\x00\x00", "nuls 5"), kv("aa", "aa3"), kv("a\xff", "a 255 5"), kv("\xff", "first")}},
		{6, []impl.KV{kv("\x00\x00", "nuls 5"), kv("a\x00", "a nul 6"), kv("aa", "aa3"), kv("a\xff", "a 255 5"), kv("\xff", "first")}},
		{7, []impl.KV{kv("\x00", "nul 7"), kv("\x00\x00", "nuls 5"), kv("a\x00", "a nul 6"), kv("aa", "aa3"), kv("a\xff", "a 255 5"), kv("\xff", "first")}},
		{8, []impl.KV{kv("\x00", "nul 7"), kv("\x00\x00", "nuls 5"), kv("a", "a8"), kv("a\x00", "a nul 6"), kv("aa", "aa8"), kv("a\xff", "a 255 5"), kv("\xff", "first")}},
		{9, []impl.KV{kv("\x00", "nul 7"), kv("\x00\x00", "nuls 5"), kv("a\x00", "a nul 6"), kv("aa", "aa8"), kv("a\xff", "a 255 5"), kv("\xff", "first")}},
		{math.MaxInt, []impl.KV{kv("\x00", "nul 7"), kv("\x00\x00", "nuls 5"), kv("a\x00", "a nul 6"), kv("aa", "aa8"), kv("a\xff", "a 255 5"), kv("\xff", "last"), kv("\xff\xff", "255s")}},
	} {
		checkMemMap(t, l, c.seq, c.want)
		checkMemRange(t, l, "", "", c.seq, c.want)
	}
	checkMemMap(t, nil, 5, nil)
	checkMemMap(t, entsFor(setEnt("a", 5, "")), 5, []impl.KV{kv("a", "")})
	checkMemMap(t, entsFor(delEnt("a", 5)), 5, nil)
}

func TestADeletedKeyIsSeenAtAnOlderSeq(t *testing.T) {
	seen := []impl.KV{{Key: "k", Val: "x"}}
	around := entsFor(setEnt("j", 0, "j"), setEnt("k\x00", 0, "l"))
	for _, versions := range [][]impl.Ent{
		{delEnt("k", 20), setEnt("k", 10, "x")},
		{delEnt("k", 30), delEnt("k", 20), setEnt("k", 10, "x")},
	} {
		for _, l := range [][]impl.Ent{versions, slices.Concat(around[:1], versions, around[1:])} {
			for seq := range 40 {
				want := seen
				if seq < 10 || seq >= 20 {
					want = nil
				}
				checkMemRange(t, l, "k", "k\x00", seq, want)
				if got := slices.ContainsFunc(impl.MemMap(l, seq), func(kv impl.KV) bool { return kv.Key == "k" }); got != (want != nil) {
					t.Errorf("MemMap(%#v, %d) has the key: %v", l, seq, got)
				}
			}
		}
	}
	again := entsFor(setEnt("k", 30, "x"), delEnt("k", 20), setEnt("k", 10, "old"))
	checkMemMap(t, again, 30, seen)
	checkMemMap(t, again, 29, nil)
	checkMemMap(t, again, 19, []impl.KV{{Key: "k", Val: "old"}})
}

// What is seen at each number is the map as it was right after the write with that number.
func TestMemMapFollowsAMap(t *testing.T) {
	throw := dice(13)
	keys := allStrings("\x00a\xff", 2)[1:]
	for range 10 {
		var l []impl.Ent
		vals := map[string]string{}
		history := []map[string]string{{}}
		for seq := range memLimit {
			key := keys[throw(len(keys))]
			if throw(3) == 0 {
				l, _ = impl.MemPut(l, delEnt(key, seq))
				delete(vals, key)
			} else {
				l, _ = impl.MemPut(l, setEnt(key, seq, impl.Dec(seq)))
				vals[key] = impl.Dec(seq)
			}
			history = append(history, maps.Clone(vals))
		}
		for i, then := range history {
			var want []impl.KV
			for _, key := range slices.Sorted(maps.Keys(then)) {
				want = append(want, impl.KV{Key: key, Val: then[key]})
			}
			checkMemMap(t, l, i-1, want)
			checkMemRange(t, l, "", "", i-1, want)
		}
	}
}

// The entries of batches, each with a number of its own, show the maps that ApplyBatch returns.
func TestMemMapFollowsBatches(t *testing.T) {
	throw := dice(17)
	var l []impl.Ent
	history := [][]impl.KV{nil}
	for seq := range 10 {
		batch := thrownBatch(throw, []string{"a", "aa", "b", "\xff"})
		last := map[string]impl.Op{}
		for _, op := range batch {
			last[op.Key] = op
		}
		for key, op := range last {
			next, ok := impl.MemPut(l, impl.Ent{Key: key, Seq: seq, Del: op.Del, Val: op.Val})
			if !ok {
				t.Fatalf("MemPut of %#v at %d is refused", op, seq)
			}
			l = next
		}
		m, _ := impl.ApplyBatch(history[seq], batch)
		history = append(history, m)
		for i, want := range history {
			checkMemMap(t, l, i-1, want)
		}
	}
}

func TestMemRangeOfFixedExamples(t *testing.T) {
	l := entsFor(delEnt("b", 9), setEnt("b", 1, "b"), setEnt("ba", 1, "ba"), setEnt("d", 1, "d"), setEnt("f", 5, "f"))
	all := []impl.KV{{Key: "b", Val: "b"}, {Key: "ba", Val: "ba"}, {Key: "d", Val: "d"}, {Key: "f", Val: "f"}}
	for _, c := range []struct {
		from, to    string
		first, past int
	}{
		{"", "", 0, 4},
		// Equal to a key: from takes it, to does not.
		{"b", "", 0, 4}, {"ba", "", 1, 4}, {"d", "", 2, 4}, {"f", "", 3, 4},
		{"", "b", 0, 0}, {"", "ba", 0, 1}, {"", "d", 0, 2}, {"", "f", 0, 3},
		{"b", "ba", 0, 1}, {"ba", "d", 1, 2}, {"b", "f", 0, 3}, {"d", "f", 2, 3},
		// Equal to each other.
		{"b", "b", 0, 0}, {"d", "d", 0, 0}, {"f", "f", 0, 0}, {"c", "c", 0, 0},
		// Between keys.
		{"a", "", 0, 4}, {"b\x00", "", 1, 4}, {"c", "", 2, 4}, {"e", "", 3, 4}, {"g", "", 0, 0},
		{"", "a", 0, 0}, {"", "b\x00", 0, 1}, {"", "c", 0, 2}, {"", "e", 0, 3}, {"", "g", 0, 4},
		{"a", "c", 0, 2}, {"b\x00", "e", 1, 3}, {"c", "cc", 0, 0}, {"e", "g", 3, 4}, {"a", "aa", 0, 0}, {"g", "h", 0, 0},
		// From greater than to.
		{"d", "b", 0, 0}, {"f", "d", 0, 0}, {"ba", "b", 0, 0}, {"z", "a", 0, 0}, {"b\x00", "b", 0, 0}, {"\xff", "\x00", 0, 0},
		// No limit on the bounds.
		{"", strings.Repeat("\xff", 100), 0, 4}, {strings.Repeat("b", 100), "", 2, 4}, {"\x00", "\xff", 0, 4}, {"", "\x00", 0, 0},
	} {
		checkMemRange(t, l, c.from, c.to, 5, all[c.first:c.past])
	}
	checkMemRange(t, l, "", "", 0, nil)
	checkMemRange(t, l, "", "", 4, all[:3])
	checkMemRange(t, l, "b", "", 9, all[1:])
	checkMemRange(t, l, "b", "ba", 9, nil)
	checkMemRange(t, l, "b", "ba", 8, all[:1])
	checkMemRange(t, nil, "", "", 5, nil)
}

func TestMemRangeOfAllBounds(t *testing.T) {
	l := versionedKeys()
	bounds := nearKeys(l)
	for _, seq := range []int{-1, 0, 3, 4, 5, 8, 9, seqLimit} {
		for _, from := range bounds {
			for _, to := range bounds {
				checkMemRange(t, l, from, to, seq, plainRange(l, from, to, seq))
			}
		}
	}
}

// wideEnts returns a list with these entries and further ones in its unused capacity.
func wideEnts(l []impl.Ent) (list []impl.Ent, whole []impl.Ent) {
	whole = slices.Concat(l, manyEnts(20))
	return whole[:len(l)], whole
}

// scribbleEnts writes over a list and its unused capacity.
func scribbleEnts(l []impl.Ent) {
	l = l[:cap(l)]
	for i := range l {
		l[i] = impl.Ent{Key: "scribble", Seq: 42, Val: "written over"}
	}
}

func TestMemFunctionsLeaveTheirArguments(t *testing.T) {
	for _, l := range append(validMems(), invalidMems()...) {
		puts := append(entsFor(setEnt("A", 15, "front"), setEnt("b\x01", 15, "middle"), delEnt("zz", 15)), invalidEnts()[:9]...)
		for _, e := range append(puts, l...) {
			list, whole := wideEnts(l)
			before := slices.Clone(whole)
			impl.MemOk(list)
			impl.MemGet(list, e.Key, e.Seq)
			impl.MemMap(list, e.Seq)
			impl.MemRange(list, "", e.Key, e.Seq)
			first, _ := impl.MemPut(list, e)
			second, _ := impl.MemPut(list, e)
			if !slices.Equal(whole, before) {
				t.Fatalf("a call with %#v and %#v wrote into its arguments", l, e)
			}
			kept := slices.Clone(second)
			scribbleEnts(first)
			if !slices.Equal(whole, before) {
				t.Fatalf("writing into the result of MemPut(%#v, %#v) changed an argument", l, e)
			}
			if !slices.Equal(second, kept) {
				t.Fatalf("two results of MemPut(%#v, %#v) share memory", l, e)
			}
			scribbleEnts(list)
			if !slices.Equal(second, kept) {
				t.Fatalf("writing into the arguments of MemPut(%#v, %#v) changed its result", l, e)
			}
		}
	}
}

func TestMemMapsAreNewMemory(t *testing.T) {
	for _, l := range validMems() {
		for _, seq := range []int{5, 25, seqLimit} {
			seen, kept := impl.MemMap(l, seq), plainRange(l, "", "", seq)
			part := impl.MemRange(l, "", "", seq)
			scribbleKVs(seen)
			if !slices.Equal(part, kept) {
				t.Fatalf("MemMap and MemRange of %#v share memory", l)
			}
			scribbleKVs(part)
			checkMemMap(t, l, seq, kept)
			checkMemRange(t, l, "", "", seq, kept)
		}
	}
}

func TestMemOfNilAndEmptyLists(t *testing.T) {
	for _, l := range [][]impl.Ent{nil, {}, make([]impl.Ent, 0, 4)} {
		if !impl.MemOk(l) {
			t.Error("MemOk of no entries is false")
		}
		checkMemPut(t, l, setEnt("a", 1, "x"), entsFor(setEnt("a", 1, "x")), true)
		checkMemPut(t, l, setEnt("", 1, "x"), nil, false)
		checkMemGet(t, l, "a", 1, impl.Ent{}, false)
		checkMemGet(t, l, "", 0, impl.Ent{}, false)
		checkMemMap(t, l, 1, nil)
		checkMemRange(t, l, "", "", 1, nil)
	}
}

func TestMemFunctionsKeepNoState(t *testing.T) {
	l := entsFor(setEnt("a", 4, "4"), delEnt("a", 2), setEnt("b", 1, "1"))
	for range 3 {
		impl.MemPut(l, setEnt("", 9, ""))
		impl.MemPut(manyEnts(60), setEnt("a", 3, "other"))
		impl.MemOk(manyEnts(61))
		impl.MemGet(invalidMems()[4], "a", 9)
		impl.MemMap(entsFor(setEnt("c", 1, "other")), 9)
		impl.MemRange(l, "b", "", 0)
		checkMemPut(t, l, setEnt("a", 3, "3"), entsFor(setEnt("a", 4, "4"), setEnt("a", 3, "3"), delEnt("a", 2), setEnt("b", 1, "1")), true)
		checkMemGet(t, l, "a", 3, delEnt("a", 2), true)
		checkMemMap(t, l, 3, []impl.KV{{Key: "b", Val: "1"}})
		checkMemRange(t, l, "a", "b", 4, []impl.KV{{Key: "a", Val: "4"}})
	}
}
