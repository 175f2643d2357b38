package tests

import (
	"encoding/hex"
	"fmt"
	"math"
	"slices"
	"strings"
	"testing"

	"loop.example/g00950/impl"
)

const (
	tableEvery = 6
	tableBloom = 16
	tableParts = 10
)

func keysIn(l []impl.Ent) []string {
	var keys []string
	for _, e := range l {
		keys = append(keys, e.Key)
	}
	return keys
}

// tableInParts makes a table whose parts have this many entries each, the last one perhaps fewer; it knows no limits.
func tableInParts(l []impl.Ent, every int) impl.Table {
	var t impl.Table
	for len(l) > 0 {
		part := l[:min(every, len(l))]
		t.Parts = append(t.Parts, impl.Part{Last: part[len(part)-1].Key, Text: blockText(part)})
		for _, e := range part {
			t.Max = max(t.Max, e.Seq)
		}
		l = l[len(part):]
	}
	return t
}

// plainTable makes a table by the document's words; it knows no limits.
func plainTable(l []impl.Ent) impl.Table {
	t := tableInParts(l, tableEvery)
	t.Bloom = plainBloom(keysIn(l), tableBloom)
	return t
}

func sizedPart(p impl.Part) string {
	return plainVar(len(p.Last), 0) + p.Last + plainVar(len(p.Text), 0) + p.Text
}

// tableText spells a table, whether it is one or not; a negative Max has no right spelling.
func tableText(t impl.Table) string {
	texts := []string{plainVar(len(t.Parts), 0)}
	for _, p := range t.Parts {
		texts = append(texts, sizedPart(p))
	}
	return strings.Join(append(texts, t.Bloom, plainVar(t.Max, 0)), "")
}

func sameTable(a, b impl.Table) bool {
	return slices.Equal(a.Parts, b.Parts) && a.Bloom == b.Bloom && a.Max == b.Max
}

func cloneTable(t impl.Table) impl.Table {
	t.Parts = slices.Clone(t.Parts)
	return t
}

func tellTable(t impl.Table) string {
	return fmt.Sprintf("%d parts %q, filter %x, max %d", len(t.Parts), t.Parts, t.Bloom, t.Max)
}

// plainEntsOf returns the entries of a table, and whether it is one.
func plainEntsOf(t impl.Table) ([]impl.Ent, bool) {
	var l []impl.Ent
	for _, p := range t.Parts {
		ents, ok := impl.ReadBlock(p.Text)
		if !ok {
			return nil, false
		}
		l = append(l, ents...)
	}
	if len(l) == 0 || !plainMemOk(l) || !sameTable(plainTable(l), t) {
		return nil, false
	}
	return l, true
}

// takeText returns the text that s begins with behind its length, and the rest.
func takeText(s string) (string, string, bool) {
	length, size := impl.ReadVar(s)
	if size == 0 || length > len(s)-size {
		return "", "", false
	}
	return s[size : size+length], s[size+length:], true
}

// plainReadTable takes a string apart, and gives up at the first part that is missing.
func plainReadTable(s string) (impl.Table, bool) {
	var t impl.Table
	count, size := impl.ReadVar(s)
	if size == 0 || count > tableParts {
		return impl.Table{}, false
	}
	rest := s[size:]
	for range count {
		last, behind, ok := takeText(rest)
		text, behind, also := takeText(behind)
		if !ok || !also {
			return impl.Table{}, false
		}
		t.Parts, rest = append(t.Parts, impl.Part{Last: last, Text: text}), behind
	}
	if len(rest) < tableBloom {
		return impl.Table{}, false
	}
	t.Bloom = rest[:tableBloom]
	t.Max, size = impl.ReadVar(rest[tableBloom:])
	if _, is := plainEntsOf(t); !is || size == 0 || size != len(rest)-tableBloom {
		return impl.Table{}, false
	}
	return t, true
}

// plainTableGet looks at all entries, and at the parts of six of them by the document's words.
func plainTableGet(l []impl.Ent, key string, seq int) (impl.Ent, int) {
	if !plainMay(plainBloom(keysIn(l), tableBloom), key) {
		return impl.Ent{}, 0
	}
	want, found := plainGet(l, key, seq)
	read := 0
	for first := 0; first < len(l); first += tableEvery {
		part := l[first:min(first+tableEvery, len(l))]
		last := part[len(part)-1].Key
		if last < key {
			continue
		}
		read++
		if found && slices.Contains(part, want) || last > key {
			break
		}
	}
	return want, read
}

func checkTableOf(t *testing.T, l []impl.Ent, want impl.Table, wantOk bool) {
	t.Helper()
	if got, ok := impl.TableOf(l); ok != wantOk || !sameTable(got, want) {
		t.Errorf("TableOf(%#v) = %s, %v, want %s, %v", l, tellTable(got), ok, tellTable(want), wantOk)
	}
}

func checkTableEnts(t *testing.T, x impl.Table, want []impl.Ent) {
	t.Helper()
	if got, ok := impl.TableEnts(x); !ok || !slices.Equal(got, want) {
		t.Errorf("TableEnts(%s) = %#v, %v, want %#v, true", tellTable(x), got, ok, want)
	}
}

func checkTableGet(t *testing.T, x impl.Table, key string, seq int, want impl.Ent, wantRead int) {
	t.Helper()
	if got, read := impl.TableGet(x, key, seq); got != want || read != wantRead {
		t.Errorf("TableGet(%s; %q, %d) = %#v, %d, want %#v, %d", tellTable(x), key, seq, got, read, want, wantRead)
	}
}

func checkShowTable(t *testing.T, x impl.Table, want string) {
	t.Helper()
	if got := impl.ShowTable(x); got != want {
		t.Errorf("ShowTable(%s) = %q, want %q", tellTable(x), got, want)
	}
}

func checkReadTable(t *testing.T, s string, want impl.Table) {
	t.Helper()
	if got, ok := impl.ReadTable(s); !ok || !sameTable(got, want) {
		t.Errorf("ReadTable(%q) = %s, %v, want %s, true", s, tellTable(got), ok, tellTable(want))
	}
}

func checkNoTable(t *testing.T, what string, s string) {
	t.Helper()
	if got, ok := impl.ReadTable(s); ok || !sameTable(got, impl.Table{}) {
		t.Errorf("%s: ReadTable(%.900q) = %s, %v, want the zero Table, false", what, s, tellTable(got), ok)
	}
}

// checkPerhapsTable holds ReadTable of any string against the tests' own reader; it tells whether the string is that of a table.
func checkPerhapsTable(t *testing.T, what string, s string) bool {
	t.Helper()
	want, is := plainReadTable(s)
	if !is {
		checkNoTable(t, what, s)
		return false
	}
	checkReadTable(t, s, want)
	checkShowTable(t, want, s)
	return true
}

// checkNotATable asks for each key that a part ends with, and for those next to it.
func checkNotATable(t *testing.T, what string, x impl.Table) {
	t.Helper()
	if got, ok := impl.TableEnts(x); ok || len(got) != 0 {
		t.Errorf("%s: TableEnts(%s) = %#v, %v, want nothing, false", what, tellTable(x), got, ok)
	}
	if got := impl.ShowTable(x); got != "" {
		t.Errorf("%s: ShowTable(%s) = %q, want nothing", what, tellTable(x), got)
	}
	asked := []string{"", "a", "k"}
	for _, p := range x.Parts[:min(len(x.Parts), tableParts)] {
		asked = append(asked, p.Last)
	}
	for _, key := range asked {
		for _, seq := range []int{0, 5, math.MaxInt} {
			checkTableGet(t, x, key, seq, impl.Ent{}, 0)
		}
	}
}

// checkAnyTable holds what may be a table against the tests' own reading; it tells whether it is one.
func checkAnyTable(t *testing.T, what string, x impl.Table) bool {
	t.Helper()
	l, is := plainEntsOf(x)
	if !is {
		checkNotATable(t, what, x)
		return false
	}
	checkTableOf(t, l, x, true)
	checkTableEnts(t, x, l)
	checkShowTable(t, x, tableText(x))
	return true
}

// mustTable returns the table of entries that are valid.
func mustTable(t *testing.T, l []impl.Ent) impl.Table {
	t.Helper()
	x, ok := impl.TableOf(l)
	if !ok {
		t.Fatalf("TableOf(%#v) is refused", l)
	}
	return x
}

// versionsOf returns this many versions of a key, the oldest one with the number least; every third one is deleted.
func versionsOf(key string, count int, least int) []impl.Ent {
	var l []impl.Ent
	for i := range count {
		seq := least + count - 1 - i
		if seq%3 == 0 {
			l = append(l, delEnt(key, seq))
		} else {
			l = append(l, setEnt(key, seq, impl.Dec(seq)))
		}
	}
	return l
}

// around returns versions of the key k behind so many other keys, and with so many behind them.
func around(before int, versions int, after int) []impl.Ent {
	l := lettered(before, "", 50, "before")
	l = append(l, versionsOf("k", versions, 10)...)
	for i := range after {
		l = append(l, setEnt("k"+string([]byte{byte('a' + i)}), 40+i, "after"))
	}
	return l
}

// continued has versions of k in the first three of its four parts, the second of which has nothing else, and of n in the last two.
func continued() []impl.Ent {
	l := append(entsFor(setEnt("a", 9, "x")), versionsOf("k", 13, 18)...)
	return append(l, setEnt("m", 5, "m5"), delEnt("m", 4), setEnt("n", 3, "n3"), setEnt("n", 2, ""), delEnt("n", 1), setEnt("z", 7, "z7"))
}

// wideKeys returns this many entries with keys of ten and values of 16 bytes, so that the lengths of their blocks need two bytes.
func wideKeys(count int) []impl.Ent {
	var l []impl.Ent
	for i, key := range numbered(count) {
		l = append(l, setEnt(key+"34567890", seqLimit-i, "0123456789abcdef"))
	}
	return l
}

// smallTables returns entries whose tables are short enough to try every change of a byte.
func smallTables() [][]impl.Ent {
	return [][]impl.Ent{
		{setEnt("a", 0, "")},
		{delEnt("k", seqLimit)},
		{setEnt("\x00", 128, "\x00"), setEnt("\xff", 127, "\xff")},
		{setEnt("k", 6, "6"), delEnt("k", 5), setEnt("k", 4, ""), setEnt("k", 3, "3"), setEnt("k", 2, "2"), setEnt("k", 1, "1"), delEnt("k", 0)},
		lettered(7, "", 5, ""),
		around(2, 9, 2),
	}
}

// tableLists lists entries that make tables.
func tableLists() [][]impl.Ent {
	list := append(smallTables(), continued(), versionedKeys(), oneKeyOften("k"), steps("abcdefghij"), crossed(), wideKeys(60), wideKeys(13))
	for _, count := range []int{1, 2, 5, 6, 7, 11, 12, 13, 17, 18, 19, 24, 25, 36, 37, 54, 55, 59, 60} {
		list = append(list, manyEnts(count), lettered(min(count, 26), "tail", seqLimit, "v"), versionsOf("one key 10", count, 0))
	}
	for _, l := range validMems() {
		if len(l) > 0 {
			list = append(list, l)
		}
	}
	return list
}

// The strings of these tables were computed once by another program.
func TestTablesOfFixedExamples(t *testing.T) {
	var often []impl.Ent
	for i := range 13 {
		if i%2 == 0 {
			often = append(often, delEnt("k", 20-i))
		} else {
			often = append(often, setEnt("k", 20-i, ""))
		}
	}
	for _, c := range []struct {
		l     []impl.Ent
		lasts []string
		sizes []int
		bloom string
		max   int
		want  string
	}{
		{entsFor(setEnt("a", 0, "")), []string{"a"}, []int{10}, "00000200000001000000000000000400", 0,
			"0101610a000161000000010000060000020000000100000000000000040000"},
		{entsFor(delEnt("a", 1000000)), []string{"a"}, []int{12}, "00000200000001000000000000000400", 1000000,
			"0101610c000161c0843d01000100000800000200000001000000000000000400c0843d"},
		{entsFor(setEnt("1234567890", 128, "1234567890123456")), []string{"1234567890"}, []int{36}, "00000800000100000000000000000040", 128,
			"010a3132333435363738393024000a31323334353637383930800100103132333435363738393031323334353601000020000008000001000000000000000000408001"},
		{entsFor(setEnt("\x00", 2, "\xff"), delEnt("\x00\xff", 127), setEnt("\x80", 16384, ""), setEnt("\xff", 0, "\x00"), delEnt("\xff\xff", 1)),
			[]string{"\xff\xff"}, []int{40}, "09000c0040020040000002000200020a", 16384,
			"0102ffff28000100020001ff0101ff7f010000018080800100000001ff000001000002ffff01010002001c002309000c0040020040000002000200020a808001"},
		{entsFor(setEnt("car", 1, "1"), setEnt("card", 2, "2"), setEnt("care", 3, "3"), setEnt("cat", 4, "4"), delEnt("cats", 5), setEnt("cow", 6, "6")),
			[]string{"cow"}, []int{52}, "0800800080006280009100a208000980", 6,
			"0103636f773400036361720100013103016402000132030165030001330201740400013400046361747305010001026f770600013602001e002f0800800080006280009100a20800098006"},
		{entsFor(setEnt("a", 9, "x"), setEnt("k", 8, "8"), delEnt("k", 7), setEnt("k", 6, ""), setEnt("k", 5, "5"), delEnt("k", 4), setEnt("k", 3, "3"), setEnt("k", 2, "2"), setEnt("z", 300, "zz")),
			[]string{"k", "z"}, []int{41, 26}, "00010200200001800000000050004400", 300,
			"02016b290001610900017800016b080001380100070100010006000000016b0500013501000401000200180024017a1a00016b0300013301000200013200017aac0200027a7a0100001600010200200001800000000050004400ac02"},
		{often, []string{"k", "k", "k"}, []int{37, 37, 10}, "00010000000000800000000000004000", 20,
			"03016b2500016b14010001001300000100120100010011000000016b10010001000f00000200150020016b2500016b0e010001000d000001000c010001000b000000016b0a010001000900000200150020016b0a00016b080100010000060001000000000080000000000000400014"},
	} {
		text, err := hex.DecodeString(c.want)
		if err != nil {
			t.Fatal(err)
		}
		x := mustTable(t, c.l)
		var lasts []string
		var sizes []int
		for _, p := range x.Parts {
			lasts, sizes = append(lasts, p.Last), append(sizes, len(p.Text))
		}
		if !slices.Equal(lasts, c.lasts) || !slices.Equal(sizes, c.sizes) || hex.EncodeToString([]byte(x.Bloom)) != c.bloom || x.Max != c.max {
			t.Errorf("TableOf(%#v) = %s, want the last keys %q, texts of %d bytes, the filter %s and the number %d", c.l, tellTable(x), c.lasts, c.sizes, c.bloom, c.max)
		}
		checkShowTable(t, x, string(text))
		checkReadTable(t, string(text), x)
		checkTableEnts(t, x, c.l)
	}
}

func TestTablesOfEachCount(t *testing.T) {
	number := map[int]int{1: 1, 5: 1, 6: 1, 7: 2, 11: 2, 12: 2, 13: 3, 18: 3, 19: 4, 54: 9, 55: 10, 59: 10, 60: 10}
	for count := 1; count <= memLimit; count++ {
		for _, l := range [][]impl.Ent{manyEnts(count), wideKeys(count), versionsOf("k", count, 7)} {
			x := mustTable(t, l)
			if want, named := number[count]; named && len(x.Parts) != want {
				t.Errorf("the table of %d entries has %d parts, want %d", count, len(x.Parts), want)
			}
			for i, p := range x.Parts {
				past := min(6*i+6, count)
				if p.Last != l[past-1].Key || p.Text != impl.ShowBlock(l[6*i:past]) || p.Text == "" {
					t.Errorf("part %d of %d entries is %q", i, count, p)
				}
			}
			if x.Bloom != impl.BloomOf(keysIn(l), 16) || len(x.Bloom) != 16 {
				t.Errorf("the filter of %d entries is %x", count, x.Bloom)
			}
			checkTableOf(t, l, plainTable(l), true)
			checkTableEnts(t, x, l)
		}
	}
	if impl.TableEvery != tableEvery || impl.BloomSize != tableBloom {
		t.Errorf("TableEvery and BloomSize are %d and %d", impl.TableEvery, impl.BloomSize)
	}
}

func TestMaxIsTheGreatestSeq(t *testing.T) {
	for _, count := range []int{1, 5, 6, 7, 11, 12, 13, 59, 60} {
		for at := range count {
			for _, greatest := range []int{1, 6, 127, 128, seqLimit - 1, seqLimit} {
				l := make([]impl.Ent, count)
				for i, key := range numbered(count) {
					l[i] = setEnt(key, i%2*(greatest-1), "")
				}
				l[at].Seq = greatest
				if x := mustTable(t, l); x.Max != greatest {
					t.Errorf("Max of %d entries with %d at %d is %d", count, greatest, at, x.Max)
				}
			}
		}
		none := make([]impl.Ent, count)
		for i, key := range numbered(count) {
			none[i] = delEnt(key, 0)
		}
		x := mustTable(t, none)
		if x.Max != 0 {
			t.Errorf("Max of %d entries with the number 0 is %d", count, x.Max)
		}
		checkReadTable(t, tableText(x), x)
	}
	// A deleted key counts as any other, and so does an older version of another key.
	for _, l := range [][]impl.Ent{
		{setEnt("a", 1, ""), delEnt("b", 9), setEnt("b", 3, "")},
		{setEnt("a", 9, ""), setEnt("a", 1, ""), delEnt("b", 8)},
		{setEnt("a", 1, ""), setEnt("b", 2, ""), delEnt("c", 9)},
	} {
		if x := mustTable(t, l); x.Max != 9 {
			t.Errorf("Max of %#v is %d", l, x.Max)
		}
	}
}

func TestTableOfInvalidEntries(t *testing.T) {
	for _, l := range append(invalidMems(), nil, []impl.Ent{}, manyEnts(7)[:0], manyEnts(61), wideKeys(61), versionsOf("k", 61, 0), wideKeys(66), wideKeys(100)) {
		checkTableOf(t, l, impl.Table{}, false)
	}
	for _, e := range invalidEnts() {
		checkTableOf(t, []impl.Ent{e}, impl.Table{}, false)
		for _, count := range []int{6, 7, 13, 60} {
			for _, at := range []int{0, 5, count / 2, count - 1} {
				l := wideKeys(count)
				l[at] = e
				checkTableOf(t, l, impl.Table{}, false)
			}
		}
	}
	for _, l := range tableLists() {
		for at := range len(l) - 1 {
			exchanged, twice := slices.Clone(l), slices.Clone(l)
			exchanged[at], exchanged[at+1] = l[at+1], l[at]
			checkTableOf(t, exchanged, impl.Table{}, false)
			twice[at+1] = setEnt(l[at].Key, l[at].Seq, "other")
			checkTableOf(t, twice, impl.Table{}, false)
		}
	}
	for _, seq := range []int{math.MinInt, -1, seqLimit + 1, math.MaxInt} {
		checkTableOf(t, entsFor(setEnt("a", seq, "")), impl.Table{}, false)
		checkTableOf(t, entsFor(setEnt("a", 1, ""), delEnt("b", seq), setEnt("c", 1, "")), impl.Table{}, false)
	}
}

func TestTablesReturnTheirEntries(t *testing.T) {
	for _, l := range tableLists() {
		x := mustTable(t, l)
		checkTableOf(t, l, plainTable(l), true)
		checkTableEnts(t, plainTable(l), l)
		checkShowTable(t, x, tableText(x))
		checkReadTable(t, impl.ShowTable(x), x)
	}
	for keyLength := 1; keyLength <= 10; keyLength++ {
		for valLength := range 17 {
			for _, seq := range []int{0, 127, 128, 16383, 16384, seqLimit} {
				l := append(versionsOf("\x00", 5, 9), setEnt(strings.Repeat("k", keyLength), seq, strings.Repeat("\x01", valLength)), delEnt(strings.Repeat("l", keyLength), seq))
				x := mustTable(t, l)
				checkTableEnts(t, x, l)
				checkReadTable(t, tableText(x), x)
				checkTableGet(t, x, l[5].Key, seq, l[5], 1)
				checkTableGet(t, x, l[6].Key, seq, l[6], 1)
				checkTableGet(t, x, l[6].Key, seq-1, impl.Ent{}, 1)
			}
		}
	}
}

// seqsNear lists the numbers at, below and above those of the key's versions, and those at and beyond the limits.
func seqsNear(l []impl.Ent, key string) []int {
	var versions []impl.Ent
	for _, e := range l {
		if e.Key == key {
			versions = append(versions, e)
		}
	}
	return nearSeqs(versions)
}

// checkTableLookups holds TableGet against the entries, for each key and those next to it.
func checkTableLookups(t *testing.T, l []impl.Ent) {
	t.Helper()
	x := mustTable(t, l)
	for _, key := range nearKeys(l) {
		for _, seq := range seqsNear(l, key) {
			want, read := plainTableGet(l, key, seq)
			checkTableGet(t, x, key, seq, want, read)
			checkMemGet(t, l, key, seq, want, want.Key != "")
		}
	}
}

func TestTableGetReturnsWhatTheEntriesContain(t *testing.T) {
	for _, l := range tableLists() {
		checkTableLookups(t, l)
	}
}

func TestTableGetOfThrownEntries(t *testing.T) {
	throw := dice(41)
	for _, c := range []struct {
		keys   []string
		counts []int
		seqs   int
	}{
		{[]string{"k"}, []int{1, 6, 7, 40, 60}, 70},
		{[]string{"a", "a\x00"}, []int{11, 12, 13, 60}, 40},
		{[]string{"a", "k", "z"}, []int{18, 30, 60}, 30},
		{allStrings("\x00a\xff", 2)[1:], []int{5, 24, 59, 60}, 12},
		{numbered(60), []int{13, 59, 60}, 3},
		{append(allStrings("ab", 3)[1:], strings.Repeat("b", 10)), []int{7, 33, 60}, seqLimit + 1},
	} {
		for _, count := range c.counts {
			l := plainOrder(thrownEnts(throw, c.keys, count, c.seqs))
			checkTableOf(t, l, plainTable(l), true)
			checkTableEnts(t, plainTable(l), l)
			checkReadTable(t, impl.ShowTable(plainTable(l)), plainTable(l))
			checkTableLookups(t, l)
		}
	}
}

func TestVersionsThatContinueInTheNextPart(t *testing.T) {
	l := continued()
	x := mustTable(t, l)
	for i, p := range []impl.Part{
		{Last: "k", Text: blockText(append(entsFor(setEnt("a", 9, "x")), versionsOf("k", 5, 26)...))},
		{Last: "k", Text: blockText(versionsOf("k", 6, 20))},
		{Last: "n", Text: blockText(append(versionsOf("k", 2, 18), setEnt("m", 5, "m5"), delEnt("m", 4), setEnt("n", 3, "n3"), setEnt("n", 2, "")))},
		{Last: "z", Text: blockText(entsFor(delEnt("n", 1), setEnt("z", 7, "z7")))},
	} {
		if x.Parts[i] != p {
			t.Fatalf("part %d is %q, want %q", i, x.Parts[i], p)
		}
	}
	for _, c := range []struct {
		key  string
		seq  int
		want impl.Ent
		read int
	}{
		{"a", 9, setEnt("a", 9, "x"), 1},
		{"a", 8, impl.Ent{}, 1},
		// In the first, the second and the third part, and below all.
		{"k", math.MaxInt, delEnt("k", 30), 1},
		{"k", 30, delEnt("k", 30), 1},
		{"k", 29, setEnt("k", 29, "29"), 1},
		{"k", 26, setEnt("k", 26, "26"), 1},
		{"k", 25, setEnt("k", 25, "25"), 2},
		{"k", 24, delEnt("k", 24), 2},
		{"k", 20, setEnt("k", 20, "20"), 2},
		{"k", 19, setEnt("k", 19, "19"), 3},
		{"k", 18, delEnt("k", 18), 3},
		{"k", 17, impl.Ent{}, 3},
		{"k", 0, impl.Ent{}, 3},
		{"k", -1, impl.Ent{}, 3},
		// In the third part alone, the last key of which is greater.
		{"m", 5, setEnt("m", 5, "m5"), 1},
		{"m", 4, delEnt("m", 4), 1},
		{"m", 3, impl.Ent{}, 1},
		// In the third and the fourth one.
		{"n", 4, setEnt("n", 3, "n3"), 1},
		{"n", 2, setEnt("n", 2, ""), 1},
		{"n", 1, delEnt("n", 1), 2},
		{"n", 0, impl.Ent{}, 2},
		// In the last one, behind which there is no further one.
		{"z", 7, setEnt("z", 7, "z7"), 1},
		{"z", 6, impl.Ent{}, 1},
	} {
		checkTableGet(t, x, c.key, c.seq, c.want, c.read)
	}
}

// The parts that are read follow here from the places of the entries alone: those from that of the newest version on.
func TestVersionsAcrossParts(t *testing.T) {
	inPart := map[int]int{}
	for before := range 8 {
		for after := range 8 {
			for versions := 1; versions <= 20; versions++ {
				l := around(before, versions, after)
				x := mustTable(t, l)
				first := before / 6
				for j := range versions {
					e, read := l[before+j], (before+j)/6-first+1
					inPart[read]++
					checkTableGet(t, x, "k", e.Seq, e, read)
				}
				checkTableGet(t, x, "k", math.MaxInt, l[before], 1)
				// The part of the next key is read to learn that there is no older version; behind the last entry there is none.
				read := (before+versions)/6 - first + 1
				if after == 0 {
					read = len(x.Parts) - first
				}
				checkTableGet(t, x, "k", 9, impl.Ent{}, read)
				checkTableGet(t, x, "k", -1, impl.Ent{}, read)
			}
		}
	}
	for read := 1; read <= 4; read++ {
		if inPart[read] == 0 {
			t.Errorf("no version was found in the part number %d", read)
		}
	}
}

func TestVersionsThatEndWithAPart(t *testing.T) {
	for _, c := range []struct {
		before, versions, after int
		seq                     int
		found                   bool
		read                    int
	}{
		// At the end of the first part, with another one behind it and with none.
		{4, 2, 3, 10, true, 1}, {4, 2, 3, 9, false, 2}, {4, 2, 0, 9, false, 1},
		{0, 6, 3, 10, true, 1}, {0, 6, 3, 9, false, 2}, {0, 6, 0, 9, false, 1},
		// At the end of the second one.
		{4, 8, 3, 10, true, 2}, {4, 8, 3, 9, false, 3}, {4, 8, 0, 9, false, 2},
		{0, 12, 3, 16, true, 1}, {0, 12, 3, 15, true, 2}, {0, 12, 3, 9, false, 3}, {0, 12, 0, 9, false, 2},
		{6, 6, 3, 10, true, 1}, {6, 6, 3, 9, false, 2}, {6, 6, 0, 9, false, 1},
		// A part of its versions alone between two others.
		{5, 8, 2, 17, true, 1}, {5, 8, 2, 16, true, 2}, {5, 8, 2, 11, true, 2}, {5, 8, 2, 10, true, 3}, {5, 8, 2, 9, false, 3},
		{5, 13, 2, 10, true, 3}, {5, 13, 2, 9, false, 4}, {5, 13, 0, 9, false, 3},
		// One entry short of the end of a part, and one behind it.
		{4, 1, 3, 9, false, 1}, {4, 3, 3, 10, true, 2}, {4, 3, 3, 9, false, 2},
	} {
		x := mustTable(t, around(c.before, c.versions, c.after))
		want := impl.Ent{}
		if c.found {
			for _, e := range versionsOf("k", c.versions, 10) {
				if e.Seq == c.seq {
					want = e
				}
			}
		}
		checkTableGet(t, x, "k", c.seq, want, c.read)
	}
}

func TestPartsOfOneKeyAlone(t *testing.T) {
	for count := 1; count <= memLimit; count++ {
		l := versionsOf("k", count, 5)
		x := mustTable(t, l)
		for i, e := range l {
			checkTableGet(t, x, "k", e.Seq, e, i/6+1)
		}
		checkTableGet(t, x, "k", 4, impl.Ent{}, len(x.Parts))
		checkTableGet(t, x, "k", math.MinInt, impl.Ent{}, len(x.Parts))
	}
	// With gaps between the numbers.
	l := oneKeyOften("key")
	x := mustTable(t, l)
	for seq := -1; seq <= 16400; seq++ {
		want, read := plainTableGet(l, "key", seq)
		checkTableGet(t, x, "key", seq, want, read)
	}
}

// seemingKeys returns keys that are not among the entries but that the filter reports: a few that begin with each key, and some ahead of and behind all.
func seemingKeys(l []impl.Ent) []string {
	var seeming []string
	bloom, keys := plainBloom(keysIn(l), tableBloom), keysIn(l)
	for _, head := range append([]string{"", "\xfe", "zz"}, slices.Compact(slices.Clone(keys))...) {
		found := 0
		for i := 0; i < 20000 && found < 5; i++ {
			key := head + impl.Dec(i)
			if impl.BloomMay(bloom, key) && plainMay(bloom, key) && !slices.Contains(keys, key) {
				seeming = append(seeming, key)
				found++
			}
		}
	}
	return seeming
}

func TestTableGetOfKeysThatSeemToBeContained(t *testing.T) {
	ahead, inside, between, behind := 0, 0, 0, 0
	for _, l := range [][]impl.Ent{manyEnts(60), wideKeys(60), wideKeys(13), versionedKeys(), continued(), lettered(26, "", 5, "x"), lettered(7, "", 5, "x")} {
		x := mustTable(t, l)
		for _, key := range seemingKeys(l) {
			want := 1
			at, _ := slices.BinarySearch(keysIn(l), key)
			switch {
			case at == 0:
				ahead++
			case at == len(l):
				behind++
				want = 0
			case at%6 == 0:
				between++
			default:
				inside++
			}
			for _, seq := range []int{-1, 5, math.MaxInt} {
				checkTableGet(t, x, key, seq, impl.Ent{}, want)
			}
		}
	}
	if ahead == 0 || inside == 0 || between == 0 || behind == 0 {
		t.Errorf("%d keys ahead of all, %d inside a part, %d between parts and %d behind all were asked for", ahead, inside, between, behind)
	}
}

func TestTableGetBehindTheKeysOfASmallTable(t *testing.T) {
	for _, l := range [][]impl.Ent{{setEnt("a", 5, "x")}, versionsOf("k", 13, 5), around(2, 3, 0)} {
		x := mustTable(t, l)
		ahead, behind := 0, 0
		for i := 0; i < 3000000 && (ahead == 0 || behind == 0); i++ {
			for _, key := range []string{"!" + impl.Dec(i), "~" + impl.Dec(i)} {
				if !impl.BloomMay(x.Bloom, key) {
					continue
				}
				if key < l[0].Key {
					ahead++
					checkTableGet(t, x, key, 5, impl.Ent{}, 1)
				} else {
					behind++
					checkTableGet(t, x, key, 5, impl.Ent{}, 0)
				}
			}
		}
		if ahead == 0 || behind == 0 {
			t.Errorf("no key ahead of or behind %q seems to be contained", keysIn(l))
		}
	}
}

func TestTableGetReadsNothingWhereTheFilterExcludesTheKey(t *testing.T) {
	for _, l := range tableLists() {
		x := mustTable(t, l)
		excluded := 0
		for i := range 200 {
			key := "a" + impl.Dec(i)
			if plainMay(x.Bloom, key) {
				continue
			}
			excluded++
			checkTableGet(t, x, key, math.MaxInt, impl.Ent{}, 0)
			checkTableGet(t, x, key, 0, impl.Ent{}, 0)
		}
		if excluded == 0 {
			t.Errorf("the filter of %q excludes no key", keysIn(l))
		}
	}
}

// What is no valid key is looked up as any other.
func TestTableGetOfInvalidKeys(t *testing.T) {
	seen := [2]int{}
	for _, l := range append(tableLists(), wideKeys(58), wideKeys(59)) {
		x := mustTable(t, l)
		for _, key := range []string{"", strings.Repeat("\x00", 11), "a0123456789", "b0123456789", "k0123456789", strings.Repeat("z", 5000)} {
			want, read := plainTableGet(l, key, 9)
			if want != (impl.Ent{}) || read > 1 {
				t.Fatalf("the tests find %q", key)
			}
			seen[read]++
			checkTableGet(t, x, key, 9, impl.Ent{}, read)
		}
	}
	if seen[0] == 0 || seen[1] == 0 {
		t.Errorf("%d invalid keys have 0 and 1 parts that are read", seen)
	}
}

// brokenTable is no table, for one reason.
type brokenTable struct {
	what  string
	table impl.Table
}

// withParts returns the table of l with other parts.
func withParts(l []impl.Ent, parts ...impl.Part) impl.Table {
	t := plainTable(l)
	t.Parts = parts
	return t
}

func brokenParts(l []impl.Ent) []brokenTable {
	var list []brokenTable
	right := plainTable(l)
	parts := right.Parts
	add := func(what string, changed ...[]impl.Part) {
		list = append(list, brokenTable{what, impl.Table{Parts: slices.Concat(changed...), Bloom: right.Bloom, Max: right.Max}})
	}
	add("no parts")
	for every := 1; every <= blockLimit; every++ {
		if other := tableInParts(l, every).Parts; every != tableEvery && !slices.Equal(other, parts) {
			add("parts of another length", other)
		}
	}
	for i, p := range parts {
		ents := l[6*i : min(6*i+6, len(l))]
		add("an empty part", parts[:i], []impl.Part{{}}, parts[i:])
		add("a part that is empty", parts[:i], []impl.Part{{}}, parts[i+1:])
		add("a part without its text", parts[:i], []impl.Part{{Last: p.Last}}, parts[i+1:])
		add("a part twice", parts[:i], []impl.Part{p}, parts[i:])
		add("a part at the end again", parts, []impl.Part{p})
		for at := 1; at < len(ents); at++ {
			add("a part in two", parts[:i], tableInParts(ents[:at], 6).Parts, tableInParts(ents[at:], 6).Parts, parts[i+1:])
		}
		if i > 0 {
			both := tableInParts(l[6*i-6:min(6*i+6, len(l))], 12).Parts
			add("two parts in one", parts[:i-1], both, parts[i+1:])
			add("two parts in one, and nothing", parts[:i-1], both, []impl.Part{{Last: p.Last}}, parts[i+1:])
			add("two parts exchanged", parts[:i-1], []impl.Part{p, parts[i-1]}, parts[i+1:])
			add("two texts exchanged", parts[:i-1], []impl.Part{{Last: parts[i-1].Last, Text: p.Text}, {Last: p.Last, Text: parts[i-1].Text}}, parts[i+1:])
		}
	}
	add("an empty part at the end", parts, []impl.Part{{}})
	add("all parts twice", parts, parts)
	add("many parts", slices.Repeat(parts, 2000))
	add("many empty parts", parts, make([]impl.Part, 1000))
	return list
}

func brokenTexts(l []impl.Ent) []brokenTable {
	var list []brokenTable
	right := plainTable(l)
	for i, p := range right.Parts {
		add := func(what string, part impl.Part) {
			if part != p {
				t := cloneTable(right)
				t.Parts[i] = part
				list = append(list, brokenTable{what, t})
			}
		}
		end := len(p.Last) - 1
		for _, last := range []string{"", p.Last + "\x00", p.Last + p.Last, p.Last[:end], p.Last[:end] + string([]byte{p.Last[end] ^ 1}), p.Last[:end] + string([]byte{p.Last[end] + 1}), "k", "\x00", "\xff", l[0].Key, l[6*i].Key, l[len(l)-1].Key, strings.Repeat("k", 300)} {
			add("another last key", impl.Part{Last: last, Text: p.Text})
		}
		for at := range len(p.Text) {
			add("a text cut off", impl.Part{Last: p.Last, Text: p.Text[:at]})
		}
		for _, text := range []string{p.Text + "\x00", "\x00" + p.Text, p.Text[1:], p.Text + p.Text, p.Last, "\x00\x00"} {
			add("a text that is no block", impl.Part{Last: p.Last, Text: text})
		}
		add("the text as the last key", impl.Part{Last: p.Text, Text: p.Last})
	}
	return list
}

func brokenFilters(l []impl.Ent) []brokenTable {
	var list []brokenTable
	right := plainTable(l)
	add := func(what string, bloom string, most int) {
		t := cloneTable(right)
		t.Bloom, t.Max = bloom, most
		list = append(list, brokenTable{what, t})
	}
	for bit := range 8 * tableBloom {
		add("a bit of the filter", flipBit(right.Bloom, bit), right.Max)
	}
	for length := range tableBloom {
		add("a shorter filter", right.Bloom[:length], right.Max)
		add("a smaller filter", plainBloom(keysIn(l), length+1)[:length], right.Max)
	}
	for _, bloom := range []string{right.Bloom + "\x00", right.Bloom + "\xff", "\x00" + right.Bloom, right.Bloom + right.Bloom, plainBloom(keysIn(l), 17), plainBloom(keysIn(l), 64), fullFilter(16), emptyFilter(16), plainBloom([]string{"no"}, 16)} {
		add("another filter", bloom, right.Max)
	}
	for _, most := range []int{right.Max - 1, right.Max + 1, right.Max + 128, right.Max + 1<<32, -1, -right.Max - 1, math.MinInt, math.MaxInt, impl.MaxVar, seqLimit + 1} {
		add("another Max", right.Bloom, most)
	}
	if right.Max != 0 {
		add("no Max", right.Bloom, 0)
		add("a negative Max", right.Bloom, -right.Max)
	}
	return list
}

// brokenTables returns what is no table, whatever the entries are.
func brokenTables(l []impl.Ent) []brokenTable {
	return slices.Concat(brokenParts(l), brokenTexts(l), brokenFilters(l))
}

// brokenLists lists entries to break tables of; the number of changes grows with their size.
func brokenLists() [][]impl.Ent {
	return append(smallTables(), continued(), versionedKeys(), versionsOf("k", 12, 1), versionsOf("k", 14, 0), lettered(12, "", 9, "v"), wideKeys(13), manyEnts(60))
}

func TestTablesThatAreNoResultsOfTableOf(t *testing.T) {
	for _, l := range brokenLists() {
		for _, c := range brokenTables(l) {
			checkNotATable(t, c.what, c.table)
		}
		checkAnyTable(t, "a table", plainTable(l))
	}
	checkNotATable(t, "the zero Table", impl.Table{})
	checkNotATable(t, "no parts but an empty list", impl.Table{Parts: []impl.Part{}, Bloom: plainBloom(nil, 16)})
	checkNotATable(t, "one empty part", impl.Table{Parts: make([]impl.Part, 1), Bloom: plainBloom(nil, 16)})
}

// These may be tables of other entries, as are six of twelve versions of one key.
func TestTablesThatMayBeThoseOfOtherEntries(t *testing.T) {
	is, not := map[string]int{}, map[string]int{}
	try := func(what string, x impl.Table) {
		if checkAnyTable(t, what, x) {
			is[what]++
		} else {
			not[what]++
		}
	}
	for _, l := range brokenLists() {
		right := plainTable(l)
		for i, p := range right.Parts {
			try("a part left out", withParts(l, slices.Delete(slices.Clone(right.Parts), i, i+1)...))
			try("the parts behind it left out", withParts(l, right.Parts[:i]...))
			for at := range len(p.Text) {
				for _, change := range []byte{1, 4, 128} {
					x := cloneTable(right)
					x.Parts[i].Text = replaceByte(p.Text, at, p.Text[at]^change)
					try("a changed text", x)
				}
			}
			for _, other := range brokenLists() {
				x := cloneTable(right)
				x.Parts[i].Text = blockText(other[:min(6, len(other))])
				try("a text of other entries", x)
				x.Parts[i].Text = blockText(other[len(other)-min(6, len(other)):])
				try("a text of other entries", x)
			}
		}
	}
	for _, what := range []string{"a part left out", "the parts behind it left out", "a changed text", "a text of other entries"} {
		if is[what] == 0 || not[what] == 0 {
			t.Errorf("%s: %d tables, %d others", what, is[what], not[what])
		}
	}
}

// The entries of these tables are invalid, but nothing else is wrong with them.
func TestTablesOfInvalidEntries(t *testing.T) {
	tried := 0
	for _, l := range append(invalidMems(), manyEnts(61), wideKeys(61), wideKeys(66), versionsOf("k", 61, 0), versionsOf("k", 72, 0)) {
		if slices.ContainsFunc(l, func(e impl.Ent) bool { return e.Seq < 0 }) {
			continue
		}
		tried++
		checkNotATable(t, "invalid entries", plainTable(l))
		checkNoTable(t, "invalid entries", tableText(plainTable(l)))
	}
	if tried < 20 {
		t.Errorf("only %d lists were tried", tried)
	}
	// Each part is in order, but not the whole.
	for _, l := range [][]impl.Ent{
		slices.Concat(wideKeys(12)[6:], wideKeys(6)),
		slices.Concat(wideKeys(6), wideKeys(6)),
		slices.Concat(versionsOf("k", 6, 1), versionsOf("k", 6, 7)),
		slices.Concat(versionsOf("k", 6, 6), versionsOf("k", 6, 1)),
		slices.Concat(versionsOf("k", 6, 1), versionsOf("k", 6, 1)),
		slices.Concat(versionsOf("k", 6, 9), versionsOf("k", 1, 9)),
		slices.Concat(versionsOf("l", 6, 9), versionsOf("k", 1, 1)),
	} {
		checkNotATable(t, "parts that do not follow each other", plainTable(l))
		checkNoTable(t, "parts that do not follow each other", tableText(plainTable(l)))
	}
}

func TestReadTableOfTablesThatAreNoResults(t *testing.T) {
	checkNoTable(t, "the zero Table", tableText(impl.Table{}))
	for _, l := range brokenLists() {
		for _, c := range brokenTables(l) {
			if c.table.Max >= 0 {
				checkNoTable(t, c.what, tableText(c.table))
			}
		}
	}
}

func TestReadTableOfShortStrings(t *testing.T) {
	for _, s := range allStrings(allBytes(), 2) {
		checkNoTable(t, "a short string", s)
	}
	for _, s := range allStrings("\x00\x01\x02\x0a\x10a\x80\xff", 5) {
		checkNoTable(t, "a short string", s)
	}
	checkNoTable(t, "no parts", "")
	for size := range 40 {
		checkNoTable(t, "no parts", strings.Repeat("\x00", size))
		checkNoTable(t, "one empty part", "\x01\x00\x00"+strings.Repeat("\x00", size))
		checkNoTable(t, "ten empty parts", "\x0a"+strings.Repeat("\x00\x00", 10)+strings.Repeat("\x00", size))
	}
	for b := range 256 {
		for _, size := range []int{1, 2, 3, 16, 17, 18, 31, 100, 70000} {
			checkNoTable(t, "one byte repeated", strings.Repeat(string([]byte{byte(b)}), size))
		}
	}
}

// componentSet is what strings of one part are put together from.
type componentSet struct {
	lasts, texts, blooms, ends []string
}

func componentsOf(lists [][]impl.Ent) componentSet {
	var c componentSet
	for _, l := range lists {
		x := plainTable(l)
		c.lasts = append(c.lasts, x.Parts[0].Last)
		c.texts = append(c.texts, x.Parts[0].Text)
		c.blooms = append(c.blooms, x.Bloom)
		c.ends = append(c.ends, plainVar(x.Max, 0))
	}
	for _, list := range []*[]string{&c.lasts, &c.texts, &c.blooms, &c.ends} {
		slices.Sort(*list)
		*list = slices.Compact(*list)
	}
	return c
}

func TestReadTableAcceptsExactlyTheTables(t *testing.T) {
	var lists [][]impl.Ent
	for _, key := range []string{"a", "b", "ab"} {
		for _, seq := range []int{0, 1, 300} {
			lists = append(lists, entsFor(setEnt(key, seq, "")), entsFor(setEnt(key, seq, "v")), entsFor(delEnt(key, seq)))
		}
	}
	lists = append(lists, entsFor(setEnt("a", 1, ""), setEnt("b", 0, "")), entsFor(setEnt("a", 300, ""), delEnt("b", 0)), entsFor(delEnt("a", 0), setEnt("ab", 1, "v")))
	tables := map[string]impl.Table{}
	for _, l := range lists {
		tables[tableText(plainTable(l))] = plainTable(l)
	}
	found := 0
	c := componentsOf(lists)
	for _, last := range append(c.lasts, "") {
		for _, text := range append(c.texts, "") {
			for _, bloom := range append(c.blooms, "", emptyFilter(16)) {
				for _, end := range append(c.ends, "", "\x02") {
					s := "\x01" + sizedPart(impl.Part{Last: last, Text: text}) + bloom + end
					if want, is := tables[s]; is {
						found++
						checkReadTable(t, s, want)
					} else {
						checkNoTable(t, "parts of other tables", s)
					}
				}
			}
		}
	}
	if found != len(tables) {
		t.Errorf("%d of %d tables are among the strings", found, len(tables))
	}
}

// A changed byte may make another table, as a byte of a value does, but never a string that ShowTable does not return.
func TestReadTableWithEveryChangeOfAByte(t *testing.T) {
	other, none := 0, 0
	for _, l := range smallTables() {
		s := tableText(plainTable(l))
		for at := range len(s) {
			for change := 1; change < 256; change++ {
				if checkPerhapsTable(t, "a changed byte", replaceByte(s, at, s[at]^byte(change))) {
					other++
				} else {
					none++
				}
			}
		}
	}
	if other == 0 || none == 0 {
		t.Errorf("%d changed bytes made another table, %d did not", other, none)
	}
}

func TestReadTableWithAChangedByte(t *testing.T) {
	for _, l := range brokenLists() {
		x := plainTable(l)
		s := tableText(x)
		// Behind the parts stand the filter and Max, which follow from the entries.
		end := len(s) - len(x.Bloom) - len(plainVar(x.Max, 0))
		for at := range len(s) {
			for _, change := range []byte{1, 4, 64, 128, 255} {
				changed := replaceByte(s, at, s[at]^change)
				if at >= end {
					checkNoTable(t, "a changed byte of the filter or of Max", changed)
				} else {
					checkPerhapsTable(t, "a changed byte", changed)
				}
			}
		}
	}
}

func TestReadTableCutOff(t *testing.T) {
	for _, l := range tableLists() {
		s := tableText(plainTable(l))
		for at := range len(s) {
			checkNoTable(t, "cut off", s[:at])
		}
		for at := 1; at < len(s); at++ {
			checkPerhapsTable(t, "the front cut off", s[at:])
			checkPerhapsTable(t, "a byte left out", s[:at]+s[at+1:])
		}
	}
}

func TestReadTableWithBytesAdded(t *testing.T) {
	for _, l := range brokenLists() {
		s := tableText(plainTable(l))
		for b := range 256 {
			one := string([]byte{byte(b)})
			checkNoTable(t, "a byte behind its end", s+one)
			checkPerhapsTable(t, "a byte ahead of it", one+s)
		}
		for at := 1; at < len(s); at++ {
			for _, more := range []string{"\x00", "\x01", "\x80", "\xff", s[at : at+1], "\x01\x00", "\x00\x00"} {
				checkPerhapsTable(t, "bytes in its middle", s[:at]+more+s[at:])
			}
		}
		checkNoTable(t, "the same again", s+s)
		checkNoTable(t, "a long string behind its end", s+strings.Repeat("\x00", 100000))
		checkNoTable(t, "a long string ahead of it", strings.Repeat("\x01", 100000)+s)
	}
}

func TestReadTableWithAnotherNumberOfParts(t *testing.T) {
	for _, l := range tableLists() {
		x := plainTable(l)
		rest := tableText(x)[1:]
		counts := []int{127, 128, 255, 256, 1000, 16384, 1 << 32, impl.MaxVar - 1, impl.MaxVar, impl.MaxVar + 1, 1 << 62}
		for count := range 70 {
			counts = append(counts, count)
		}
		for _, count := range counts {
			if count != len(x.Parts) {
				checkNoTable(t, "another number of parts", plainVar(count, 0)+rest)
			}
		}
		checkNoTable(t, "no number of parts", rest)
		for extra := 1; extra <= 9; extra++ {
			checkNoTable(t, "a longer number of parts", plainVar(len(x.Parts), extra)+rest)
		}
		for size := 1; size < 12; size++ {
			checkNoTable(t, "no end of the number of parts", strings.Repeat("\x80", size)+rest)
			checkNoTable(t, "no end of the number of parts", strings.Repeat("\xff", size))
		}
	}
}

// Spelled like this, the number of parts and what follows it do not fit together.
func TestReadTableWithAPartMoreOrLess(t *testing.T) {
	for _, l := range tableLists() {
		x := plainTable(l)
		end := x.Bloom + plainVar(x.Max, 0)
		spell := func(count int, parts ...impl.Part) string {
			s := plainVar(count, 0)
			for _, p := range parts {
				s += sizedPart(p)
			}
			return s + end
		}
		count, last := len(x.Parts), len(x.Parts)-1
		checkReadTable(t, spell(count, x.Parts...), x)
		checkNoTable(t, "a part missing", spell(count, x.Parts[:last]...))
		checkNoTable(t, "a part missing", spell(count, x.Parts[1:]...))
		checkNoTable(t, "a part more", spell(count, append(slices.Clone(x.Parts), x.Parts[last])...))
		checkNoTable(t, "an empty part more", spell(count, append(slices.Clone(x.Parts), impl.Part{})...))
		checkNoTable(t, "a counted part more", spell(count+1, append(slices.Clone(x.Parts), x.Parts[last])...))
		checkNoTable(t, "a counted empty part more", spell(count+1, append(slices.Clone(x.Parts), impl.Part{})...))
		checkNoTable(t, "no parts", spell(0))
		checkNoTable(t, "no parts", spell(count))
	}
}

// spelledParts returns a table's string, with the lengths of one part spelled otherwise.
func spelledParts(x impl.Table, at int, lastSize string, textSize string) string {
	s := plainVar(len(x.Parts), 0)
	for i, p := range x.Parts {
		if i == at {
			s += lastSize + p.Last + textSize + p.Text
		} else {
			s += sizedPart(p)
		}
	}
	return s + x.Bloom + plainVar(x.Max, 0)
}

func TestReadTableWithOtherLengths(t *testing.T) {
	for _, l := range tableLists() {
		x := plainTable(l)
		whole := len(tableText(x))
		for i, p := range x.Parts {
			last, text := len(p.Last), len(p.Text)
			lastSize, textSize := plainVar(last, 0), plainVar(text, 0)
			checkReadTable(t, spelledParts(x, i, lastSize, textSize), x)
			for extra := 1; extra <= 9; extra++ {
				checkNoTable(t, "a longer length of a last key", spelledParts(x, i, plainVar(last, extra), textSize))
				checkNoTable(t, "a longer length of a text", spelledParts(x, i, lastSize, plainVar(text, extra)))
			}
			for _, length := range []int{0, 1, 10, 11, last - 1, last + 1, text, text - 1, text + 1, 127, 128, whole, whole + 1, 300, 65536, 1 << 31, 1 << 32, impl.MaxVar - 1, impl.MaxVar, impl.MaxVar + 1, 1 << 62} {
				if length != last {
					checkPerhapsTable(t, "another length of a last key", spelledParts(x, i, plainVar(length, 0), textSize))
				}
				if length != text {
					checkPerhapsTable(t, "another length of a text", spelledParts(x, i, lastSize, plainVar(length, 0)))
				}
				if length > whole {
					checkNoTable(t, "a length beyond the end", spelledParts(x, i, plainVar(length, 0), textSize))
					checkNoTable(t, "a length beyond the end", spelledParts(x, i, lastSize, plainVar(length, 0)))
				}
			}
			checkNoTable(t, "no length of a last key", spelledParts(x, i, "", textSize))
			checkNoTable(t, "no length of a text", spelledParts(x, i, lastSize, ""))
		}
	}
}

func TestReadTableWithAnotherEnd(t *testing.T) {
	for _, l := range tableLists() {
		x := plainTable(l)
		most := plainVar(x.Max, 0)
		head := strings.TrimSuffix(tableText(x), x.Bloom+most)
		for extra := 1; extra <= 9; extra++ {
			checkNoTable(t, "a longer Max", head+x.Bloom+plainVar(x.Max, extra))
		}
		for _, other := range []int{0, 1, x.Max - 1, x.Max + 1, x.Max + 128, 127, 128, seqLimit, seqLimit + 1, impl.MaxVar, impl.MaxVar + 1, 1 << 62} {
			if other != x.Max {
				checkNoTable(t, "another Max", head+x.Bloom+plainVar(other, 0))
			}
		}
		for _, end := range []string{"", x.Bloom, most, most + x.Bloom, x.Bloom + most + most, x.Bloom + x.Bloom + most, "\x10" + x.Bloom + most, x.Bloom[1:] + most, x.Bloom + "\x00" + most, emptyFilter(16) + most, fullFilter(16) + most} {
			checkNoTable(t, "another end", head+end)
		}
	}
}

func TestReadTableOfPartsPutTogether(t *testing.T) {
	made := 0
	lists := append(smallTables()[:5], entsFor(setEnt("a", 0, "v")), lettered(7, "", 5, "w"))
	for _, first := range lists {
		for _, second := range lists {
			for _, whole := range joined(tableText(plainTable(first)), tableText(plainTable(second))) {
				if checkPerhapsTable(t, "parts put together", whole) {
					made++
				}
			}
		}
	}
	if made == 0 {
		t.Error("no two parts made another table")
	}
}

// wideTable returns a table with further parts in its unused capacity.
func wideTable(x impl.Table) (wide impl.Table, whole []impl.Part) {
	whole = slices.Concat(x.Parts, []impl.Part{{Last: "unused", Text: "capacity"}, {}, {Last: "k", Text: blockText(manyEnts(3))}})
	x.Parts = whole[:len(x.Parts)]
	return x, whole
}

// scribbleTable writes over the parts of a table and their unused capacity.
func scribbleTable(x impl.Table) {
	parts := x.Parts[:cap(x.Parts)]
	for i := range parts {
		parts[i] = impl.Part{Last: "scribble", Text: "written over"}
	}
}

func TestTableFunctionsLeaveTheirArguments(t *testing.T) {
	tables := []impl.Table{{}}
	for _, l := range tableLists() {
		tables = append(tables, plainTable(l))
	}
	for _, c := range brokenTables(continued()) {
		tables = append(tables, c.table)
	}
	for _, x := range tables {
		wide, whole := wideTable(x)
		before := slices.Clone(whole)
		impl.TableEnts(wide)
		impl.ShowTable(wide)
		for _, key := range []string{"", "a", "k", "z", "one key 10"} {
			impl.TableGet(wide, key, 9)
			impl.TableGet(wide, key, -1)
		}
		if len(wide.Parts) != len(x.Parts) || !slices.Equal(whole, before) {
			t.Fatalf("a call with %s wrote into its argument", tellTable(x))
		}
	}
	for _, l := range append(tableLists(), invalidMems()...) {
		list, whole := wideEnts(l)
		before := slices.Clone(whole)
		impl.TableOf(list)
		if len(list) != len(l) || !slices.Equal(whole, before) {
			t.Fatalf("TableOf(%#v) wrote into its argument", l)
		}
	}
}

func TestTableResultsAreNewMemory(t *testing.T) {
	for _, l := range tableLists() {
		list, _ := wideEnts(l)
		first, second := mustTable(t, list), mustTable(t, list)
		want := plainTable(l)
		scribbleEnts(list)
		scribbleTable(first)
		if !sameTable(second, want) {
			t.Fatalf("a result of TableOf(%#v) shares memory with its argument or another result", l)
		}
		ents, _ := impl.TableEnts(second)
		again, _ := impl.TableEnts(second)
		s := impl.ShowTable(second)
		read, _ := impl.ReadTable(s)
		reread, _ := impl.ReadTable(s)
		kept := strings.Clone(s)
		scribbleEnts(ents)
		scribbleTable(read)
		if !sameTable(second, want) || !slices.Equal(again, l) || !sameTable(reread, want) || s != kept {
			t.Fatalf("results for the table of %#v share memory", l)
		}
		scribbleTable(second)
		if !slices.Equal(again, l) || !sameTable(reread, want) {
			t.Fatalf("results for the table of %#v change with it", l)
		}
	}
}

func TestTablesOfNilAndEmptyLists(t *testing.T) {
	for _, l := range [][]impl.Ent{nil, {}, make([]impl.Ent, 0, 4)} {
		checkTableOf(t, l, impl.Table{}, false)
	}
	for _, parts := range [][]impl.Part{nil, {}, make([]impl.Part, 0, 4), make([]impl.Part, 1), make([]impl.Part, 10), make([]impl.Part, 11)} {
		for _, bloom := range []string{"", emptyFilter(16), fullFilter(16)} {
			for _, most := range []int{-1, 0, 1} {
				checkNotATable(t, "nothing", impl.Table{Parts: parts, Bloom: bloom, Max: most})
			}
		}
	}
}

func TestTableFunctionsKeepNoState(t *testing.T) {
	l := continued()
	x := plainTable(l)
	for i := range 20 {
		other := manyEnts(1 + 3*i)
		impl.TableOf(other)
		impl.TableEnts(plainTable(other))
		impl.TableGet(plainTable(other), "k", 20)
		impl.TableGet(plainTable(versionsOf("k", 40, i)), "k", 20)
		impl.ShowTable(plainTable(other))
		impl.ReadTable(tableText(plainTable(other)))
		impl.TableOf(wideKeys(61))
		impl.TableEnts(withParts(l, x.Parts[1:]...))
		impl.ReadTable(tableText(x)[:40+i])
		checkTableOf(t, l, x, true)
		checkTableEnts(t, x, l)
		checkTableGet(t, x, "k", 20, setEnt("k", 20, "20"), 2)
		checkTableGet(t, x, "k", 17, impl.Ent{}, 3)
		checkShowTable(t, x, tableText(x))
		checkReadTable(t, tableText(x), x)
		checkNotATable(t, "the zero Table", impl.Table{})
		checkNoTable(t, "nothing", "")
	}
	if !sameTable(x, plainTable(l)) {
		t.Error("the table changed")
	}
}
