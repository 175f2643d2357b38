package tests

import (
	"encoding/hex"
	"math"
	"slices"
	"strings"
	"testing"

	"loop.example/g00950/impl"
)

const (
	blockEvery = 4
	blockLimit = 16
)

// The parts that spell an entry, in order.
const (
	partShared = iota
	partRestSize
	partRest
	partSeq
	partMark
	partValSize
	partVal
	entParts
)

// spelledEnt is an entry of a block part by part, so that a single part can be spelled wrongly.
type spelledEnt [entParts]string

// plainShared returns the length of the longest prefix of key that last begins with.
func plainShared(last string, key string) int {
	n := len(key)
	for !strings.HasPrefix(last, key[:n]) {
		n--
	}
	return n
}

// spellEnt spells an entry of whose key so many bytes are left out; it knows no limits.
func spellEnt(e impl.Ent, shared int) spelledEnt {
	mark := "\x00"
	if e.Del {
		mark = "\x01"
	}
	rest := e.Key[shared:]
	return spelledEnt{plainVar(shared, 0), plainVar(len(rest), 0), rest, plainVar(e.Seq, 0), mark, plainVar(len(e.Val), 0), e.Val}
}

// spellEnts spells entries as the document says; it knows no limits.
func spellEnts(l []impl.Ent) []spelledEnt {
	var all []spelledEnt
	for i, e := range l {
		shared := 0
		if i%blockEvery != 0 {
			shared = plainShared(l[i-1].Key, e.Key)
		}
		all = append(all, spellEnt(e, shared))
	}
	return all
}

// spelledBody returns entries one after another, and where those of them begin that the restarts name.
func spelledBody(all []spelledEnt) (string, []int) {
	body := ""
	var offsets []int
	for i, e := range all {
		if i%blockEvery == 0 {
			offsets = append(offsets, len(body))
		}
		body += strings.Join(e[:], "")
	}
	return body, offsets
}

func spelledOffsets(offsets []int) string {
	s := ""
	for _, at := range offsets {
		s += plainVar(at, 0)
	}
	return s
}

// spelledBegin returns the last two bytes of a block whose restarts begin there.
func spelledBegin(begin int) string { return string([]byte{byte(begin >> 8), byte(begin)}) }

func spelledRestarts(offsets []int, begin int) string {
	return plainVar(len(offsets), 0) + spelledOffsets(offsets) + spelledBegin(begin)
}

// closedBlock ends entries, however they are spelled, with restarts that are right.
func closedBlock(all []spelledEnt) string {
	body, offsets := spelledBody(all)
	return body + spelledRestarts(offsets, len(body))
}

// blockText spells a block; it knows no limits.
func blockText(l []impl.Ent) string { return closedBlock(spellEnts(l)) }

func plainBlockOk(l []impl.Ent) bool {
	return len(l) >= 1 && len(l) <= blockLimit && plainMemOk(l)
}

func checkShowBlock(t *testing.T, l []impl.Ent, want string) {
	t.Helper()
	if got := impl.ShowBlock(l); got != want {
		t.Errorf("ShowBlock(%#v) = %q, want %q", l, got, want)
	}
}

func checkReadBlock(t *testing.T, s string, want []impl.Ent) {
	t.Helper()
	got, ok := impl.ReadBlock(s)
	if !ok || !slices.Equal(got, want) {
		t.Errorf("ReadBlock(%q) = %#v, %v, want %#v, true", s, got, ok, want)
	}
}

func checkNoBlock(t *testing.T, what string, s string) {
	t.Helper()
	if got, ok := impl.ReadBlock(s); ok || len(got) != 0 {
		t.Errorf("%s: ReadBlock(%.600q) = %#v, %v, want nothing, false", what, s, got, ok)
	}
}

// checkPerhapsBlock fails unless s is refused or is the block of what is read from it; it tells which.
func checkPerhapsBlock(t *testing.T, what string, s string) bool {
	t.Helper()
	got, ok := impl.ReadBlock(s)
	switch {
	case !ok && len(got) != 0:
		t.Errorf("%s: ReadBlock(%q) = %#v, false", what, s, got)
	case ok && (!plainBlockOk(got) || blockText(got) != s || impl.ShowBlock(got) != s):
		t.Errorf("%s: ReadBlock(%q) = %#v, true", what, s, got)
	}
	return ok
}

// lettered returns this many entries whose keys begin with letters of their own.
func lettered(count int, tail string, seq int, val string) []impl.Ent {
	var l []impl.Ent
	for i := range count {
		l = append(l, setEnt(string([]byte{byte('a' + i)})+tail, seq, val))
	}
	return l
}

// widestBlock returns 16 entries of 33 bytes each, so that all offsets but the first need two bytes.
func widestBlock() []impl.Ent { return lettered(16, "123456789", seqLimit, "0123456789abcdef") }

// oneKeyOften returns versions of one key with numbers whose varints have one, two and three bytes.
func oneKeyOften(key string) []impl.Ent {
	var l []impl.Ent
	for i, seq := range []int{seqLimit, 999999, 16385, 16384, 16383, 300, 256, 255, 129, 128, 127, 126, 64, 2, 1, 0} {
		e := setEnt(key, seq, strings.Repeat("v", i))
		if i%3 == 1 {
			e = delEnt(key, seq)
		}
		l = append(l, e)
	}
	return l
}

// steps returns entries whose keys are all prefixes of a key of ten bytes.
func steps(key string) []impl.Ent {
	var l []impl.Ent
	for size := 1; size <= len(key); size++ {
		l = append(l, setEnt(key[:size], size, key[size:]))
	}
	return l
}

// crossed returns entries whose keys would have something in common at every restart, if it were not one.
func crossed() []impl.Ent {
	return []impl.Ent{
		setEnt("a", 5, "1"), setEnt("aa", 4, ""), delEnt("aab", 3), setEnt("aab\x00", 2, "4"),
		// The previous key again.
		setEnt("aab\x00", 1, "5"), setEnt("aab\x00", 0, "6"), delEnt("ab", seqLimit), setEnt("abc", 9, "8"),
		// A key that begins with the previous one.
		delEnt("abcd", 8), setEnt("abcd", 7, "10"), setEnt("abd", 6, "11"), setEnt("b", 127, "12"),
		// A key that has a part in common with the previous one, and one that has nothing in common with it.
		setEnt("ba", 128, "13"), delEnt("bb", 1), setEnt("c", 1, "15"), setEnt("\xff", 1, "16"),
	}
}

// smallBlocks returns entries whose blocks are short enough to try every change of a byte.
func smallBlocks() [][]impl.Ent {
	return [][]impl.Ent{
		{setEnt("a", 0, "")},
		{delEnt("a", seqLimit)},
		{setEnt("\x00", 127, "\x00")},
		{setEnt("a", 128, "x"), delEnt("a", 0)},
		{setEnt("app", 9, "x"), delEnt("apple", 7), setEnt("apple", 3, "y"), setEnt("b", 1, ""), setEnt("ba", 300, "zz")},
		{setEnt("a", 2, ""), setEnt("a", 1, ""), setEnt("a", 0, ""), setEnt("b", 0, "")},
		{delEnt("k", 5), delEnt("k", 4), delEnt("k", 3), delEnt("k", 2), delEnt("k", 1), delEnt("k", 0)},
		{setEnt("\x80\xff", 0, "\xff"), setEnt("\xff", 1, "\x01\x00\x00\x06"), setEnt("\xff\x00", 1, "")},
	}
}

func validBlocks() [][]impl.Ent {
	list := append(smallBlocks(), [][]impl.Ent{
		{setEnt("1234567890", seqLimit, "1234567890123456")},
		{setEnt(strings.Repeat("\u00e9", 5), 1, strings.Repeat("\u00e9", 8))},
		{setEnt(strings.Repeat("\x00", 10), 1, strings.Repeat("\x00", 16)), setEnt(strings.Repeat("\xff", 10), 1, strings.Repeat("\xff", 16))},
		oneKeyOften("k"),
		oneKeyOften("one key 10"),
		steps("abcdefghij"),
		steps("\x00\x00\x00\x00\x00\x00\x00\x00\x00\x00"),
		steps("\xff\x80\x00\xff\x80\x00\xff\x80\x00\xff"),
		crossed(),
		versionedKeys()[:16],
		versionedKeys()[4:],
		lettered(16, "", 127, ""),
		lettered(13, "same", 128, "value"),
		widestBlock(),
	}...)
	for count := 1; count <= blockLimit; count++ {
		list = append(list, manyEnts(count), crossed()[:count], oneKeyOften("ab")[:count])
	}
	return list
}

// The blocks of this and the next test were computed once by another program.
func TestShowBlockOfFixedExamples(t *testing.T) {
	for _, c := range []struct {
		l    []impl.Ent
		want string
	}{
		{entsFor(setEnt("a", 0, "")), "00016100000001000006"},
		{entsFor(delEnt("a", 127)), "0001617f010001000006"},
		{entsFor(setEnt("a", 128, "x")), "000161800100017801000008"},
		{entsFor(setEnt("1234567890", 1000000, "1234567890123456")), "000a31323334353637383930c0843d00103132333435363738393031323334353601000021"},
		{entsFor(setEnt("k", 9, "new"), delEnt("k", 5), setEnt("k", 1, "old")), "00016b0900036e6577010005010001000100036f6c6401000016"},
		{entsFor(setEnt("car", 1, "1"), setEnt("card", 2, "2"), setEnt("care", 3, "3"), setEnt("cat", 4, "4")), "0003636172010001310301640200013203016503000133020174040001340100001e"},
		{entsFor(setEnt("car", 1, "1"), setEnt("card", 2, "2"), setEnt("care", 3, "3"), setEnt("cat", 400, "4"), delEnt("cat", 7)), "00036361720100013103016402000132030165030001330201749003000134000363617407010002001f0027"},
		{entsFor(setEnt("\x00", 3, ""), setEnt("\x00\x00", 2, ""), setEnt("\x00\xff", 1, ""), delEnt("\x80", 1000000), setEnt("\x80\x80", 1000000, "\xff"), setEnt("\x80\xff", 0, ""), setEnt("\xff", 1, ""), delEnt("\xff\x80", 2)), "0001000300000101000200000101ff010000000180c0843d010000028080c0843d0001ff0101ff0000000001ff01000001018002010002001a0036"},
		{entsFor(delEnt("k", 1000000), delEnt("k", 16384), delEnt("k", 16383), delEnt("k", 300), delEnt("k", 128), delEnt("k", 127), delEnt("k", 2), delEnt("k", 1), delEnt("k", 0)), "00016bc0843d0100010080800101000100ff7f01000100ac02010000016b8001010001007f01000100020100010001010000016b00010003001b310037"},
	} {
		want, err := hex.DecodeString(c.want)
		if err != nil {
			t.Fatal(err)
		}
		checkShowBlock(t, c.l, string(want))
		checkReadBlock(t, string(want), c.l)
	}
}

func TestShowBlockOfLongFixedExamples(t *testing.T) {
	var growing, halves []impl.Ent
	for i := range 12 {
		growing = append(growing, setEnt(string([]byte{byte('a' + i)})+"23456789", 128+i, strings.Repeat("v", i)))
	}
	for i := range 13 {
		halves = append(halves, setEnt("same-"+impl.Dec(i/3), 500-i, impl.Dec(i)))
	}
	widest := ""
	for i := range 16 {
		widest += "000a" + hex.EncodeToString([]byte{byte('a' + i)}) + "313233343536373839c0843d001030313233343536373839616263646566"
	}
	for _, c := range []struct {
		l    []impl.Ent
		want string
	}{
		{growing, "00096132333435363738398001000000096232333435363738398101000176000963323334353637383982010002767600096432333435363738398301000376767600096532333435363738398401000476767676000966323334353637383985010005767676767600096732333435363738398601000676767676767600096832333435363738398701000776767676767676000969323334353637383988010008767676767676767600096a32333435363738398901000976767676767676767600096b32333435363738398a01000a7676767676767676767600096c32333435363738398b01000b7676767676767676767676030042940100f6"},
		{halves, "000673616d652d30f4030001300600f3030001310600f203000132050131f103000133000673616d652d31f0030001340600ef03000135050132ee030001360600ed03000137000673616d652d32ec03000138050133eb030001390600ea03000231300600e90300023131000673616d652d34e80300023132040023466b0079"},
		{widestBlock(), widest + "0400840188028c030210"},
	} {
		want, err := hex.DecodeString(c.want)
		if err != nil {
			t.Fatal(err)
		}
		checkShowBlock(t, c.l, string(want))
		checkReadBlock(t, string(want), c.l)
	}
}

func TestReadBlockReadsWhatShowBlockWrites(t *testing.T) {
	for _, l := range validBlocks() {
		checkShowBlock(t, l, blockText(l))
		checkReadBlock(t, impl.ShowBlock(l), l)
	}
	for _, seq := range []int{0, 1, 127, 128, 255, 256, 16383, 16384, 999999, 1000000} {
		for keyLength := 1; keyLength <= 10; keyLength++ {
			l := entsFor(delEnt(strings.Repeat("k", keyLength), seq))
			checkShowBlock(t, l, blockText(l))
			checkReadBlock(t, blockText(l), l)
			for valLength := range 17 {
				l := entsFor(setEnt(strings.Repeat("k", keyLength), seq, strings.Repeat("\x01", valLength)))
				checkShowBlock(t, l, blockText(l))
				checkReadBlock(t, blockText(l), l)
			}
		}
	}
	if impl.BlockEvery != blockEvery || impl.MaxBlockEnts != blockLimit {
		t.Errorf("BlockEvery and MaxBlockEnts are %d and %d", impl.BlockEvery, impl.MaxBlockEnts)
	}
}

// thrownBlock returns this many entries in order, with numbers around those where their varints get longer.
func thrownBlock(throw func(below int) int, keys []string, count int) []impl.Ent {
	seqs := []int{0, 1, 2, 126, 127, 128, 129, 16383, 16384, 500000, 999999, 1000000}
	l := thrownEnts(throw, keys, count, len(seqs))
	for i := range l {
		l[i].Seq = seqs[l[i].Seq]
	}
	return plainOrder(l)
}

// blockKeys lists keys to throw entries from, each list with other common prefixes.
func blockKeys() [][]string {
	var long []string
	for _, end := range allStrings("\x00z\xff", 2) {
		long = append(long, "12345678"+end)
	}
	return [][]string{
		{"a", "a\x00"},
		append(allStrings("\x00a\xff", 3)[1:], strings.Repeat("\x00", 10), strings.Repeat("\xff", 10)),
		allStrings("\x80\x00", 4)[1:],
		numbered(60),
		long,
	}
}

func TestThrownBlocks(t *testing.T) {
	throw := dice(23)
	for _, keys := range blockKeys() {
		for count := 1; count <= blockLimit; count++ {
			for range 200 {
				l := thrownBlock(throw, keys, count)
				checkShowBlock(t, l, blockText(l))
				checkReadBlock(t, impl.ShowBlock(l), l)
			}
		}
	}
}

func TestBlocksOfOneTextAreTheSame(t *testing.T) {
	owners := map[string][]impl.Ent{}
	lists := validBlocks()
	throw := dice(29)
	for range 3000 {
		lists = append(lists, thrownBlock(throw, []string{"a", "aa", "ab", "\x01"}, 1+throw(4)))
	}
	for _, l := range lists {
		s := impl.ShowBlock(l)
		if other, taken := owners[s]; taken && !slices.Equal(other, l) {
			t.Errorf("%#v and %#v have the block %q", other, l, s)
		}
		owners[s] = l
	}
}

// readRestarts returns the offsets that the end of a block names, and where they begin.
func readRestarts(t *testing.T, s string) ([]int, int) {
	t.Helper()
	begin := int(s[len(s)-2])*256 + int(s[len(s)-1])
	if begin > len(s)-2 {
		t.Fatalf("the restarts of %q begin at %d", s, begin)
	}
	rest := s[begin : len(s)-2]
	count, size := impl.ReadVar(rest)
	var offsets []int
	for range count {
		rest = rest[size:]
		at, next := impl.ReadVar(rest)
		offsets, size = append(offsets, at), next
	}
	if rest[size:] != "" {
		t.Fatalf("%q follows the restarts of %q", rest[size:], s)
	}
	return offsets, begin
}

func TestRestartsOfEachCount(t *testing.T) {
	number := map[int]int{1: 1, 3: 1, 4: 1, 5: 2, 8: 2, 9: 3, 12: 3, 13: 4, 16: 4}
	for count := 1; count <= blockLimit; count++ {
		for _, l := range [][]impl.Ent{manyEnts(count), crossed()[:count], oneKeyOften("key")[:count], lettered(count, "", 0, ""), widestBlock()[:count]} {
			s := impl.ShowBlock(l)
			offsets, begin := readRestarts(t, s)
			body, want := spelledBody(spellEnts(l))
			if !slices.Equal(offsets, want) || begin != len(body) {
				t.Errorf("ShowBlock(%#v) has the restarts %d at %d, want %d at %d", l, offsets, begin, want, len(body))
			}
			if n, named := number[count]; named && len(offsets) != n {
				t.Errorf("%d entries have %d restarts, want %d", count, len(offsets), n)
			}
			for i, at := range offsets {
				key := l[i*blockEvery].Key
				if whole := "\x00" + plainVar(len(key), 0) + key; !strings.HasPrefix(s[at:], whole) {
					t.Errorf("at %d of %q there is no whole key %q", at, s, key)
				}
			}
		}
	}
}

func TestOffsetsAreCounted(t *testing.T) {
	for _, c := range []struct {
		l       []impl.Ent
		offsets []int
		begin   int
		end     string
	}{
		// Each entry has 6 bytes.
		{lettered(1, "", 0, ""), []int{0}, 6, "\x01\x00\x00\x06"},
		{lettered(3, "", 0, ""), []int{0}, 18, "\x01\x00\x00\x12"},
		{lettered(4, "", 0, ""), []int{0}, 24, "\x01\x00\x00\x18"},
		{lettered(5, "", 0, ""), []int{0, 24}, 30, "\x02\x00\x18\x00\x1e"},
		{lettered(8, "", 0, ""), []int{0, 24}, 48, "\x02\x00\x18\x00\x30"},
		{lettered(9, "", 0, ""), []int{0, 24, 48}, 54, "\x03\x00\x18\x30\x00\x36"},
		{lettered(12, "", 0, ""), []int{0, 24, 48}, 72, "\x03\x00\x18\x30\x00\x48"},
		{lettered(13, "", 0, ""), []int{0, 24, 48, 72}, 78, "\x04\x00\x18\x30\x48\x00\x4e"},
		{lettered(16, "", 0, ""), []int{0, 24, 48, 72}, 96, "\x04\x00\x18\x30\x48\x00\x60"},
		// 33 bytes each.
		{widestBlock()[:3], []int{0}, 99, "\x01\x00\x00\x63"},
		{widestBlock()[:4], []int{0}, 132, "\x01\x00\x00\x84"},
		{widestBlock()[:5], []int{0, 132}, 165, "\x02\x00\x84\x01\x00\xa5"},
		{widestBlock()[:8], []int{0, 132}, 264, "\x02\x00\x84\x01\x01\x08"},
		{widestBlock()[:9], []int{0, 132, 264}, 297, "\x03\x00\x84\x01\x88\x02\x01\x29"},
		{widestBlock()[:16], []int{0, 132, 264, 396}, 528, "\x04\x00\x84\x01\x88\x02\x8c\x03\x02\x10"},
		// 16 bytes each, so that the third offset is the least one that needs two bytes.
		{lettered(9, "2345", 1, "123456"), []int{0, 64, 128}, 144, "\x03\x00\x40\x80\x01\x00\x90"},
		// 32 bytes each, and the same with a byte less in the first one.
		{lettered(5, "23456789", seqLimit, "0123456789abcdef"), []int{0, 128}, 160, "\x02\x00\x80\x01\x00\xa0"},
		{append(entsFor(setEnt("a2345678", seqLimit, "0123456789abcdef")), lettered(5, "23456789", seqLimit, "0123456789abcdef")[1:]...), []int{0, 127}, 159, "\x02\x00\x7f\x00\x9f"},
	} {
		s := impl.ShowBlock(c.l)
		if offsets, begin := readRestarts(t, s); !slices.Equal(offsets, c.offsets) || begin != c.begin || s[begin:] != c.end {
			t.Errorf("ShowBlock(%#v) has the restarts %d at %d (%q), want %d at %d (%q)", c.l, offsets, begin, s[begin:], c.offsets, c.begin, c.end)
		}
		checkReadBlock(t, s, c.l)
	}
}

func TestAKeyIsWholeAtARestart(t *testing.T) {
	for _, pair := range [][2]impl.Ent{
		{setEnt("same", 5, "x"), setEnt("same", 4, "x")},
		{delEnt("same", 5), delEnt("same", 0)},
		{setEnt("begin", 1, ""), setEnt("beginning", 1, "")},
		{setEnt("half 1", 1, ""), setEnt("half 2", 1, "")},
		{setEnt("\xff", 1, ""), setEnt("\xff\x00", 1, "")},
		{setEnt("\xff\xff\xff", 1, ""), setEnt("\xff\xff\xff", 0, "")},
	} {
		for at := 1; at < blockLimit; at++ {
			// Only the keys of the pair have anything in common.
			var l []impl.Ent
			for i := range at - 1 {
				l = append(l, setEnt(string([]byte{byte(1 + i)}), 7, ""))
			}
			l = append(l, pair[0], pair[1])
			shared := plainShared(pair[0].Key, pair[1].Key)
			if at == 4 || at == 8 || at == 12 {
				shared = 0
			}
			all := spellEnts(l)
			if all[at] != spellEnt(pair[1], shared) {
				t.Fatalf("the tests spell %q at %d with %d bytes in common", pair[1].Key, at, shared)
			}
			checkShowBlock(t, l, closedBlock(all))
			checkReadBlock(t, closedBlock(all), l)
		}
	}
	s := impl.ShowBlock(oneKeyOften("key"))
	if got := strings.Count(s, "\x00\x03key"); got != 4 {
		t.Errorf("16 versions of one key spell it %d times, want 4: %q", got, s)
	}
}

// The second entry of a block is written with what its key has in common with the first one.
func TestTheLongestCommonPrefix(t *testing.T) {
	for _, c := range []struct {
		last, key string
		shared    int
	}{
		{"a", "b", 0},
		{"a", "a", 1},
		{"a", "aa", 1},
		{"aa", "ab", 1},
		{"ab", "b", 0},
		{"ab", "bb", 0},
		{"abc", "abc", 3},
		{"abc", "abcabc", 3},
		{"abcd", "abd", 2},
		{"1234567890", "1234567890", 10},
		{"1234567890", "1234567891", 9},
		{"123456789", "1234567890", 9},
		{"\x00", "\x00\x00", 1},
		{"\x00\x00", "\x00\x00", 2},
		{"\x00\x00", "\x00\x01", 1},
		{"\x00a", "\x00b", 1},
		{"a\x00", "a\x00\x00", 2},
		{"a\x00\x00", "a\x00\xff", 2},
		{"\x7f", "\x80", 0},
		{"\x80", "\x80\x00", 1},
		{"\x80\x7f", "\x80\x80", 1},
		{"\x80\x80", "\x80\x81", 1},
		{"\xff", "\xff\xff", 1},
		{"\xff\xff", "\xff\xff", 2},
		{"\xff\x00\x80", "\xff\x00\x81", 2},
		{"\xff\xfe", "\xff\xff", 1},
		{"\x00\xff\x80\x01", "\x00\xff\x80\x02", 3},
		// Two runes that have their first byte in common.
		{"\u00e8", "\u00e9", 1},
		{"\u20ab", "\u20ac", 2},
		{"x\u00e9", "x\u00e9y", 3},
	} {
		l := entsFor(setEnt(c.last, 9, "x"), delEnt(c.key, 8))
		all := []spelledEnt{spellEnt(l[0], 0), spellEnt(l[1], c.shared)}
		checkShowBlock(t, l, closedBlock(all))
		checkReadBlock(t, closedBlock(all), l)
	}
	keys := append(allStrings("\x00\x7f\x80\xff", 3)[1:], "\x00\xff\x80\x00\xff", "\x00\xff\x80\x00\xfe")
	slices.Sort(keys)
	for i, last := range keys {
		for _, key := range keys[i:] {
			l := entsFor(setEnt(last, 2, ""), setEnt(key, 1, ""))
			checkShowBlock(t, l, blockText(l))
			checkReadBlock(t, blockText(l), l)
		}
	}
}

// otherOffsets lists offsets that differ from those of a block.
func otherOffsets(offsets []int, begin int) [][]int {
	last := len(offsets) - 1
	list := [][]int{
		nil,
		offsets[:last],
		offsets[1:],
		append(slices.Clone(offsets), begin),
		append(slices.Clone(offsets), 0),
		append(slices.Clone(offsets), offsets[last]),
		append(slices.Clone(offsets), offsets[last]+1),
		append([]int{0}, offsets...),
		append(slices.Clone(offsets), offsets...),
	}
	for at := range offsets {
		for _, other := range []int{0, 1, offsets[last], begin, begin - 1, begin + 1, 127, 128, 256, 65535, 65536, impl.MaxVar, impl.MaxVar + 1, 1 << 62, offsets[at] - 1, offsets[at] + 1, offsets[at] + 128, offsets[at] + 256, offsets[at] + 65536} {
			changed := slices.Clone(offsets)
			changed[at] = max(0, other)
			list = append(list, changed)
		}
		list = append(list, slices.Delete(slices.Clone(offsets), at, at+1))
	}
	reversed := slices.Clone(offsets)
	slices.Reverse(reversed)
	return append(list, reversed)
}

func TestReadBlockWithOtherOffsets(t *testing.T) {
	for _, l := range validBlocks() {
		body, offsets := spelledBody(spellEnts(l))
		for _, other := range otherOffsets(offsets, len(body)) {
			if !slices.Equal(other, offsets) {
				checkNoBlock(t, "other restarts", body+spelledRestarts(other, len(body)))
			}
		}
		for at := range offsets {
			for other := range len(body) + 3 {
				if other != offsets[at] {
					changed := slices.Clone(offsets)
					changed[at] = other
					checkNoBlock(t, "another offset", body+spelledRestarts(changed, len(body)))
				}
			}
		}
	}
}

func TestReadBlockWithAnotherNumberOfRestarts(t *testing.T) {
	for _, l := range validBlocks() {
		body, offsets := spelledBody(spellEnts(l))
		for _, count := range []int{0, 1, 2, 3, 4, 5, 6, 7, 8, len(l), 127, 128, 256 + len(offsets), 16384, impl.MaxVar, impl.MaxVar + 1, 1 << 62} {
			if count != len(offsets) {
				checkNoBlock(t, "another number of restarts", body+plainVar(count, 0)+spelledOffsets(offsets)+spelledBegin(len(body)))
			}
		}
	}
}

func TestReadBlockWithSuperfluousBytesInItsRestarts(t *testing.T) {
	for _, l := range validBlocks() {
		body, offsets := spelledBody(spellEnts(l))
		end := spelledBegin(len(body))
		for extra := 1; extra <= 9; extra++ {
			checkNoBlock(t, "a longer number of restarts", body+plainVar(len(offsets), extra)+spelledOffsets(offsets)+end)
			for at := range offsets {
				longer := spelledOffsets(offsets[:at]) + plainVar(offsets[at], extra) + spelledOffsets(offsets[at+1:])
				checkNoBlock(t, "a longer offset", body+plainVar(len(offsets), 0)+longer+end)
			}
		}
	}
}

func TestReadBlockWithOtherLastBytes(t *testing.T) {
	for _, l := range smallBlocks() {
		body, offsets := spelledBody(spellEnts(l))
		for begin := range 65536 {
			if begin != len(body) {
				checkNoBlock(t, "restarts that begin elsewhere", body+spelledRestarts(offsets, begin))
			}
		}
	}
	for _, l := range validBlocks() {
		s := blockText(l)
		body, offsets := spelledBody(spellEnts(l))
		restarts := s[len(body) : len(s)-2]
		for begin := range len(s) + 300 {
			if begin != len(body) {
				checkNoBlock(t, "restarts that begin elsewhere", body+spelledRestarts(offsets, begin))
			}
		}
		low, high := string([]byte{byte(len(body))}), string([]byte{byte(len(body) >> 8)})
		for _, end := range []string{"", low, high, plainVar(len(body), 0), "\x00" + high + low, high + low + "\x00", high + low + high + low} {
			if end != high+low {
				checkNoBlock(t, "another end", body+restarts+end)
			}
		}
		if low != high {
			checkNoBlock(t, "the last bytes exchanged", body+restarts+low+high)
		}
		checkNoBlock(t, "no restarts", body+high+low)
		checkNoBlock(t, "nothing behind the entries", body)
		checkNoBlock(t, "the restarts alone", restarts+high+low)
		checkNoBlock(t, "the restarts alone, from 0 on", restarts+"\x00\x00")
		checkNoBlock(t, "the restarts first", restarts+body+high+low)
	}
}

// gapped returns blocks with bytes between their parts, whose last bytes name each place where the restarts could begin.
func gapped(l []impl.Ent, gap string) []string {
	body, offsets := spelledBody(spellEnts(l))
	restarts := plainVar(len(offsets), 0) + spelledOffsets(offsets)
	var list []string
	for _, begin := range []int{len(body), len(body) + len(gap)} {
		list = append(list, body+gap+restarts+spelledBegin(begin), body+restarts+gap+spelledBegin(begin))
	}
	return list
}

func TestReadBlockWithAGap(t *testing.T) {
	for _, l := range validBlocks() {
		for _, gap := range []string{"\x00", "\x01", "\xff", "\x00\x00", "\x01\x00", "\x00\x01z", strings.Repeat("\x00", 7), strings.Repeat("x", 300)} {
			for _, s := range gapped(l, gap) {
				checkNoBlock(t, "a gap", s)
			}
		}
	}
}

// replacedEnt returns a block in which this entry is spelled otherwise, and whose restarts are right for that.
func replacedEnt(l []impl.Ent, at int, e spelledEnt) string {
	all := spellEnts(l)
	all[at] = e
	return closedBlock(all)
}

func TestReadBlockWithAShorterCommonPrefix(t *testing.T) {
	tried := 0
	for _, l := range validBlocks() {
		for i, e := range l {
			if i%blockEvery == 0 {
				continue
			}
			longest := plainShared(l[i-1].Key, e.Key)
			for shared := range longest {
				tried++
				checkNoBlock(t, "a shorter common prefix", replacedEnt(l, i, spellEnt(e, shared)))
			}
			checkReadBlock(t, replacedEnt(l, i, spellEnt(e, longest)), l)
		}
	}
	if tried == 0 {
		t.Error("no entry has anything in common with the previous one")
	}
}

func TestReadBlockWithACommonPrefixAtARestart(t *testing.T) {
	tried := 0
	for _, l := range validBlocks() {
		for i := blockEvery; i < len(l); i += blockEvery {
			for shared := 1; shared <= plainShared(l[i-1].Key, l[i].Key); shared++ {
				tried++
				checkNoBlock(t, "a common prefix at a restart", replacedEnt(l, i, spellEnt(l[i], shared)))
			}
		}
		for _, shared := range []int{1, 2, 10, 127, 128, impl.MaxVar, impl.MaxVar + 1} {
			e := spellEnt(l[0], 0)
			e[partShared] = plainVar(shared, 0)
			checkNoBlock(t, "a common prefix ahead of all", replacedEnt(l, 0, e))
		}
	}
	if tried == 0 {
		t.Error("no entry at a restart has anything in common with the previous one")
	}
}

func TestReadBlockWithACommonPrefixBeyondTheLastKey(t *testing.T) {
	for _, l := range validBlocks() {
		for i := 1; i < len(l); i++ {
			last, key := l[i-1].Key, l[i].Key
			for _, shared := range []int{len(last) + 1, len(last) + 2, len(key) + 1, 10, 11, 127, 128, 256, 65536, 1 << 32, impl.MaxVar, impl.MaxVar + 1, 1 << 62} {
				if shared <= len(last) {
					continue
				}
				for _, rest := range []string{"", key, key[plainShared(last, key):], key[1:], key[min(shared, len(key)):], "\x00", "\xff"} {
					e := spellEnt(l[i], 0)
					e[partShared], e[partRestSize], e[partRest] = plainVar(shared, 0), plainVar(len(rest), 0), rest
					checkNoBlock(t, "a common prefix beyond the previous key", replacedEnt(l, i, e))
				}
			}
		}
	}
}

func TestReadBlockWithAnotherMark(t *testing.T) {
	for _, l := range smallBlocks() {
		for i := range l {
			for mark := 2; mark < 256; mark++ {
				e := spellEnts(l)[i]
				e[partMark] = string([]byte{byte(mark)})
				checkNoBlock(t, "a mark that is neither 0 nor 1", replacedEnt(l, i, e))
			}
		}
	}
	for _, l := range validBlocks() {
		for i := range l {
			for _, mark := range []string{"\x02", "\x03", "\x7f", "\x80", "\x81", "\xfe", "\xff"} {
				e := spellEnts(l)[i]
				e[partMark] = mark
				checkNoBlock(t, "a mark that is neither 0 nor 1", replacedEnt(l, i, e))
			}
			for _, mark := range []string{"", "\x00\x00", "\x01\x01", "\x80\x00", "\x81\x00"} {
				e := spellEnts(l)[i]
				e[partMark] = mark
				checkPerhapsBlock(t, "a mark of no or several bytes", replacedEnt(l, i, e))
			}
			if l[i].Val != "" {
				e := spellEnts(l)[i]
				e[partMark] = "\x01"
				checkNoBlock(t, "a value of a deleted key", replacedEnt(l, i, e))
			}
		}
	}
	// A deleted key is written with the length of its value, as any other.
	checkReadBlock(t, "\x00\x01a\x05\x01\x00"+"\x01\x00"+"\x00\x06", entsFor(delEnt("a", 5)))
	checkNoBlock(t, "no value of a deleted key", "\x00\x01a\x05\x01"+"\x01\x00"+"\x00\x05")
	checkNoBlock(t, "no value of a key that is set", "\x00\x01a\x05\x00"+"\x01\x00"+"\x00\x05")
}

func TestReadBlockWithSuperfluousBytes(t *testing.T) {
	for _, l := range validBlocks() {
		for i, e := range l {
			right := spellEnts(l)[i]
			numbers := map[int]int{partShared: len(e.Key) - len(right[partRest]), partRestSize: len(right[partRest]), partSeq: e.Seq, partValSize: len(e.Val)}
			for part, n := range numbers {
				for extra := 1; extra <= 9; extra++ {
					longer := right
					longer[part] = plainVar(n, extra)
					checkNoBlock(t, "a longer number", replacedEnt(l, i, longer))
				}
			}
		}
	}
}

func TestReadBlockWithLengthsBeyondTheEnd(t *testing.T) {
	for _, l := range validBlocks() {
		for i := range l {
			for _, length := range []int{len(blockText(l)), 300, 65535, 65536, 1 << 31, 1 << 32, impl.MaxVar - 1, impl.MaxVar, impl.MaxVar + 1, 1 << 62} {
				for _, part := range []int{partRestSize, partValSize} {
					e := spellEnts(l)[i]
					e[part] = plainVar(length, 0)
					checkNoBlock(t, "a length beyond the end", replacedEnt(l, i, e))
				}
			}
			for _, seq := range []int{seqLimit + 1, impl.MaxVar, impl.MaxVar + 1, 1 << 62} {
				e := spellEnts(l)[i]
				e[partSeq] = plainVar(seq, 0)
				checkNoBlock(t, "a number beyond its limit", replacedEnt(l, i, e))
			}
		}
	}
	// Texts as long as they say, but longer than the limits.
	for _, length := range []int{11, 17, 127, 128, 300, 60000} {
		checkNoBlock(t, "a key beyond its limit", blockText(entsFor(setEnt(strings.Repeat("k", length), 1, ""))))
		checkNoBlock(t, "a value beyond its limit", blockText(entsFor(setEnt("k", 1, strings.Repeat("v", max(17, length))))))
	}
	for size := range 12 {
		for _, b := range []string{"\x80", "\xff"} {
			checkNoBlock(t, "no end of the number", strings.Repeat(b, size)+"\x01\x00"+spelledBegin(size))
			checkNoBlock(t, "no end of the number", "\x00\x01a"+strings.Repeat(b, size)+"\x01\x00"+spelledBegin(3+size))
			checkNoBlock(t, "no end of the number", "\x00\x01a\x05\x00"+strings.Repeat(b, size)+"\x01\x00"+spelledBegin(5+size))
		}
	}
}

// invalidBlocks lists entries of which each cannot make a block for one reason; the tests can spell all of them.
func invalidBlocks() [][]impl.Ent {
	list := [][]impl.Ent{nil, {}}
	for count := blockLimit + 1; count <= 20; count++ {
		list = append(list, manyEnts(count), versionedKeys()[:count], lettered(count, "", 1, ""))
	}
	list = append(list, manyEnts(32), manyEnts(33), manyEnts(59), manyEnts(60), append(oneKeyOften("k"), setEnt("l", 1, "")))
	for _, l := range invalidMems() {
		if !slices.ContainsFunc(l, func(e impl.Ent) bool { return e.Seq < 0 || e.Seq > 1<<62 }) {
			list = append(list, l)
		}
	}
	for _, e := range invalidEnts() {
		if e.Seq < 0 || e.Seq > 1<<62 {
			continue
		}
		for _, count := range []int{1, 3, 4, 8, 15} {
			l := append(manyEnts(count), e)
			list = append(list, l, plainOrder(l), append([]impl.Ent{e}, manyEnts(count)...))
		}
	}
	for _, l := range validBlocks() {
		for at := range len(l) - 1 {
			exchanged, twice := slices.Clone(l), slices.Clone(l)
			exchanged[at], exchanged[at+1] = l[at+1], l[at]
			twice[at+1] = l[at]
			sameSeq := slices.Clone(l)
			sameSeq[at+1] = setEnt(l[at].Key, l[at].Seq, "other")
			list = append(list, exchanged, twice, sameSeq)
		}
	}
	return list
}

func TestShowBlockOfInvalidEntries(t *testing.T) {
	for _, l := range append(invalidBlocks(), invalidMems()...) {
		checkShowBlock(t, l, "")
	}
	for _, e := range invalidEnts() {
		checkShowBlock(t, []impl.Ent{e}, "")
		for at := range blockLimit {
			l := manyEnts(blockLimit)
			l[at] = e
			checkShowBlock(t, l, "")
		}
	}
	for _, seq := range []int{math.MinInt, -seqLimit, -1, seqLimit + 1, math.MaxInt} {
		checkShowBlock(t, entsFor(setEnt("a", seq, "")), "")
		checkShowBlock(t, entsFor(setEnt("a", 1, ""), delEnt("b", seq), setEnt("c", 1, "")), "")
	}
	for count := range 70 {
		want := ""
		if count >= 1 && count <= 16 {
			want = blockText(manyEnts(count))
		}
		checkShowBlock(t, manyEnts(count), want)
	}
}

// The strings here spell out the invalid entries as if there were no limits, so that only the limits can refuse them.
func TestReadBlockOfInvalidEntries(t *testing.T) {
	for _, l := range invalidBlocks() {
		checkNoBlock(t, "invalid entries", blockText(l))
	}
	checkNoBlock(t, "twice the same entry", "\x00\x01a\x05\x00\x00"+"\x01\x00\x05\x00\x00"+"\x01\x00"+"\x00\x0b")
	checkNoBlock(t, "numbers that ascend", "\x00\x01a\x05\x00\x00"+"\x01\x00\x06\x00\x00"+"\x01\x00"+"\x00\x0b")
	checkReadBlock(t, "\x00\x01a\x05\x00\x00"+"\x01\x00\x04\x00\x00"+"\x01\x00"+"\x00\x0b", entsFor(setEnt("a", 5, ""), setEnt("a", 4, "")))
	checkNoBlock(t, "an empty key", "\x00\x00\x05\x00\x00"+"\x01\x00"+"\x00\x05")
	checkNoBlock(t, "a number above MaxNumber", "\x00\x01a\xc1\x84\x3d\x00\x00"+"\x01\x00"+"\x00\x08")
	checkReadBlock(t, "\x00\x01a\xc0\x84\x3d\x00\x00"+"\x01\x00"+"\x00\x08", entsFor(setEnt("a", 1000000, "")))
	checkNoBlock(t, "a deleted key with a value", "\x00\x01a\x05\x01\x01x"+"\x01\x00"+"\x00\x07")
	seventeen, offsets := spelledBody(spellEnts(manyEnts(17)))
	checkNoBlock(t, "17 entries", seventeen+spelledRestarts(offsets, len(seventeen)))
	checkNoBlock(t, "17 entries with the restarts of 16", seventeen+spelledRestarts(offsets[:4], len(seventeen)))
}

func TestReadBlockOfShortStrings(t *testing.T) {
	for _, s := range allStrings(allBytes(), 2) {
		checkNoBlock(t, "a short string", s)
	}
	for _, s := range allStrings("\x00\x01\x02\x03\x04\x05\x06\x07\x10a\x7f\x80\x81\xfe\xff", 4) {
		checkNoBlock(t, "a short string", s)
	}
	// No entries with their restarts.
	checkNoBlock(t, "no entries", "")
	checkNoBlock(t, "no entries", "\x00\x00")
	checkNoBlock(t, "no entries", "\x00\x00\x00")
	checkNoBlock(t, "no entries", "\x01\x00\x00\x00")
	checkNoBlock(t, "no entries", "\x00\x00\x00\x00")
	for b := range 256 {
		one := string([]byte{byte(b)})
		for _, size := range []int{1, 2, 3, 9, 10, 11, 100, 70000} {
			checkNoBlock(t, "one byte repeated", strings.Repeat(one, size))
		}
	}
}

// shortBlocks returns the blocks of one or two entries made of these bytes alone, those beginning with head that have this length.
func shortBlocks(head string, alphabet string, length int) map[string][]impl.Ent {
	var ents []impl.Ent
	for _, key := range allStrings(alphabet, 2)[1:] {
		for i := range len(alphabet) {
			seq := int(alphabet[i])
			ents = append(ents, delEnt(key, seq))
			for _, val := range allStrings(alphabet, 1) {
				ents = append(ents, setEnt(key, seq, val))
			}
		}
	}
	blocks := map[string][]impl.Ent{}
	add := func(l []impl.Ent) {
		s := blockText(l)
		if len(s) == length && strings.HasPrefix(s, head) && strings.Trim(s[len(head):], alphabet) == "" && plainBlockOk(l) {
			blocks[s] = l
		}
	}
	for _, e := range ents {
		add(entsFor(e))
		for _, next := range ents {
			add(entsFor(e, next))
		}
	}
	return blocks
}

func TestReadBlockAcceptsExactlyTheBlocks(t *testing.T) {
	for _, c := range []struct {
		head, alphabet string
		length         int
	}{
		// One entry: restarts at 6 and 7 of a key of one byte, and at 7 of one with two bytes.
		{"", "\x00\x01\x06", 10},
		{"", "\x00\x01\x07", 11},
		{"\x00\x02", "\x00\x01\x07", 11},
		{"\x00\x02\x01", "\x00\x01\x02\x07", 11},
		// Two entries: a later version of the same key, and another key.
		{"\x00\x01\x0b\x0b\x00\x00", "\x00\x01\x0b", 15},
		{"\x00\x01\x01\x0c\x00\x00", "\x00\x01\x0c", 16},
		{"\x00\x01\x00\x0c\x01\x00", "\x00\x01\x0c", 16},
	} {
		blocks := shortBlocks(c.head, c.alphabet, c.length)
		found := 0
		for _, tail := range allStrings(c.alphabet, c.length-len(c.head)) {
			s := c.head + tail
			if want, is := blocks[s]; is {
				found++
				checkReadBlock(t, s, want)
			} else {
				checkNoBlock(t, "a short string", s)
			}
		}
		if found == 0 || found != len(blocks) {
			t.Errorf("%d of %d blocks behind %q are among the strings of %q", found, len(blocks), c.head, c.alphabet)
		}
	}
}

// A changed byte may make another block, but never a string that ShowBlock does not return.
func TestReadBlockWithEveryChangeOfAByte(t *testing.T) {
	other := 0
	for _, l := range smallBlocks() {
		s := blockText(l)
		for at := range len(s) {
			for change := 1; change < 256; change++ {
				if checkPerhapsBlock(t, "a changed byte", replaceByte(s, at, s[at]^byte(change))) {
					other++
				}
			}
		}
		body, _ := spelledBody(spellEnts(l))
		for at := len(body); at < len(s); at++ {
			for change := 1; change < 256; change++ {
				checkNoBlock(t, "a changed byte of the restarts", replaceByte(s, at, s[at]^byte(change)))
			}
		}
	}
	if other == 0 {
		t.Error("no changed byte made another block")
	}
}

func TestReadBlockWithAChangedByte(t *testing.T) {
	for _, l := range validBlocks() {
		s := blockText(l)
		body, _ := spelledBody(spellEnts(l))
		for at := range len(s) {
			for _, change := range []byte{1, 2, 3, 4, 8, 16, 32, 64, 128, 255} {
				changed := replaceByte(s, at, s[at]^change)
				if at < len(body) {
					checkPerhapsBlock(t, "a changed byte", changed)
				} else {
					checkNoBlock(t, "a changed byte of the restarts", changed)
				}
			}
		}
	}
}

func TestReadBlockCutOff(t *testing.T) {
	for _, l := range validBlocks() {
		s := blockText(l)
		for at := range len(s) {
			checkNoBlock(t, "cut off", s[:at])
		}
		for at := 1; at < len(s); at++ {
			checkNoBlock(t, "the front cut off", s[at:])
			checkPerhapsBlock(t, "a byte left out", s[:at]+s[at+1:])
		}
	}
}

func TestReadBlockWithBytesAdded(t *testing.T) {
	for _, l := range validBlocks() {
		s := blockText(l)
		for b := range 256 {
			one := string([]byte{byte(b)})
			checkNoBlock(t, "a byte behind its end", s+one)
			checkNoBlock(t, "a byte ahead of it", one+s)
		}
		for at := range len(s) {
			for _, more := range []string{"\x00", "\x01", "\x04", "\x80", "\xff", s[at : at+1], "\x00\x00", "\x00\x01z\x00\x00\x00"} {
				checkPerhapsBlock(t, "bytes in its middle", s[:at]+more+s[at:])
			}
		}
		checkNoBlock(t, "the same again", s+s)
		checkNoBlock(t, "a long string behind its end", s+strings.Repeat("\x00", 100000))
		checkNoBlock(t, "a long string ahead of it", strings.Repeat("\x00", 100000)+s)
		// Behind so many bytes the last two bytes name the right place again.
		checkNoBlock(t, "a long string with its restarts", s+strings.Repeat("x", 65536)+s[len(s)-2:])
	}
}

// joined returns each beginning of s with each end of more behind it, but neither of the two themselves.
func joined(s string, more string) []string {
	var list []string
	for i := range len(s) + 1 {
		for j := range len(more) + 1 {
			if whole := s[:i] + more[j:]; whole != s && whole != more {
				list = append(list, whole)
			}
		}
	}
	return list
}

func TestReadBlockOfPartsPutTogether(t *testing.T) {
	made := 0
	for _, first := range smallBlocks() {
		for _, second := range smallBlocks() {
			for _, whole := range joined(blockText(first), blockText(second)) {
				if checkPerhapsBlock(t, "parts put together", whole) {
					made++
				}
			}
		}
	}
	if made == 0 {
		t.Error("no two parts made another block")
	}
	blocks := validBlocks()
	for i, l := range blocks {
		s, more := blockText(l), blockText(blocks[(i+1)%len(blocks)])
		body, _ := spelledBody(spellEnts(l))
		moreBody, _ := spelledBody(spellEnts(blocks[(i+1)%len(blocks)]))
		checkNoBlock(t, "two blocks", s+more)
		if !strings.HasSuffix(s, more[len(moreBody):]) {
			checkPerhapsBlock(t, "the restarts of another block", body+more[len(moreBody):])
		}
		checkPerhapsBlock(t, "the entries of two blocks", body+more)
	}
}

func TestReadBlockOfThrownBytes(t *testing.T) {
	throw := dice(37)
	blocks := 0
	for range 60000 {
		// Mostly small bytes, then an end that may fit.
		b := make([]byte, 5+throw(12))
		for i := range b {
			b[i] = byte(throw(3))
		}
		if checkPerhapsBlock(t, "thrown bytes", string(b)+"\x01\x00"+spelledBegin(len(b))) {
			blocks++
		}
	}
	if blocks == 0 {
		t.Error("no thrown bytes were a block")
	}
}

func TestBlockFunctionsLeaveTheirArguments(t *testing.T) {
	for _, l := range append(validBlocks(), invalidBlocks()...) {
		list, whole := wideEnts(l)
		before := slices.Clone(whole)
		s := impl.ShowBlock(list)
		if len(list) != len(l) || !slices.Equal(whole, before) {
			t.Fatalf("ShowBlock(%#v) wrote into its argument", l)
		}
		kept := strings.Clone(s)
		first, _ := impl.ReadBlock(s)
		second, _ := impl.ReadBlock(s)
		scribbleEnts(first)
		scribbleEnts(list)
		if s != kept {
			t.Fatalf("the block of %#v changed with its entries", l)
		}
		if len(first) > 0 && !slices.Equal(second, l) {
			t.Fatalf("two results of ReadBlock(%q) share memory", s)
		}
	}
}

func TestBlocksOfNilAndEmptyLists(t *testing.T) {
	for _, l := range [][]impl.Ent{nil, {}, make([]impl.Ent, 0, 4), manyEnts(5)[:0]} {
		checkShowBlock(t, l, "")
	}
}

func TestBlockFunctionsKeepNoState(t *testing.T) {
	l := crossed()
	s := blockText(l)
	for i := range 20 {
		impl.ShowBlock(manyEnts(i))
		impl.ReadBlock(blockText(manyEnts(1 + i)))
		impl.ShowBlock(l[:1+i%16])
		impl.ReadBlock(s[:len(s)-1])
		impl.ReadBlock(blockText(oneKeyOften("aab\x00")))
		checkShowBlock(t, l, s)
		checkReadBlock(t, s, l)
		checkNoBlock(t, "cut off", s[:len(s)-1])
		checkShowBlock(t, nil, "")
	}
}
