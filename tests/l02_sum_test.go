package tests

import (
	"hash/crc32"
	"strings"
	"testing"

	"loop.example/g00950/impl"
)

// plainCrc follows the document's text bit by bit.
func plainCrc(s string) int {
	c := 4294967295
	for i := range len(s) {
		c ^= int(s[i])
		for range 8 {
			out := c % 2
			c >>= 1
			if out == 1 {
				c ^= 2197175160
			}
		}
	}
	return 4294967295 - c
}

// checkCrc holds Crc against the document's rule and against the standard library's CRC-32C.
func checkCrc(t *testing.T, s string) int {
	t.Helper()
	got := impl.Crc(s)
	if want := plainCrc(s); got != want {
		t.Fatalf("Crc of %d bytes starting with %.40q = %d, want %d", len(s), s, got, want)
	}
	if want := int(crc32.Checksum([]byte(s), crc32.MakeTable(crc32.Castagnoli))); got != want {
		t.Fatalf("Crc of %d bytes starting with %.40q = %d, the library has %d", len(s), s, got, want)
	}
	return got
}

// checkApart fails if two of the strings have the same checksum.
func checkApart(t *testing.T, list []string) {
	t.Helper()
	seen := map[int]string{}
	for _, s := range list {
		sum := checkCrc(t, s)
		if other, ok := seen[sum]; ok {
			t.Fatalf("%.40q (%d bytes) and %.40q (%d bytes) have the checksum %d", other, len(other), s, len(s), sum)
		}
		seen[sum] = s
	}
}

// flipBit returns s with one bit changed; bits are counted from the lowest one of the first byte.
func flipBit(s string, bit int) string {
	b := []byte(s)
	b[bit/8] ^= 1 << (bit % 8)
	return string(b)
}

func TestCrc(t *testing.T) {
	ascending := allBytes()[:32]
	descending := []byte(ascending)
	for i := range descending {
		descending[i] = byte(31 - i)
	}
	for _, c := range []struct {
		s    string
		want int
	}{
		{"123456789", 3808858755},
		{"", 0},
		{"\x00", 0x527d5351},
		{"\xff", 0xff000000},
		{"\xff\xff\xff\xff", 0xffffffff},
		{"a", 0xc1d04330},
		// The next four are the examples of RFC 3720, section B.4.
		{strings.Repeat("\x00", 32), 0x8a9136aa},
		{strings.Repeat("\xff", 32), 0x62a8ab43},
		{ascending, 0x46dd794e},
		{string(descending), 0x113fdb5c},
	} {
		if got := impl.Crc(c.s); got != c.want {
			t.Errorf("Crc(%q) = %d, want %d", c.s, got, c.want)
		}
		checkCrc(t, c.s)
	}
}

func TestCrcOfEveryByte(t *testing.T) {
	var one []string
	for i := range 256 {
		one = append(one, string([]byte{byte(i)}))
	}
	checkApart(t, one)
}

func TestCrcOfEveryPairOfBytes(t *testing.T) {
	// Strings of at most 2 bytes, the empty one included: a CRC of 32 bits keeps all of them apart.
	checkApart(t, allStrings(allBytes(), 2))
}

func TestCrcCountsBytesThatAreNoUtf8(t *testing.T) {
	odd := []string{
		"\x80", "\xbf", "\xc0", "\xc3", "\xe2\x82", "\xf0\x9f\x98", "\xff\xfe", "a\xffb", "a\xfeb",
		"\xc0\xaf", "\xc0\xae", "\xe0\x80\x80", "\xed\xa0\x80", "\xed\xa0\x81", "\xf4\x90\x80\x80", "\xf4\x90\x80\x81", "\xf8\x88\x80\x80\x80",
		// Valid text of 2, 3 and 4 bytes a rune, and the replacement rune itself.
		"\u00e9", "\u00ea", "\u20ac", "\u20ad", "\U0001f600", "\U0001f601", "\ufffd", "\ufffd\ufffd", "\ufffd\xff",
		"\u00e9\xe9", "\xe9\u00e9", "\u20ac\xe2\x82", "\xe2\x82\u20ac", "x\U0001f600y", "\xf0\x9f\x98\U0001f600",
	}
	checkApart(t, odd)
	checkApart(t, allStrings("a\x00\x80\x82\xac\xc3\xe2\xef\xbf\xbd\xf0\xff", 4))
}

func TestCrcTellsTheLastBit(t *testing.T) {
	for _, s := range []string{
		"\x00", "\xff", "a", "123456789", "\u20ac", "\U0001f600", "\xe2\x82", allBytes(),
		strings.Repeat("\x00", 1000), strings.Repeat("\xff", 1000), strings.Repeat("\u00e9", 1000),
	} {
		// The last bit is the lowest one of the last byte as it is written, and the highest one as the register takes it.
		lowest, highest := flipBit(s, 8*len(s)-8), flipBit(s, 8*len(s)-1)
		checkApart(t, []string{s, lowest, highest})
	}
}

func TestCrcTellsEveryBit(t *testing.T) {
	for _, s := range []string{"123456789", "\u00e9\u20ac\U0001f600", "\xff\xfe\xc3\xe2\x82", strings.Repeat("\x00", 40)} {
		variants := []string{s}
		for bit := range 8 * len(s) {
			variants = append(variants, flipBit(s, bit))
		}
		checkApart(t, variants)
	}
}

func TestCrcTellsTheLength(t *testing.T) {
	for _, start := range []string{"", "a", "\xff", "\u20ac", "\xe2\x82", "123456789"} {
		var list []string
		for zeros := range 300 {
			list = append(list, start+strings.Repeat("\x00", zeros))
		}
		checkApart(t, list)
	}
	var before []string
	for zeros := range 300 {
		before = append(before, strings.Repeat("\x00", zeros)+"1")
	}
	checkApart(t, before)
}

func TestCrcTellsTheOrder(t *testing.T) {
	checkApart(t, []string{"abc", "acb", "bac", "bca", "cab", "cba"})
}

func TestCrcOfLongStrings(t *testing.T) {
	for _, piece := range []string{"\x00", "\xff", "\x80", "a", "\u00e9", "\u20ac", "\U0001f600", "\xe2\x82", allBytes()} {
		for _, times := range []int{1000, 4095, 4096, 4097} {
			checkCrc(t, strings.Repeat(piece, times))
		}
	}
	long := strings.Repeat("123456789\xff\u20ac", 100000)
	if checkCrc(t, long) == checkCrc(t, flipBit(long, 8*len(long)-8)) {
		t.Error("the last bit of a long string does not count")
	}
}

func TestCrcDependsOnlyOnTheBytes(t *testing.T) {
	list := []string{"", "123456789", "\xff\xfe", "\u20ac", allBytes(), strings.Repeat("\x00", 5000)}
	first := make([]int, len(list))
	for i, s := range list {
		first[i] = impl.Crc(s)
	}
	// The same bytes once more, in another order of calls and in other memory.
	for i := len(list) - 1; i >= 0; i-- {
		inner := ("\xe2\x82" + list[i] + "\xac\x80")[2:]
		for _, s := range []string{list[i], list[i], strings.Clone(list[i]), string([]byte(list[i])), inner[:len(list[i])]} {
			if got := impl.Crc(s); got != first[i] {
				t.Errorf("Crc(%.40q) = %d, before it was %d", s, got, first[i])
			}
		}
	}
}
