package tests

import (
	"encoding/hex"
	"math"
	"slices"
	"strconv"
	"strings"
	"testing"

	"loop.example/g00950/impl"
)

const (
	bloomSizes    = 64
	bloomKeyLimit = 60
)

// plainBits returns the three bits of a key by the document's words.
func plainBits(key string, size int) [3]int {
	a, b := plainCrc(key), plainCrc(key+string([]byte{120}))
	return [3]int{a % (8 * size), (a + b) % (8 * size), (a + 2*b) % (8 * size)}
}

// filterOf returns size bytes in which just these bits are set, each at its place among the digits of its byte.
func filterOf(size int, bits ...int) string {
	b := make([]byte, size)
	for _, n := range bits {
		b[n/8] |= []byte{0x01, 0x02, 0x04, 0x08, 0x10, 0x20, 0x40, 0x80}[n%8]
	}
	return string(b)
}

func plainBloom(keys []string, size int) string {
	var bits []int
	for _, key := range keys {
		three := plainBits(key, size)
		bits = append(bits, three[:]...)
	}
	return filterOf(size, bits...)
}

// bitsIn returns the bits that are set in b, in order.
func bitsIn(b string) []int {
	var bits []int
	for n := range 8 * len(b) {
		if int(b[n/8])/(1<<(n%8))%2 == 1 {
			bits = append(bits, n)
		}
	}
	return bits
}

func plainMay(b string, key string) bool {
	if len(b) < 1 || len(b) > bloomSizes {
		return false
	}
	set := bitsIn(b)
	for _, n := range plainBits(key, len(b)) {
		if !slices.Contains(set, n) {
			return false
		}
	}
	return true
}

func checkBloom(t *testing.T, keys []string, size int, want string) {
	t.Helper()
	if got := impl.BloomOf(keys, size); got != want {
		t.Errorf("BloomOf(%.40q, %d) = %x, want %x", keys, size, got, want)
	}
}

func checkMay(t *testing.T, b string, key string, want bool) {
	t.Helper()
	if got := impl.BloomMay(b, key); got != want {
		t.Errorf("BloomMay(%x, %.40q) = %v, want %v", b, key, got, want)
	}
}

// bloomKeys returns this many different keys, with the empty one and ones of other bytes and lengths among them.
func bloomKeys(count int) []string {
	all := []string{"", "a", "bc", "x", "\x00", "\xff", "\x00\xff\x00", "\x00\x00", allBytes(), strings.Repeat("long ", 50)}
	return append(all, numbered(bloomKeyLimit)...)[:count]
}

// sampleKeys returns keys with the long ones that a filter takes as well.
func sampleKeys() []string {
	return append(bloomKeys(40), strings.Repeat("x", 20000), strings.Repeat("\xff", 300), strings.Repeat("\x00", 300), "a\x00b\xffc", "é", "\x80x", "xx")
}

func fullFilter(size int) string { return strings.Repeat("\xff", size) }

func emptyFilter(size int) string { return strings.Repeat("\x00", size) }

func TestBloomOf(t *testing.T) {
	for _, c := range []struct {
		keys []string
		size int
		want string
	}{
		{[]string{""}, 1, "49"},
		{[]string{""}, 2, "4900"},
		{[]string{""}, 3, "490000"},
		{[]string{""}, 8, "0100080040000000"},
		{[]string{""}, 64, "01000000000000000000000000000000000000000000000000000000000000000000000040000000000000000000000000000800000000000000000000000000"},
		{[]string{"a"}, 1, "07"},
		{[]string{"a"}, 2, "0700"},
		{[]string{"a"}, 3, "070000"},
		{[]string{"a"}, 8, "0000020000000500"},
		{[]string{"a"}, 63, "000000000000000000000000000000010000000000000000020000000000000000040000000000000000000000000000000000000000000000000000000000"},
		{[]string{"a"}, 64, "00000000000000000000000000000000000000000000000000000000000000000000000000000100000000000000000000000200000000000000000000000400"},
		{[]string{"bc"}, 1, "1c"},
		{[]string{"bc"}, 2, "0814"},
		{[]string{"bc"}, 3, "100804"},
		{[]string{"bc"}, 8, "0000080000100004"},
		{[]string{"key 1"}, 3, "100408"},
		{[]string{"key 1"}, 63, "000000100000000000000000000000000000000000000000000000000000000008000000000000000000000000000000000000000000000000000000000400"},
		{[]string{"\x00"}, 1, "02"},
		{[]string{"\x00"}, 3, "020202"},
		{[]string{"\x00\xff\x00"}, 8, "0000080040000002"},
		{[]string{"\x00\xff\x00"}, 64, "00000000000000000000000000000000000000004000000000000000000000000000000000000000000008000000000000000000000000000000000000000002"},
		{[]string{strings.Repeat("x", 300)}, 2, "0841"},
		{[]string{strings.Repeat("x", 300)}, 8, "0001000008000040"},
		{[]string{"a", "bc"}, 8, "00000a0000100504"},
		{[]string{"", "a", "bc"}, 3, "5f0804"},
		{[]string{"", "a", "bc"}, 16, "01000a00401001000000000000000404"},
	} {
		want, err := hex.DecodeString(c.want)
		if err != nil {
			t.Fatal(err)
		}
		checkBloom(t, c.keys, c.size, string(want))
		for _, key := range c.keys {
			checkMay(t, string(want), key, true)
		}
	}
}

func TestEachAddedKeyIsInItsFilter(t *testing.T) {
	throw := dice(31)
	for count := range bloomKeyLimit + 1 {
		equal := make([]string, count)
		for i := range equal {
			equal[i] = "equal"
		}
		short := allStrings("ab", 6)
		thrown := make([]string, count)
		for i := range thrown {
			thrown[i] = short[throw(len(short))]
		}
		for size := 1; size <= bloomSizes; size++ {
			for _, keys := range [][]string{bloomKeys(count), thrown, equal} {
				b := impl.BloomOf(keys, size)
				if len(b) != size {
					t.Fatalf("BloomOf(%.40q, %d) has %d bytes", keys, size, len(b))
				}
				for _, key := range keys {
					checkMay(t, b, key, true)
				}
			}
		}
	}
}

func TestFilterOfSeveralKeysIsTheUnion(t *testing.T) {
	for size := 1; size <= bloomSizes; size++ {
		for _, count := range []int{2, 3, 10, 59, 60} {
			keys := bloomKeys(count)
			var bits []int
			for _, key := range keys {
				bits = append(bits, bitsIn(impl.BloomOf([]string{key}, size))...)
			}
			want := filterOf(size, bits...)
			if want != plainBloom(keys, size) {
				t.Errorf("%d keys in %d bytes are %x, want %x", count, size, want, plainBloom(keys, size))
			}
			checkBloom(t, keys, size, want)
			turned := slices.Clone(keys)
			slices.Reverse(turned)
			checkBloom(t, turned, size, want)
			slices.Sort(turned)
			checkBloom(t, turned, size, want)
		}
	}
}

func TestEveryOrderOfKeysHasOneFilter(t *testing.T) {
	keys := []string{"", "a", "bc", "a", "\x00\xff"}
	for _, size := range []int{1, 2, 3, 8, 63, 64} {
		want := plainBloom(keys, size)
		for _, order := range keyOrders(keys) {
			checkBloom(t, order, size, want)
		}
	}
}

// keyOrders returns keys in every order.
func keyOrders(keys []string) [][]string {
	if len(keys) == 0 {
		return [][]string{nil}
	}
	var all [][]string
	for i, key := range keys {
		for _, rest := range keyOrders(slices.Delete(slices.Clone(keys), i, i+1)) {
			all = append(all, append(rest, key))
		}
	}
	return all
}

func TestBitsOfASingleKey(t *testing.T) {
	for size := 1; size <= bloomSizes; size++ {
		for _, key := range sampleKeys() {
			three := plainBits(key, size)
			checkBloom(t, []string{key}, size, filterOf(size, three[:]...))
		}
	}
}

// TestBitsThatCoincide also sees to it that keys with one, two and three different bits are among those tried.
func TestBitsThatCoincide(t *testing.T) {
	for _, size := range []int{1, 2, 3, 8, 63, 64} {
		var seen [4]int
		for i := range 2000 {
			key := "k" + strconv.Itoa(i)
			three := plainBits(key, size)
			b := impl.BloomOf([]string{key}, size)
			if want := filterOf(size, three[:]...); b != want {
				t.Errorf("BloomOf of %q with the bits %d = %x, want %x", key, three, b, want)
			}
			slices.Sort(three[:])
			different := slices.Compact(three[:])
			if got := bitsIn(b); !slices.Equal(got, different) {
				t.Errorf("BloomOf of %q has the bits %d, want %d", key, got, different)
			}
			seen[len(different)]++
			checkMay(t, b, key, true)
		}
		if seen[1] == 0 || seen[2] == 0 || seen[3] == 0 {
			t.Errorf("%d bytes: %d keys with one, two and three bits", size, seen[1:])
		}
	}
}

func TestBitsCountFromTheLeastSignificantOfTheFirstByte(t *testing.T) {
	// The three bits of this key coincide at any of these sizes, so that its filter has a single bit.
	b := impl.BloomOf([]string{"\x00"}, 2)
	if b != "\x02\x00" {
		t.Errorf("the filter of the bit 1 is %x", b)
	}
	for size := 1; size <= bloomSizes; size++ {
		for n := range 8 * size {
			one := filterOf(size, n)
			for i := range 40 {
				key := "one " + strconv.Itoa(i)
				checkMay(t, one, key, plainBits(key, size) == [3]int{n, n, n})
			}
		}
	}
}

func TestBloomOfTheEmptyKey(t *testing.T) {
	empty, x := impl.Crc(""), impl.Crc(string([]byte{120}))
	if empty != 0 || x != 2839306131 {
		t.Fatalf("Crc of the empty text and of x is %d and %d", empty, x)
	}
	for size := 1; size <= bloomSizes; size++ {
		want := filterOf(size, 0, 2839306131%(8*size), 5678612262%(8*size))
		checkBloom(t, []string{""}, size, want)
		checkBloom(t, []string{"", "", ""}, size, want)
		checkMay(t, want, "", true)
		for _, keys := range [][]string{{"", "a"}, {"a", ""}, {"a", "", "bc"}, {"", "a", ""}} {
			b := impl.BloomOf(keys, size)
			if b != plainBloom(keys, size) {
				t.Errorf("BloomOf(%q, %d) = %x, want %x", keys, size, b, plainBloom(keys, size))
			}
			checkMay(t, b, "", true)
		}
	}
	checkMay(t, impl.BloomOf([]string{"a"}, 64), "", false)
	checkMay(t, "", "", false)
	checkMay(t, emptyFilter(1), "", false)
}

func TestEqualKeysHaveTheFilterOfOne(t *testing.T) {
	for size := 1; size <= bloomSizes; size++ {
		for _, key := range bloomKeys(12) {
			want := plainBloom([]string{key}, size)
			for _, times := range []int{1, 2, 3, 4, 59, 60} {
				checkBloom(t, slices.Repeat([]string{key}, times), size, want)
			}
			checkBloom(t, []string{key, "other", key, "other"}, size, plainBloom([]string{"other", key}, size))
		}
	}
}

func TestBloomOfNoKeys(t *testing.T) {
	for size := 1; size <= bloomSizes; size++ {
		checkBloom(t, nil, size, emptyFilter(size))
		checkBloom(t, []string{}, size, emptyFilter(size))
		checkBloom(t, bloomKeys(5)[:0], size, emptyFilter(size))
		for _, key := range sampleKeys() {
			checkMay(t, impl.BloomOf(nil, size), key, false)
		}
	}
}

func TestBloomOfLimits(t *testing.T) {
	for _, size := range []int{math.MinInt, math.MinInt + 1, -1 << 61, -1 << 32, -65, -64, -2, -1, 0, 65, 66, 128, 1 << 29, 1 << 32, 1 << 60, 1<<60 + 1, 1 << 61, 1<<61 + 1, 1 << 62, math.MaxInt - 1, math.MaxInt} {
		for _, keys := range [][]string{nil, {""}, {"a", "bc"}, bloomKeys(59), bloomKeys(60), bloomKeys(61), make([]string, 1000)} {
			checkBloom(t, keys, size, "")
		}
	}
	for size := 1; size <= bloomSizes; size++ {
		for _, count := range []int{0, 1, 59, 60} {
			checkBloom(t, bloomKeys(count), size, plainBloom(bloomKeys(count), size))
			checkBloom(t, make([]string, count), size, plainBloom(make([]string, count), size))
		}
		for _, count := range []int{61, 62, 64, 120, 1000} {
			checkBloom(t, make([]string, count), size, "")
		}
		checkBloom(t, bloomKeys(61), size, "")
	}
	if impl.MaxKeysIn != bloomKeyLimit {
		t.Errorf("MaxKeysIn = %d", impl.MaxKeysIn)
	}
}

func TestBloomMayLengths(t *testing.T) {
	for _, length := range []int{0, 65, 66, 127, 128, 129, 1000, 70000} {
		for _, key := range sampleKeys() {
			checkMay(t, fullFilter(length), key, false)
			checkMay(t, emptyFilter(length), key, false)
		}
	}
	for length := 1; length <= bloomSizes; length++ {
		for _, key := range sampleKeys() {
			checkMay(t, fullFilter(length), key, true)
			checkMay(t, emptyFilter(length), key, false)
		}
	}
	// With another byte behind it, a filter of the greatest size is no filter any more.
	b := impl.BloomOf([]string{"a"}, 64)
	checkMay(t, b, "a", true)
	checkMay(t, b+"\x00", "a", false)
	checkMay(t, b+"\xff", "a", false)
}

func TestBloomMayMissesOneOfTheThreeBits(t *testing.T) {
	for size := 1; size <= bloomSizes; size++ {
		full := fullFilter(size)
		for _, key := range sampleKeys() {
			three := plainBits(key, size)
			exact := filterOf(size, three[:]...)
			checkMay(t, exact, key, true)
			for _, n := range three {
				checkMay(t, flipBit(full, n), key, false)
				checkMay(t, flipBit(exact, n), key, false)
			}
		}
	}
}

func TestBloomMayLooksAtNoOtherBit(t *testing.T) {
	for _, size := range []int{1, 2, 3, 8, 63, 64} {
		for _, key := range bloomKeys(12) {
			three := plainBits(key, size)
			full, exact := fullFilter(size), filterOf(size, three[:]...)
			for n := range 8 * size {
				own := slices.Contains(three[:], n)
				checkMay(t, flipBit(full, n), key, !own)
				checkMay(t, flipBit(exact, n), key, !own)
			}
		}
	}
}

func TestBloomMayOfEveryByte(t *testing.T) {
	for b := range 256 {
		for _, key := range sampleKeys() {
			filter := string([]byte{byte(b)})
			checkMay(t, filter, key, plainMay(filter, key))
		}
	}
}

func TestBloomMayOfThrownBytes(t *testing.T) {
	throw := dice(10)
	hits := 0
	for range 20000 {
		b := make([]byte, throw(70))
		for i := range b {
			b[i] = byte(throw(256)) | byte(throw(256)) | byte(throw(256))
		}
		key := "thrown " + strconv.Itoa(throw(1000))
		want := plainMay(string(b), key)
		checkMay(t, string(b), key, want)
		if want {
			hits++
		}
	}
	if hits < 1000 || hits > 19000 {
		t.Errorf("%d of 20000 are true", hits)
	}
}

func TestAKeyThatWasNotAddedIsMostlyNotInAFilter(t *testing.T) {
	b := impl.BloomOf(numbered(60), 64)
	wrong := 0
	for i := range 1000 {
		key := "absent " + strconv.Itoa(i)
		may := impl.BloomMay(b, key)
		if may != plainMay(b, key) {
			t.Errorf("BloomMay of %q is %v", key, may)
		}
		if may {
			wrong++
		}
	}
	if wrong > 200 {
		t.Errorf("%d of 1000 other keys are said to be in a filter of 60", wrong)
	}
}

func TestBloomOfLeavesItsKeys(t *testing.T) {
	for _, count := range []int{0, 1, 2, 59, 60, 61} {
		for _, size := range []int{-1, 0, 1, 8, 64, 65} {
			whole := append(bloomKeys(count), "unused", "", "capacity", "\x00")
			before := slices.Clone(whole)
			keys := whole[:count]
			b := impl.BloomOf(keys, size)
			for _, key := range keys {
				impl.BloomMay(b, key)
			}
			if len(keys) != count || !slices.Equal(whole, before) {
				t.Errorf("BloomOf changed %d keys for %d bytes", count, size)
			}
		}
	}
}

func TestBloomFunctionsKeepNoState(t *testing.T) {
	keys := bloomKeys(20)
	first := impl.BloomOf(keys, 20)
	for i := range 50 {
		other := "other " + strconv.Itoa(i)
		impl.BloomOf([]string{other}, 20)
		impl.BloomOf(bloomKeys(60), 1+i)
		impl.BloomOf(bloomKeys(61), 20)
		impl.BloomMay(fullFilter(20), other)
		checkBloom(t, keys, 20, first)
		checkBloom(t, nil, 20, emptyFilter(20))
		checkMay(t, emptyFilter(20), "a", false)
		checkMay(t, first, "a", true)
	}
	// A filter is a text of its own, whatever becomes of the list that it was made of.
	for i := range keys {
		keys[i] = "written over"
	}
	if first != plainBloom(bloomKeys(20), 20) {
		t.Error("the filter changed with its list")
	}
}
