package tests

import (
	"encoding/binary"
	"encoding/hex"
	"math"
	"strings"
	"testing"

	"loop.example/g00950/impl"
)

const (
	chaMaxCounter = 4294967295
	// rfcNonce is the nonce of section 2.3.2 of RFC 8439.
	rfcNonce = "\x00\x00\x00\x09\x00\x00\x00\x4a\x00\x00\x00\x00"
)

// rfcKey is the key of section 2.3.2 of RFC 8439: the bytes 0 to 31.
func rfcKey() string { return allBytes()[:32] }

// plainQuarter is the quarter round as section 2.1 of RFC 8439 writes it.
func plainQuarter(s []uint32, a, b, c, d int) {
	for _, turn := range [][2]int{{16, 12}, {8, 7}} {
		s[a] += s[b]
		s[d] ^= s[a]
		s[d] = s[d]<<turn[0] | s[d]>>(32-turn[0])
		s[c] += s[d]
		s[b] ^= s[c]
		s[b] = s[b]<<turn[1] | s[b]>>(32-turn[1])
	}
}

// plainBlock is the block function as section 2.3 of RFC 8439 writes it, for valid arguments only.
func plainBlock(key string, counter int, nonce string) string {
	start := []uint32{0x61707865, 0x3320646e, 0x79622d32, 0x6b206574}
	for i := 0; i < len(key); i += 4 {
		start = append(start, binary.LittleEndian.Uint32([]byte(key[i:])))
	}
	start = append(start, uint32(counter))
	for i := 0; i < len(nonce); i += 4 {
		start = append(start, binary.LittleEndian.Uint32([]byte(nonce[i:])))
	}
	s := append([]uint32(nil), start...)
	for range 10 {
		plainQuarter(s, 0, 4, 8, 12)
		plainQuarter(s, 1, 5, 9, 13)
		plainQuarter(s, 2, 6, 10, 14)
		plainQuarter(s, 3, 7, 11, 15)
		plainQuarter(s, 0, 5, 10, 15)
		plainQuarter(s, 1, 6, 11, 12)
		plainQuarter(s, 2, 7, 8, 13)
		plainQuarter(s, 3, 4, 9, 14)
	}
	var out []byte
	for i := range s {
		out = binary.LittleEndian.AppendUint32(out, s[i]+start[i])
	}
	return string(out)
}

// plainStream combines the text with all its blocks written one after another, for valid arguments only.
func plainStream(key string, counter int, nonce string, text string) string {
	pad := ""
	for i := 0; len(pad) < len(text); i++ {
		pad += plainBlock(key, counter+i, nonce)
	}
	out := []byte(text)
	for i := range out {
		out[i] ^= pad[i]
	}
	return string(out)
}

// plainNonce is a kind, four zero bytes and a number of seven bytes, the highest first; for valid arguments only.
func plainNonce(kind int, n int) string {
	nonce := []byte{byte(kind), 0, 0, 0, 0}
	for shift := 48; shift >= 0; shift -= 8 {
		nonce = append(nonce, byte(n>>shift))
	}
	return string(nonce)
}

// chaText returns a text of this length in which the pieces of 64 bytes differ from each other.
func chaText(length int) string {
	b := make([]byte, length)
	for i := range b {
		b[i] = byte(i*7 + i/64*13 + 1)
	}
	return string(b)
}

// checkStream holds ChaStream against the plain stream, and applies it a second time.
func checkStream(t *testing.T, key string, counter int, nonce string, text string) {
	t.Helper()
	got := impl.ChaStream(key, counter, nonce, text)
	if want := plainStream(key, counter, nonce, text); got != want {
		t.Fatalf("ChaStream of %d bytes from counter %d = %x, want %x", len(text), counter, got, want)
	}
	if back := impl.ChaStream(key, counter, nonce, got); back != text {
		t.Fatalf("ChaStream of %d bytes from counter %d applied twice = %x, want %x", len(text), counter, back, text)
	}
}

func TestChaBlock(t *testing.T) {
	zeroKey, zeroNonce := strings.Repeat("\x00", 32), strings.Repeat("\x00", 12)
	for _, c := range []struct {
		key     string
		counter int
		nonce   string
		want    string
	}{
		// Section 2.3.2 of RFC 8439.
		{rfcKey(), 1, rfcNonce, "10f1e7e4d13b5915500fdd1fa32071c4c7d1f4c733c068030422aa9ac3d46c4ed2826446079faa0914c2d705d98b02a2b5129cd1de164eb9cbd083e8a2503c4e"},
		// The next five are the examples of its section A.1.
		{zeroKey, 0, zeroNonce, "76b8e0ada0f13d90405d6ae55386bd28bdd219b8a08ded1aa836efcc8b770dc7da41597c5157488d7724e03fb8d84a376a43b8f41518a11cc387b669b2ee6586"},
		{zeroKey, 1, zeroNonce, "9f07e7be5551387a98ba977c732d080dcb0f29a048e3656912c6533e32ee7aed29b721769ce64e43d57133b074d839d531ed1f28510afb45ace10a1f4b794d6f"},
		{zeroKey[1:] + "\x01", 1, zeroNonce, "3aeb5224ecf849929b9d828db1ced4dd832025e8018b8160b82284f3c949aa5a8eca00bbb4a73bdad192b5c42f73f2fd4e273644c8b36125a64addeb006c13a0"},
		{"\x00\xff" + zeroKey[2:], 2, zeroNonce, "72d54dfbf12ec44b362692df94137f328fea8da73990265ec1bbbea1ae9af0ca13b25aa26cb4a648cb9b9d1be65b2c0924a66c54d545ec1b7374f4872e99f096"},
		{zeroKey, 0, zeroNonce[1:] + "\x02", "c2c64d378cd536374ae204b9ef933fcd1a8b2288b3dfa49672ab765b54ee27c78a970e0e955c14f3a88e741b97c286f75f8fc299e8148362fa198a39531bed6d"},
		// The rest are what OpenSSL's chacha20 gives.
		{rfcKey(), 0, rfcNonce, "8adc91fd9ff4f0f51b0fad50ff15d637e40efda206cc52c783a74200503c1582cd9833367d0a54d57d3c9e998f490ee69ca34c1ff9e939a75584c52d690a35d4"},
		{rfcKey(), 0x01020304, rfcNonce, "cc671187669bbfc8b3a329e9e50fc2550a26f184be44e7c4d8d43667e6cf7b8cbf06efdce229c731ab68915fc5c37e7a44c3b5a12074fc317791bbdc7534e69d"},
		{rfcKey(), 2147483648, rfcNonce, "4c76f034662332641d91b481c074c7454e969ecae52c92c9df756ba56a7cd932d4750c0d1e0609fc44ee6681cd75bdad5a82f37b3586029e9a89a64726396f47"},
		{rfcKey(), 4294967294, rfcNonce, "bed7e9fb1985cf676d5b3eee7cdd741282a8e6703109423c0c15c551a64d374f8a897645cf2688709dc061487d111682e4be93a05f18df4a1d292f8ca8b5f460"},
		{rfcKey(), 4294967295, rfcNonce, "ff2941b8d740f6cbb50936bf997ebd5218cb108dc53f41c64841d0218167430ca03b770ca74ccb642a28194d1dedd2ed13151e25ec5d7faeb6d060bfb7e6b146"},
	} {
		got := impl.ChaBlock(c.key, c.counter, c.nonce)
		if hex.EncodeToString([]byte(got)) != c.want {
			t.Errorf("ChaBlock(%x, %d, %x) = %x, want %s", c.key, c.counter, c.nonce, got, c.want)
		}
		if plain := plainBlock(c.key, c.counter, c.nonce); got != plain {
			t.Errorf("ChaBlock(%x, %d, %x) = %x, by the plain rule %x", c.key, c.counter, c.nonce, got, plain)
		}
	}
}

func TestChaBlockTellsEveryBit(t *testing.T) {
	seen := map[string]string{}
	check := func(key string, counter int, nonce string, what string) {
		t.Helper()
		got := impl.ChaBlock(key, counter, nonce)
		if want := plainBlock(key, counter, nonce); got != want {
			t.Fatalf("ChaBlock(%x, %d, %x) = %x, want %x", key, counter, nonce, got, want)
		}
		if other, ok := seen[got]; ok {
			t.Fatalf("the blocks with %s and with %s are equal", other, what)
		}
		seen[got] = what
	}
	key, counter, nonce := allBytes()[200:232], 305419896, allBytes()[120:132]
	check(key, counter, nonce, "nothing changed")
	for bit := range 8 * len(key) {
		check(flipBit(key, bit), counter, nonce, "key bit "+impl.Dec(bit))
	}
	for bit := range 32 {
		check(key, counter^1<<bit, nonce, "counter bit "+impl.Dec(bit))
	}
	for bit := range 8 * len(nonce) {
		check(key, counter, flipBit(nonce, bit), "nonce bit "+impl.Dec(bit))
	}
}

// chaCase is one set of the arguments that ChaBlock and ChaStream share.
type chaCase struct {
	key     string
	counter int
	nonce   string
}

// chaInvalid lists arguments of which exactly one is not as the document states, and two sets in which all of them are wrong.
func chaInvalid() []chaCase {
	list := []chaCase{{"", -1, ""}, {allBytes()[:33], chaMaxCounter + 1, allBytes()[:13]}}
	for _, counter := range []int{-1, -2, -chaMaxCounter, math.MinInt, math.MinInt + 1, chaMaxCounter + 1, chaMaxCounter + 2, 1 << 33, math.MaxInt - 1, math.MaxInt} {
		list = append(list, chaCase{rfcKey(), counter, rfcNonce})
	}
	for _, length := range []int{0, 1, 12, 16, 31, 33, 64} {
		list = append(list, chaCase{allBytes()[:length], 1, rfcNonce})
	}
	for _, length := range []int{0, 1, 8, 11, 13, 16, 32} {
		list = append(list, chaCase{rfcKey(), 1, allBytes()[:length]})
	}
	return list
}

func TestChaBlockOfInvalidArguments(t *testing.T) {
	for _, c := range chaInvalid() {
		if got := impl.ChaBlock(c.key, c.counter, c.nonce); got != "" {
			t.Errorf("ChaBlock(%x, %d, %x) = %x, want the empty string", c.key, c.counter, c.nonce, got)
		}
	}
}

func TestChaBlockAtTheLimitsOfTheCounter(t *testing.T) {
	for _, counter := range []int{0, 1, 255, 256, 65535, 65536, 1<<31 - 1, 1 << 31, chaMaxCounter - 1, chaMaxCounter} {
		got := impl.ChaBlock(rfcKey(), counter, rfcNonce)
		if want := plainBlock(rfcKey(), counter, rfcNonce); got != want || len(got) != 64 {
			t.Errorf("ChaBlock with counter %d = %x, want %x", counter, got, want)
		}
	}
}

func TestChaStreamOfTheRfc(t *testing.T) {
	// Section 2.4.2 of RFC 8439.
	text := "Ladies and Gentlemen of the class of '99: If I could offer you only one tip for the future, sunscreen would be it."
	want := "6e2e359a2568f98041ba0728dd0d6981e97e7aec1d4360c20a27afccfd9fae0bf91b65c5524733ab8f593dabcd62b3571639d624e65152ab8f530c359f0861d8" +
		"07ca0dbf500d6a6156a38e088a22b65e52bc514d16ccf806818ce91ab77937365af90bbf74a35be6b40b8eedf2785e42874d"
	nonce := "\x00\x00\x00\x00\x00\x00\x00\x4a\x00\x00\x00\x00"
	got := impl.ChaStream(rfcKey(), 1, nonce, text)
	if hex.EncodeToString([]byte(got)) != want {
		t.Errorf("ChaStream = %x, want %s", got, want)
	}
	checkStream(t, rfcKey(), 1, nonce, text)
}

func TestChaStreamTakesABlockForEachPart(t *testing.T) {
	for _, length := range []int{0, 1, 63, 64, 65, 128, 129} {
		text := chaText(length)
		got := impl.ChaStream(rfcKey(), 7, rfcNonce, text)
		if len(got) != length {
			t.Fatalf("ChaStream of %d bytes has %d", length, len(got))
		}
		for i := range length {
			if block := impl.ChaBlock(rfcKey(), 7+i/64, rfcNonce); got[i] != text[i]^block[i%64] {
				t.Fatalf("ChaStream of %d bytes: byte %d is not combined with the block of counter %d", length, i, 7+i/64)
			}
		}
		checkStream(t, rfcKey(), 7, rfcNonce, text)
	}
}

func TestChaStreamOfEveryLength(t *testing.T) {
	for length := range 400 {
		checkStream(t, rfcKey(), 0, rfcNonce, chaText(length))
		checkStream(t, allBytes()[224:], 1<<31-2, allBytes()[100:112], strings.Repeat("\xff", length))
	}
	checkStream(t, rfcKey(), 65530, rfcNonce, chaText(20000))
}

func TestChaStreamOfArbitraryBytes(t *testing.T) {
	for i := range 256 {
		checkStream(t, rfcKey(), 1, rfcNonce, string([]byte{byte(i)}))
	}
	for _, text := range []string{
		allBytes(), strings.Repeat("\x00", 130), strings.Repeat("\xff", 130), strings.Repeat("\xe2\x82", 70),
		"\x80", "a\xffb", "\u20ac", "\U0001f600\xf0\x9f", "\ufffd", strings.Repeat("\u20ac", 43),
	} {
		checkStream(t, rfcKey(), 1, rfcNonce, text)
		checkStream(t, allBytes()[224:], 1, allBytes()[244:], text)
	}
}

func TestChaStreamNeedsEveryBlock(t *testing.T) {
	for _, c := range []struct {
		counter, length int
		ok              bool
	}{
		{chaMaxCounter, 0, true},
		{chaMaxCounter, 1, true},
		{chaMaxCounter, 63, true},
		{chaMaxCounter, 64, true},
		{chaMaxCounter, 65, false},
		{chaMaxCounter, 128, false},
		{chaMaxCounter, 129, false},
		{chaMaxCounter - 1, 0, true},
		{chaMaxCounter - 1, 64, true},
		{chaMaxCounter - 1, 65, true},
		{chaMaxCounter - 1, 128, true},
		{chaMaxCounter - 1, 129, false},
		{chaMaxCounter - 9, 640, true},
		{chaMaxCounter - 9, 641, false},
	} {
		text := chaText(c.length)
		if c.ok {
			checkStream(t, rfcKey(), c.counter, rfcNonce, text)
		} else if got := impl.ChaStream(rfcKey(), c.counter, rfcNonce, text); got != "" {
			t.Errorf("ChaStream of %d bytes from counter %d = %x, want the empty string", c.length, c.counter, got)
		}
	}
}

func TestChaStreamOfInvalidArguments(t *testing.T) {
	for _, c := range chaInvalid() {
		for _, length := range []int{0, 1, 64, 65, 200} {
			if got := impl.ChaStream(c.key, c.counter, c.nonce, chaText(length)); got != "" {
				t.Errorf("ChaStream(%x, %d, %x) of %d bytes = %x, want the empty string", c.key, c.counter, c.nonce, length, got)
			}
		}
	}
}

func TestChaStreamOfTheEmptyText(t *testing.T) {
	// The results are equal: the empty text under a valid key, and the refusal of an invalid one.
	for _, key := range []string{rfcKey(), "", rfcKey()[1:], rfcKey() + "\x00"} {
		if got := impl.ChaStream(key, 0, rfcNonce, ""); got != "" {
			t.Errorf("ChaStream of the empty text under %x = %x, want the empty string", key, got)
		}
	}
}

func TestChaDependsOnlyOnTheArguments(t *testing.T) {
	text := chaText(150)
	block, stream := impl.ChaBlock(rfcKey(), 5, rfcNonce), impl.ChaStream(rfcKey(), 5, rfcNonce, text)
	// Calls in between, some of them refused, and the same bytes in other memory.
	for _, c := range chaInvalid() {
		impl.ChaBlock(c.key, c.counter, c.nonce)
		impl.ChaStream(c.key, c.counter, c.nonce, text)
		impl.ChaStream(rfcKey(), chaMaxCounter, rfcNonce, text)
		key, nonce := strings.Clone(rfcKey()), strings.Clone(rfcNonce)
		if impl.ChaBlock(key, 5, nonce) != block || impl.ChaStream(key, 5, nonce, strings.Clone(text)) != stream {
			t.Fatal("the same arguments gave another result")
		}
	}
	if text != chaText(150) {
		t.Error("the text was changed")
	}
}

func TestNonceOf(t *testing.T) {
	for _, c := range []struct {
		kind, n int
		want    string
	}{
		{3, 258, "\x03\x00\x00\x00\x00\x00\x00\x00\x00\x00\x01\x02"},
		{0, 0, "\x00\x00\x00\x00\x00\x00\x00\x00\x00\x00\x00\x00"},
		{255, 0, "\xff\x00\x00\x00\x00\x00\x00\x00\x00\x00\x00\x00"},
		{0, impl.MaxVar, "\x00\x00\x00\x00\x00\x01\xff\xff\xff\xff\xff\xff"},
		{255, impl.MaxVar, "\xff\x00\x00\x00\x00\x01\xff\xff\xff\xff\xff\xff"},
		{128, 0x1020304050607, "\x80\x00\x00\x00\x00\x01\x02\x03\x04\x05\x06\x07"},
		{-1, 0, ""},
		{256, 0, ""},
		{0, -1, ""},
		{0, impl.MaxVar + 1, ""},
		{255, impl.MaxVar + 1, ""},
		{0, 1<<56 - 1, ""},
		{0, 1 << 56, ""},
		{math.MinInt, 1, ""},
		{math.MaxInt, 1, ""},
		{1, math.MinInt, ""},
		{1, math.MaxInt, ""},
		{256, impl.MaxVar + 1, ""},
		{-1, -1, ""},
	} {
		if got := impl.NonceOf(c.kind, c.n); got != c.want {
			t.Errorf("NonceOf(%d, %d) = %x, want %x", c.kind, c.n, got, c.want)
		}
	}
}

func TestNonceOfTellsKindAndNumber(t *testing.T) {
	seen := map[string]bool{}
	numbers := []int{0, 1, 255, 256, 65535, 65536, 1<<32 - 1, 1 << 32, impl.MaxVar - 1, impl.MaxVar}
	for kind := range 256 {
		for _, n := range numbers {
			got := impl.NonceOf(kind, n)
			if want := string([]byte{byte(kind), 0, 0, 0, 0}) + impl.Fixed(n, 7); got != want || len(got) != 12 {
				t.Fatalf("NonceOf(%d, %d) = %x, want %x", kind, n, got, want)
			}
			if impl.ChaBlock(rfcKey(), 0, got) == "" {
				t.Fatalf("NonceOf(%d, %d) = %x is no nonce for ChaBlock", kind, n, got)
			}
			seen[got] = true
		}
	}
	if len(seen) != 256*len(numbers) {
		t.Errorf("%d kinds and numbers have %d nonces", 256*len(numbers), len(seen))
	}
}
