package tests

import (
	"crypto/sha256"
	"encoding/hex"
	"math"
	"strings"
	"testing"

	"loop.example/g00950/impl"
)

const (
	fileMaxText = 2000
	fileSum     = 4
	// emptyFile is what the empty text seals to: the checksum of nothing is 0.
	emptyFile = "\x00\x00\x00\x00"
	// zeroSummed are the only four bytes whose checksum is 0; they were computed once by another program.
	zeroSummed = "\xab\x9b\xe0\x9b"
	// unseenChange are the five bytes that the checksum does not see if they are combined with others by exclusive or: its polynomial.
	unseenChange = "\xf1\x76\xec\x05\x01"
)

// filePlace is what a file is sealed with.
type filePlace struct {
	key string
	n   int
}

// filePlaces lists keys and numbers that SealFile accepts, the limits among them.
func filePlaces() []filePlace {
	var list []filePlace
	for _, key := range wrapKeys() {
		for _, n := range wrapNumbers() {
			list = append(list, filePlace{key, n})
		}
	}
	return list
}

// fewPlaces lists some of them, for tests with many texts.
func fewPlaces() []filePlace {
	return []filePlace{{key32(1), 0}, {rfcKey(), 3}, {strings.Repeat("\x00", 32), impl.MaxVar}, {strings.Repeat("\xff", 32), 1 << 32}}
}

// invalidFilePlaces lists keys and numbers of which one is not as the document states, and some of which both are not.
func invalidFilePlaces() []filePlace {
	var list []filePlace
	lengths, numbers := []int{0, 1, 16, 31, 33, 64}, []int{-1, -2, impl.MaxVar + 1, impl.MaxVar + 2, 1<<56 - 1, 1 << 56, math.MinInt, math.MaxInt}
	for _, length := range lengths {
		for _, n := range wrapNumbers() {
			list = append(list, filePlace{keyBytes(1, length), n})
		}
		for _, n := range numbers {
			list = append(list, filePlace{keyBytes(1, length), n})
		}
	}
	for _, key := range wrapKeys() {
		for _, n := range numbers {
			list = append(list, filePlace{key, n})
		}
	}
	// Lengths count bytes: 32 runes of two bytes are 64.
	return append(list, filePlace{strings.Repeat("\u00e9", 32), 0})
}

// fileLengths lists lengths around the blocks of the stream and the limit.
func fileLengths() []int {
	return []int{0, 1, 2, 31, 32, 33, 59, 60, 63, 64, 65, 127, 128, 129, 1000, 1919, 1920, 1921, 1983, 1984, 1985, 1999, 2000}
}

// longTexts lists texts of more bytes than a file takes.
func longTexts() []string {
	return []string{chaText(2001), chaText(2002), chaText(2048), chaText(2049), chaText(4000), chaText(100000), strings.Repeat("\x00", 2001), strings.Repeat("\u00e9", 1001)}
}

// plainFileKey follows the document's text, for valid arguments only.
func plainFileKey(at filePlace) string { return plainBlock(at.key, 0, plainNonce(4, at.n))[:32] }

func plainFileStream(at filePlace, text string) string {
	return plainStream(plainFileKey(at), 1, plainNonce(5, at.n), text)
}

// plainFile follows the document's text, for a valid key and number only; it knows no limit of the text.
func plainFile(at filePlace, text string) string { return plainSummed(plainFileStream(at, text)) }

// plainOpen reads a file of a valid key and number from the side of the string: what has the right checksum and length is sealed.
func plainOpen(at filePlace, s string) (string, bool) {
	if len(s) < fileSum || len(s) > fileSum+fileMaxText || plainSummed(s[fileSum:]) != s {
		return "", false
	}
	return plainFileStream(at, s[fileSum:]), true
}

// combined returns s with other bytes combined with its own by exclusive or, from a position on.
func combined(s string, at int, with string) string {
	b := []byte(s)
	for i := range len(with) {
		b[at+i] ^= with[i]
	}
	return string(b)
}

func checkFileOpens(t *testing.T, what string, at filePlace, s string, want string) {
	t.Helper()
	if got, ok := impl.OpenFile(at.key, at.n, s); !ok || got != want {
		t.Fatalf("%s: OpenFile(%x, %d, %x) = %x, %v, want %x, true", what, at.key, at.n, s, got, ok, want)
	}
}

// checkFile fails unless the text seals to what the document says, and that opens to the text.
func checkFile(t *testing.T, at filePlace, text string) {
	t.Helper()
	s := impl.SealFile(at.key, at.n, text)
	if want := plainFile(at, text); s != want {
		t.Fatalf("SealFile(%x, %d, %x) = %x, want %x", at.key, at.n, text, s, want)
	}
	checkFileOpens(t, "a sealed text", at, s, text)
}

func checkNoFile(t *testing.T, what string, at filePlace, s string) {
	t.Helper()
	if got, ok := impl.OpenFile(at.key, at.n, s); ok || got != "" {
		t.Errorf("%s: OpenFile(%x, %d, %.80x) of %d bytes = %x, %v, want nothing, false", what, at.key, at.n, s, len(s), got, ok)
	}
}

// checkPerhapsFile holds OpenFile against the tests' own reading of any string, and tells whether it is a file.
func checkPerhapsFile(t *testing.T, what string, at filePlace, s string) bool {
	t.Helper()
	want, ok := plainOpen(at, s)
	if !ok {
		checkNoFile(t, what, at, s)
		return false
	}
	checkFileOpens(t, what, at, s, want)
	if again := impl.SealFile(at.key, at.n, want); again != s {
		t.Errorf("%s: OpenFile(%x, %d, %x) = %x, which seals to %x", what, at.key, at.n, s, want, again)
	}
	return true
}

// The keys were computed once with another program and with OpenSSL's chacha20.
func TestFileKeyOfFixedExamples(t *testing.T) {
	for _, c := range []struct {
		at   filePlace
		want string
	}{
		{filePlace{rfcKey(), 0}, "76f8f2926b46e31a9689f6d9406e09037d5b6f2381e669c832cdee660947211b"},
		{filePlace{rfcKey(), 3}, "0a74faa24aeb82590de7327634c57c5b38706855087ec8b98e8ec013d7ae8f23"},
		{filePlace{strings.Repeat("\x00", 32), impl.MaxVar}, "d5ac994e9334f34290f2aaedc67a1fa16900e3d523aedbf7f101cf156def8b9a"},
		{filePlace{strings.Repeat("\xff", 32), 258}, "06c609478e4294fcd100dbe390d636e404019b5712a8fb9fe56246c1a0368270"},
	} {
		if got := impl.FileKey(c.at.key, c.at.n); hex.EncodeToString([]byte(got)) != c.want {
			t.Errorf("FileKey(%x, %d) = %x, want %s", c.at.key, c.at.n, got, c.want)
		}
	}
}

func TestFileKeyIsTheFirstHalfOfABlock(t *testing.T) {
	for _, at := range filePlaces() {
		got := impl.FileKey(at.key, at.n)
		if len(got) != 32 || got != plainFileKey(at) {
			t.Errorf("FileKey(%x, %d) = %x, want %x", at.key, at.n, got, plainFileKey(at))
		}
		if block := impl.ChaBlock(at.key, 0, impl.NonceOf(4, at.n)); len(block) != 64 || got != block[:32] {
			t.Errorf("FileKey(%x, %d) = %x, which is not the first half of %x", at.key, at.n, got, block)
		}
	}
}

func TestFileKeyTellsKeyAndNumber(t *testing.T) {
	seen := map[string]filePlace{}
	check := func(at filePlace) {
		t.Helper()
		got := impl.FileKey(at.key, at.n)
		if other, ok := seen[got]; ok || len(got) != 32 {
			t.Fatalf("FileKey(%x, %d) = %x, as with the key %x and the number %d", at.key, at.n, got, other.key, other.n)
		}
		seen[got] = at
	}
	for _, at := range filePlaces() {
		check(at)
	}
	key, n := allBytes()[200:232], 0x123456789abcd
	check(filePlace{key, n})
	for bit := range 8 * len(key) {
		check(filePlace{flipBit(key, bit), n})
	}
	for bit := range 49 {
		check(filePlace{key, n ^ 1<<bit})
	}
	for other := 2; other < 2000; other++ {
		check(filePlace{key, other})
	}
}

func TestFileKeyOfInvalidArguments(t *testing.T) {
	for _, at := range invalidFilePlaces() {
		if got := impl.FileKey(at.key, at.n); got != "" {
			t.Errorf("FileKey(%x, %d) = %x, want the empty string", at.key, at.n, got)
		}
	}
	for _, n := range []int{0, impl.MaxVar} {
		if got := impl.FileKey(key32(1), n); len(got) != 32 {
			t.Errorf("FileKey with the number %d has %d bytes", n, len(got))
		}
	}
}

// The sealed texts were computed once with another program and with OpenSSL's chacha20.
func TestSealFileOfFixedExamples(t *testing.T) {
	zero, ones := strings.Repeat("\x00", 32), strings.Repeat("\xff", 32)
	for _, c := range []struct {
		at   filePlace
		text string
		want string
	}{
		{filePlace{rfcKey(), 0}, "", "00000000"},
		{filePlace{rfcKey(), 0}, "a", "527d535100"},
		{filePlace{rfcKey(), 3}, "hello", "769de0ca74311a1c09"},
		{filePlace{zero, impl.MaxVar}, "\x00\xff\x00", "5be562541d1e71"},
		{filePlace{ones, 258}, chaText(60), "d89bcb53fea054a4d0e737dbd97ed20de52f42908a9d5cd4f7502be161ce8aefb6d739eb05692a9280373088c495bb809746721fcbc1ab9684217e79924a10ae"},
		{filePlace{rfcKey(), 3}, chaText(64), "8ccedf161d5c79667bc3f19e3efa0b49360ed30d6c7db7a19d808aeae7b5b0f9576bab80c98b5f85b2a0842fe061e3dc29b6596434dc7a3c927b71117be056b35559adb7"},
		{filePlace{rfcKey(), 3}, chaText(65), "3e0a30f61d5c79667bc3f19e3efa0b49360ed30d6c7db7a19d808aeae7b5b0f9576bab80c98b5f85b2a0842fe061e3dc29b6596434dc7a3c927b71117be056b35559adb7cb"},
		{filePlace{zero, 1}, chaText(150), "1fbd5a2b59bc4e567e94769569d37b35993cb9597d6c93ddbb293e3455e45c2db187068fa54e3daaee2f44c00e10a883fa00c9cddc81a8b235f9824660db6312d909e583df02f6704566e85045130ac0b6c0b8a4529658234f8ded2cc2729c974b632b3670bd1c6e2efd39c965deecff399533a4575d9588925c419e8718311cd4490926a3cddeed563fc3e761a0512e39b0025a7a730262658f"},
	} {
		got := impl.SealFile(c.at.key, c.at.n, c.text)
		if hex.EncodeToString([]byte(got)) != c.want {
			t.Errorf("SealFile(%x, %d, %x) = %x, want %s", c.at.key, c.at.n, c.text, got, c.want)
		}
		checkFile(t, c.at, c.text)
	}
}

func TestSealFileOfALongFixedExample(t *testing.T) {
	at := filePlace{strings.Repeat("\xff", 32), impl.MaxVar}
	got := impl.SealFile(at.key, at.n, chaText(fileMaxText))
	sum := sha256.Sum256([]byte(got))
	if want := "84acf633f2360eef3f749620f81ab21ed2160db3847ea4c592c1076ba8aa1904"; len(got) != 2004 || hex.EncodeToString(sum[:]) != want {
		t.Errorf("SealFile of 2000 bytes has %d bytes with the SHA-256 %x, want 2004 with %s", len(got), sum, want)
	}
	checkFile(t, at, chaText(fileMaxText))
}

func TestSealFileIsMadeOfItsParts(t *testing.T) {
	for _, at := range filePlaces() {
		for _, length := range []int{0, 1, 59, 60, 63, 64, 65, 1999, 2000} {
			text := chaText(length)
			hidden := impl.ChaStream(impl.FileKey(at.key, at.n), 1, impl.NonceOf(5, at.n), text)
			want := impl.Fixed(impl.Crc(hidden), 4) + hidden
			if got := impl.SealFile(at.key, at.n, text); got != want || len(got) != length+4 {
				t.Errorf("SealFile(%x, %d) of %d bytes = %x, want %x", at.key, at.n, length, got, want)
			}
			checkFile(t, at, text)
		}
	}
}

func TestSealFileAtTheLimitOfTheText(t *testing.T) {
	for _, at := range filePlaces() {
		for _, text := range []string{chaText(fileMaxText - 1), chaText(fileMaxText), strings.Repeat("\u00e9", 1000)} {
			if got := impl.SealFile(at.key, at.n, text); len(got) != len(text)+4 {
				t.Errorf("SealFile(%x, %d) of %d bytes has %d bytes", at.key, at.n, len(text), len(got))
			}
		}
		for _, text := range longTexts() {
			if got := impl.SealFile(at.key, at.n, text); got != "" {
				t.Errorf("SealFile(%x, %d) of %d bytes has %d bytes, want the empty string", at.key, at.n, len(text), len(got))
			}
		}
	}
}

func TestSealFileOfInvalidArguments(t *testing.T) {
	for _, at := range invalidFilePlaces() {
		for _, text := range append(longTexts(), "", "a", chaText(64), chaText(65), chaText(fileMaxText)) {
			if got := impl.SealFile(at.key, at.n, text); got != "" {
				t.Errorf("SealFile(%x, %d) of %d bytes = %x, want the empty string", at.key, at.n, len(text), got)
			}
		}
	}
}

func TestFilesOfEveryLength(t *testing.T) {
	for _, at := range fewPlaces() {
		for length := range fileMaxText + 1 {
			checkFile(t, at, chaText(length))
		}
	}
}

func TestFilesOfEveryPlace(t *testing.T) {
	for _, at := range filePlaces() {
		for _, length := range fileLengths() {
			checkFile(t, at, chaText(length))
			checkFile(t, at, strings.Repeat("\x00", length))
			checkFile(t, at, strings.Repeat("\xff", length))
		}
		for _, text := range []string{allBytes(), "\u00e9\xff\u20ac", strings.Repeat("\u20ac", 666), zeroSummed, emptyFile} {
			checkFile(t, at, text)
		}
	}
}

func TestFilesInFiles(t *testing.T) {
	// A sealed file is a text as any other, also under the same key and number.
	for _, at := range fewPlaces() {
		text := "inner"
		for len(text) <= fileMaxText {
			checkFile(t, at, text)
			s := impl.SealFile(at.key, at.n, text)
			checkNoFile(t, "the hidden bytes alone", at, s[fileSum:])
			text = s + text
		}
	}
}

func TestOpenFileOfEveryChangedByte(t *testing.T) {
	// A checksum of 32 bits sees every change of up to 32 bits in a row, so a changed byte is never taken.
	for _, at := range fewPlaces() {
		for _, length := range []int{0, 1, 2, 5, 60, 64, 65} {
			s := plainFile(at, chaText(length))
			for i := range len(s) {
				for step := 1; step < 256; step++ {
					changed := replaceByte(s, i, s[i]+byte(step))
					checkNoFile(t, "a changed byte", at, changed)
					if _, ok := plainOpen(at, changed); ok {
						t.Fatalf("byte %d of %x may be changed by %d", i, s, step)
					}
				}
			}
		}
	}
}

func TestOpenFileOfChangedBytesOfLongTexts(t *testing.T) {
	for _, at := range fewPlaces() {
		for _, length := range []int{700, 1999, fileMaxText} {
			s := plainFile(at, chaText(length))
			for i := range len(s) {
				checkNoFile(t, "a changed byte", at, replaceByte(s, i, s[i]^byte(1+i%255)))
			}
			checkFileOpens(t, "the unchanged file", at, s, chaText(length))
		}
	}
}

func TestOpenFileOfAChangedByteWithItsSum(t *testing.T) {
	// With the checksum made anew, the string is what another text seals to: the one with the same byte changed.
	for _, at := range fewPlaces() {
		for _, length := range []int{1, 5, 64, 65, 200} {
			text := chaText(length)
			hidden := plainFile(at, text)[fileSum:]
			for i := range length {
				for _, change := range []string{"\x01", "\x80", "\xff"} {
					checkFileOpens(t, "a changed byte with its sum", at, plainSummed(combined(hidden, i, change)), combined(text, i, change))
				}
			}
		}
	}
}

func TestOpenFileOfChangesThatTheSumDoesNotSee(t *testing.T) {
	// These strings are what other texts seal to, so those are returned.
	for _, at := range fewPlaces() {
		for _, length := range []int{5, 6, 64, 69, fileMaxText} {
			text := chaText(length)
			s := plainFile(at, text)
			for i := range length - len(unseenChange) + 1 {
				other := combined(text, i, unseenChange)
				checkFileOpens(t, "a change that the sum does not see", at, combined(s, fileSum+i, unseenChange), other)
				if length < 100 {
					checkFile(t, at, other)
				}
			}
			// One bit beside it is seen.
			for bit := range 8 * len(unseenChange) {
				checkNoFile(t, "a change that the sum sees", at, combined(s, fileSum, flipBit(unseenChange, bit)))
			}
		}
	}
}

func TestEmptyFiles(t *testing.T) {
	for _, at := range filePlaces() {
		if got := impl.SealFile(at.key, at.n, ""); got != emptyFile {
			t.Errorf("SealFile(%x, %d) of the empty text = %x, want four zero bytes", at.key, at.n, got)
		}
		checkFile(t, at, "")
		for i := range fileSum {
			for step := 1; step < 256; step++ {
				checkNoFile(t, "a changed byte of an empty file", at, replaceByte(emptyFile, i, byte(step)))
			}
		}
		for length := range fileSum {
			checkNoFile(t, "an empty file without some bytes", at, emptyFile[:length])
		}
	}
	for _, at := range invalidFilePlaces() {
		if got := impl.SealFile(at.key, at.n, ""); got != "" {
			t.Errorf("SealFile(%x, %d) of the empty text = %x, want the empty string", at.key, at.n, got)
		}
		checkNoFile(t, "an empty file", at, emptyFile)
		checkNoFile(t, "no file at all", at, "")
	}
}

func TestEmptyFilesWithBytesAdded(t *testing.T) {
	taken := 0
	for _, at := range fewPlaces() {
		for i := range 256 {
			b := string([]byte{byte(i)})
			for _, s := range []string{emptyFile + b, b + emptyFile, emptyFile[:2] + b + emptyFile[2:]} {
				// The checksum of one byte is never 0, and that of a zero byte has no zero byte.
				checkNoFile(t, "an empty file with a byte", at, s)
				if _, ok := plainOpen(at, s); ok {
					t.Fatalf("%x is a file", s)
				}
			}
		}
		for _, more := range append(allStrings("\x00\x01\xab\xff", 4)[1:], zeroSummed, zeroSummed+"\x00", "\x00"+zeroSummed, emptyFile, emptyFile+emptyFile, chaText(64), chaText(fileMaxText)) {
			for _, s := range []string{emptyFile + more, more + emptyFile} {
				if checkPerhapsFile(t, "an empty file with bytes added", at, s) {
					taken++
				}
			}
		}
		// The four bytes with the checksum 0 behind an empty file are what a text of four bytes seals to.
		checkFileOpens(t, "an empty file with four bytes", at, emptyFile+zeroSummed, plainFileStream(at, zeroSummed))
	}
	if taken != len(fewPlaces()) {
		t.Errorf("%d strings were taken for files, want one for each key and number", taken)
	}
}

func TestOpenFileOfStringsThatAreTooShort(t *testing.T) {
	short := allStrings("\x00\x01\x52\xff", 3)
	for _, at := range filePlaces() {
		for _, s := range short {
			checkNoFile(t, "a string without a whole sum", at, s)
		}
	}
	for i := range 256 {
		for _, length := range []int{1, 2, 3} {
			checkNoFile(t, "a string without a whole sum", fewPlaces()[0], strings.Repeat(string([]byte{byte(i)}), length))
		}
	}
}

func TestOpenFileOfFilesThatAreCutOff(t *testing.T) {
	taken := 0
	for _, at := range fewPlaces() {
		for _, length := range []int{1, 2, 5, 64, 65, 300, fileMaxText} {
			s := plainFile(at, chaText(length))
			for i := range len(s) {
				if checkPerhapsFile(t, "a file cut off at its end", at, s[:i]) {
					taken++
				}
				if i > 0 && checkPerhapsFile(t, "a file cut off at its front", at, s[i:]) {
					taken++
				}
				if checkPerhapsFile(t, "a file without one byte", at, s[:i]+s[i+1:]) {
					taken++
				}
			}
		}
	}
	if taken != 0 {
		t.Errorf("%d strings were taken for files, want none", taken)
	}
}

func TestOpenFileWithBytesAdded(t *testing.T) {
	added := append(allStrings("\x00x\xff", 3)[1:], chaText(64), chaText(fileMaxText))
	taken := 0
	for _, at := range fewPlaces() {
		for _, length := range []int{1, 2, 5, 64, 65, 300, fileMaxText - 1, fileMaxText} {
			s := plainFile(at, chaText(length))
			for _, more := range append(added, s) {
				for _, longer := range []string{s + more, more + s, s[:fileSum] + more + s[fileSum:]} {
					if checkPerhapsFile(t, "a file with bytes added", at, longer) {
						taken++
					}
				}
			}
		}
	}
	if taken != 0 {
		t.Errorf("%d strings were taken for files, want none", taken)
	}
}

func TestOpenFileWithBytesAddedThatTheSumDoesNotSee(t *testing.T) {
	// These four bytes bring the register of the checksum back to where it starts, so ahead of other bytes they leave the sum as it is.
	for _, at := range fewPlaces() {
		for _, length := range []int{1, 5, 64, 65, fileMaxText - 4, fileMaxText - 3, fileMaxText} {
			s := plainFile(at, chaText(length))
			longer := s[:fileSum] + zeroSummed + s[fileSum:]
			if length+len(zeroSummed) <= fileMaxText {
				checkFileOpens(t, "four bytes ahead of the hidden ones", at, longer, plainFileStream(at, longer[fileSum:]))
			} else {
				checkNoFile(t, "four bytes too many ahead of the hidden ones", at, longer)
			}
			checkNoFile(t, "four bytes behind a file", at, s+zeroSummed)
			checkNoFile(t, "four bytes ahead of a file", at, zeroSummed+s)
		}
	}
}

func TestOpenFileWithTheSumElsewhere(t *testing.T) {
	for _, at := range fewPlaces() {
		for _, length := range []int{1, 5, 64, 65, 300} {
			text := chaText(length)
			s := plainFile(at, text)
			sum, hidden := s[:fileSum], s[fileSum:]
			checkPerhapsFile(t, "the sum behind the text", at, hidden+sum)
			checkNoFile(t, "the sum the other way round", at, string([]byte{sum[3], sum[2], sum[1], sum[0]})+hidden)
			checkNoFile(t, "the sum of the text itself", at, plainSummed(text)[:fileSum]+hidden)
			checkNoFile(t, "the sum of the sum and the text", at, plainSummed(s)[:fileSum]+hidden)
			checkNoFile(t, "the register without its last step", at, combined(s, 0, "\xff\xff\xff\xff"))
			// The text with its sum, but not hidden, is what another text seals to.
			checkFileOpens(t, "a text that is not hidden", at, plainSummed(text), plainFileStream(at, text))
		}
	}
}

// nearPlaces lists keys and numbers of which only a bit is another one, and some that are far off.
func nearPlaces(at filePlace) []filePlace {
	list := filePlaces()
	for bit := range 8 * len(at.key) {
		list = append(list, filePlace{flipBit(at.key, bit), at.n})
	}
	for bit := range 49 {
		list = append(list, filePlace{at.key, at.n ^ 1<<bit})
	}
	return append(list, filePlace{plainFileKey(at), at.n})
}

func TestOpenFileWithAnotherKeyOrNumber(t *testing.T) {
	// The sum covers the hidden bytes alone, so another key finds a text too: the one that it seals to this string.
	for _, at := range fewPlaces() {
		for _, length := range []int{16, 64, 65, 200} {
			text := chaText(length)
			s := impl.SealFile(at.key, at.n, text)
			for _, other := range nearPlaces(at) {
				if !checkPerhapsFile(t, "another key or number", other, s) {
					t.Fatalf("OpenFile(%x, %d, %x) finds no text", other.key, other.n, s)
				}
				if got, _ := impl.OpenFile(other.key, other.n, s); (got == text) != (other == at) {
					t.Errorf("OpenFile(%x, %d, %x) = %x", other.key, other.n, s, got)
				}
			}
		}
	}
}

func TestFilesDoNotShowEachOther(t *testing.T) {
	for _, text := range []string{chaText(16), chaText(64), chaText(fileMaxText), strings.Repeat("\x00", 16)} {
		seen := map[string]filePlace{}
		check := func(at filePlace) {
			t.Helper()
			hidden := impl.SealFile(at.key, at.n, text)[fileSum:]
			if other, ok := seen[hidden]; ok {
				t.Fatalf("%x and %d hide %d bytes as %x and %d do", at.key, at.n, len(text), other.key, other.n)
			}
			seen[hidden] = at
		}
		for _, at := range filePlaces() {
			check(at)
		}
		for n := 2; n < 255; n++ {
			if n != 9 {
				check(filePlace{key32(1), n})
			}
		}
		if _, ok := seen[text]; ok {
			t.Error("a text is not hidden")
		}
	}
}

func TestFilesDoNotShareTheStreamOfOthers(t *testing.T) {
	// What the same text becomes as a wrapped key, in the log, or under the key itself must not be what a file has.
	for _, at := range fewPlaces() {
		text := chaText(32)
		hidden := impl.SealFile(at.key, at.n, text)[fileSum:]
		for kind := range 8 {
			for counter := range 3 {
				for _, key := range []string{at.key, plainFileKey(at)} {
					same := plainStream(key, counter, plainNonce(kind, at.n), text) == hidden
					if same != (key == plainFileKey(at) && kind == 5 && counter == 1) {
						t.Errorf("SealFile(%x, %d): the stream of the counter %d and the kind %d is the same: %v", at.key, at.n, counter, kind, same)
					}
				}
			}
		}
	}
}

func TestOpenFileOfTextsThatAreTooLong(t *testing.T) {
	for _, at := range fewPlaces() {
		for _, text := range longTexts() {
			checkNoFile(t, "a text that is too long", at, plainFile(at, text))
			checkNoFile(t, "a text that is too long and not hidden", at, plainSummed(text))
		}
		hidden := chaText(fileMaxText)
		checkFileOpens(t, "2000 bytes with their sum", at, plainSummed(hidden), plainFileStream(at, hidden))
		checkNoFile(t, "2001 bytes with their sum", at, plainSummed(hidden+"x"))
		checkNoFile(t, "many zero bytes", at, strings.Repeat("\x00", 1000000))
		checkNoFile(t, "a million bytes with their sum", at, plainSummed(strings.Repeat("x", 1000000)))
	}
}

func TestOpenFileOfInvalidArguments(t *testing.T) {
	strs := []string{"", "\x00", emptyFile, emptyFile + zeroSummed, plainSummed("x"), plainSummed(chaText(fileMaxText)), plainSummed(chaText(fileMaxText + 1)), "no file"}
	for _, at := range fewPlaces() {
		for _, length := range []int{1, 5, 65} {
			strs = append(strs, plainFile(at, chaText(length)))
		}
	}
	for _, at := range invalidFilePlaces() {
		for _, s := range strs {
			checkNoFile(t, "an invalid key or number", at, s)
		}
	}
	// The same strings are no files under a valid key either, unless their sums fit.
	for _, at := range fewPlaces() {
		for _, s := range strs {
			checkPerhapsFile(t, "a valid key and number", at, s)
		}
	}
}

func TestOpenFileOfPartsPutTogether(t *testing.T) {
	at := fewPlaces()[1]
	var files []string
	for _, length := range []int{0, 1, 5, 20, 65} {
		files = append(files, plainFile(at, chaText(length)), plainFile(at, strings.Repeat("\x00", length)))
	}
	for _, first := range files {
		for _, second := range files {
			for _, whole := range joined(first, second) {
				checkPerhapsFile(t, "parts put together", at, whole)
			}
		}
	}
}

func TestOpenFileOfShortStrings(t *testing.T) {
	at := fewPlaces()[1]
	taken := 0
	for _, rest := range allStrings("\x00\x01\xff", 3) {
		if checkPerhapsFile(t, "a short string with its sum", at, plainSummed(rest)) {
			taken++
		}
	}
	if want := len(allStrings("\x00\x01\xff", 3)); taken != want {
		t.Errorf("%d of %d strings with their sums were taken for files", taken, want)
	}
	for _, s := range allStrings("\x00\x01\x52\xff", 6) {
		checkPerhapsFile(t, "a short string", at, s)
	}
}

// thrownString returns a sealed text in which several bytes are changed, left out, doubled or added, with a new sum or without.
func thrownString(throw func(below int) int, s string) string {
	for range 1 + throw(3) {
		i := throw(len(s) + 1)
		switch throw(4) {
		case 0:
			s = s[:i] + string([]byte{byte(throw(256))}) + s[i:]
		case 1:
			s = s[:i] + s[min(len(s), i+1+throw(3)):]
		case 2:
			s = s[:i] + s[max(0, i-4):]
		default:
			if i < len(s) {
				s = replaceByte(s, i, byte(throw(256)))
			}
		}
	}
	if throw(3) == 0 && len(s) >= fileSum {
		return plainSummed(s[fileSum:])
	}
	return s
}

func TestOpenFileOfThrownStrings(t *testing.T) {
	throw := dice(13)
	taken, refused := 0, 0
	for range 6000 {
		at := filePlace{key32(byte(throw(256))), throw(1 << 20)}
		length := throw(130)
		if throw(20) == 0 {
			length = fileMaxText - throw(5)
		}
		s := plainFile(at, chaText(length))
		checkFileOpens(t, "a sealed text", at, s, chaText(length))
		if checkPerhapsFile(t, "a changed file", at, thrownString(throw, s)) {
			taken++
		} else {
			refused++
		}
	}
	if taken < 1000 || refused < 1000 {
		t.Errorf("%d strings were taken for files and %d were not", taken, refused)
	}
}

func TestFilesDependOnlyOnTheArguments(t *testing.T) {
	at, text := fewPlaces()[1], chaText(150)
	key, s := impl.FileKey(at.key, at.n), impl.SealFile(at.key, at.n, text)
	// Calls in between, some of them refused, and the same bytes in other memory.
	for _, other := range append(invalidFilePlaces(), filePlaces()...) {
		impl.FileKey(other.key, other.n)
		impl.SealFile(other.key, other.n, text)
		impl.OpenFile(other.key, other.n, s)
		impl.OpenFile(at.key, at.n, s+"x")
		same := strings.Clone(at.key)
		if impl.FileKey(same, at.n) != key || impl.SealFile(same, at.n, strings.Clone(text)) != s {
			t.Fatal("the same arguments gave another result")
		}
		checkFileOpens(t, "the same file", at, strings.Clone(s), text)
	}
}

func TestFilesOfAnErasedKey(t *testing.T) {
	// A key that an erased device does not give any more opens nothing.
	d := devFor(0, 1, 5)
	s := impl.SealFile(impl.KeyOf(d, 5), 7, "secret")
	checkFileOpens(t, "the key of a tenant", filePlace{key32(5), 7}, s, "secret")
	erased, ok := impl.KeyWipe(d, 5)
	if !ok {
		t.Fatal("KeyWipe refuses")
	}
	checkNoFile(t, "an erased key", filePlace{impl.KeyOf(erased, 5), 7}, s)
	if got := impl.SealFile(impl.KeyOf(erased, 5), 7, "secret"); got != "" {
		t.Errorf("SealFile with an erased key = %x, want the empty string", got)
	}
}
