package tests

import (
	"math"
	"strconv"
	"strings"
	"testing"

	"loop.example/g00950/impl"
)

// allStrings returns every string of at most most letters of the alphabet, the empty one included.
func allStrings(alphabet string, most int) []string {
	all := []string{""}
	longest := all
	for range most {
		var next []string
		for _, s := range longest {
			for i := range len(alphabet) {
				next = append(next, s+alphabet[i:i+1])
			}
		}
		all = append(all, next...)
		longest = next
	}
	return all
}

func allBytes() string {
	var b strings.Builder
	for i := range 256 {
		b.WriteByte(byte(i))
	}
	return b.String()
}

func TestFixed(t *testing.T) {
	for _, c := range []struct {
		n, width int
		want     string
	}{
		{258, 2, "\x01\x02"},
		{0, 1, "\x00"},
		{255, 1, "\xff"},
		{256, 1, ""},
		{0, 3, "\x00\x00\x00"},
		{1, 7, "\x00\x00\x00\x00\x00\x00\x01"},
		{0x01020304050607, 7, "\x01\x02\x03\x04\x05\x06\x07"},
		{1<<56 - 1, 7, "\xff\xff\xff\xff\xff\xff\xff"},
		{1 << 56, 7, ""},
		{math.MaxInt, 7, ""},
		{-1, 1, ""},
		{-1, 7, ""},
		{math.MinInt, 7, ""},
		{0, 0, ""},
		{0, 8, ""},
		{0, -1, ""},
		{1, math.MaxInt, ""},
		{1, math.MinInt, ""},
	} {
		if got := impl.Fixed(c.n, c.width); got != c.want {
			t.Errorf("Fixed(%d, %d) = %q, want %q", c.n, c.width, got, c.want)
		}
	}
}

func TestFixedFitsItsWidth(t *testing.T) {
	for width := 1; width <= 7; width++ {
		limit := 1 << (8 * width)
		if got := impl.Fixed(limit-1, width); got != strings.Repeat("\xff", width) {
			t.Errorf("Fixed(%d, %d) = %q", limit-1, width, got)
		}
		if got := impl.Fixed(limit, width); got != "" {
			t.Errorf("Fixed(%d, %d) = %q, want nothing", limit, width, got)
		}
	}
}

func TestReadFixed(t *testing.T) {
	for _, c := range []struct {
		s     string
		width int
		want  int
		ok    bool
	}{
		{"\x01\x02", 2, 258, true},
		{"\x01\x02\x03", 2, 258, true},
		{"\x00", 1, 0, true},
		{"\xff", 1, 255, true},
		{"\x01\x02\x03\x04\x05\x06\x07", 7, 0x01020304050607, true},
		{"\xff\xff\xff\xff\xff\xff\xff", 7, 1<<56 - 1, true},
		{"\xff\xff\xff\xff\xff\xff\xff\xff", 7, 1<<56 - 1, true},
		{"\xff\xff\xff\xff\xff\xff", 7, 0, false},
		{"\x01", 2, 0, false},
		{"", 1, 0, false},
		{"", 0, 0, false},
		{"\x01\x02", 0, 0, false},
		{"\x01\x02", -1, 0, false},
		{"\x01\x02\x03\x04\x05\x06\x07\x08", 8, 0, false},
		{"\x01", math.MaxInt, 0, false},
		{"\x01", math.MinInt, 0, false},
	} {
		if got, ok := impl.ReadFixed(c.s, c.width); got != c.want || ok != c.ok {
			t.Errorf("ReadFixed(%q, %d) = %d, %v, want %d, %v", c.s, c.width, got, ok, c.want, c.ok)
		}
	}
}

func TestReadFixedReadsWhatFixedWrites(t *testing.T) {
	for width := 1; width <= 7; width++ {
		for shift := range 8 * width {
			for _, n := range []int{1 << shift, 1<<shift - 1, 1<<shift | 1} {
				s := impl.Fixed(n, width)
				if len(s) != width {
					t.Fatalf("Fixed(%d, %d) has %d bytes", n, width, len(s))
				}
				if got, ok := impl.ReadFixed(s+"rest", width); got != n || !ok {
					t.Errorf("ReadFixed of Fixed(%d, %d) = %d, %v", n, width, got, ok)
				}
				if got, ok := impl.ReadFixed(s[:width-1], width); got != 0 || ok {
					t.Errorf("ReadFixed of a cut off Fixed(%d, %d) = %d, %v", n, width, got, ok)
				}
			}
		}
	}
	for _, s := range allStrings(allBytes(), 2) {
		if n, ok := impl.ReadFixed(s, len(s)); ok != (s != "") || impl.Fixed(n, len(s)) != s {
			t.Fatalf("ReadFixed(%q) = %d, %v", s, n, ok)
		}
	}
}

func TestVar(t *testing.T) {
	for _, c := range []struct {
		n    int
		want string
	}{
		{0, "\x00"},
		{1, "\x01"},
		{127, "\x7f"},
		{128, "\x80\x01"},
		{300, "\xac\x02"},
		{16383, "\xff\x7f"},
		{16384, "\x80\x80\x01"},
		{1 << 42, "\x80\x80\x80\x80\x80\x80\x01"},
		{1<<42 - 1, "\xff\xff\xff\xff\xff\x7f"},
		{impl.MaxVar, "\xff\xff\xff\xff\xff\xff\x7f"},
		{impl.MaxVar + 1, ""},
		{math.MaxInt, ""},
		{-1, ""},
		{math.MinInt, ""},
	} {
		if got := impl.Var(c.n); got != c.want {
			t.Errorf("Var(%d) = %q, want %q", c.n, got, c.want)
		}
	}
	if impl.MaxVar != 562949953421311 {
		t.Error("MaxVar is", impl.MaxVar)
	}
}

func TestReadVar(t *testing.T) {
	for _, c := range []struct {
		name, s string
		n, size int
	}{
		{"one byte", "\x05", 5, 1},
		{"zero", "\x00", 0, 1},
		{"zero with a rest", "\x00\x00", 0, 1},
		{"two bytes", "\xac\x02", 300, 2},
		{"a rest", "\xac\x02z", 300, 2},
		{"a rest of varints", "\xac\x02\xac\x02", 300, 2},
		{"a zero byte inside", "\x80\x80\x01", 16384, 3},
		{"the greatest", "\xff\xff\xff\xff\xff\xff\x7f", impl.MaxVar, 7},
		{"the greatest with a rest", "\xff\xff\xff\xff\xff\xff\x7f\xff", impl.MaxVar, 7},
		{"nothing", "", 0, 0},
		{"cut off", "\x80", 0, 0},
		{"cut off before the last byte", "\xff\xff\xff\xff\xff\xff", 0, 0},
		{"superfluous byte for zero", "\x80\x00", 0, 0},
		{"two superfluous bytes for zero", "\x80\x80\x00", 0, 0},
		{"superfluous byte", "\x85\x00", 0, 0},
		{"superfluous byte with a rest", "\xac\x82\x00\x01", 0, 0},
		{"superfluous seventh byte", "\xff\xff\xff\xff\xff\xff\x00", 0, 0},
		{"one beyond the greatest", "\x80\x80\x80\x80\x80\x80\x80\x01", 0, 0},
		{"eighth byte superfluous", "\xff\xff\xff\xff\xff\xff\xff\x00", 0, 0},
		{"never ending", strings.Repeat("\xff", 100), 0, 0},
	} {
		if n, size := impl.ReadVar(c.s); n != c.n || size != c.size {
			t.Errorf("%s: ReadVar(%q) = %d, %d, want %d, %d", c.name, c.s, n, size, c.n, c.size)
		}
	}
}

// checkVarPrefix holds ReadVar against the list of all varints of at most two bytes.
func checkVarPrefix(t *testing.T, numbers map[string]int, s string) {
	wantN, wantSize := 0, 0
	for size := 1; size <= len(s); size++ {
		if n, ok := numbers[s[:size]]; ok {
			wantN, wantSize = n, size
		}
	}
	if n, size := impl.ReadVar(s); n != wantN || size != wantSize {
		t.Fatalf("ReadVar(%q) = %d, %d, want %d, %d", s, n, size, wantN, wantSize)
	}
}

func TestReadVarAcceptsExactlyWhatVarWrites(t *testing.T) {
	numbers := map[string]int{}
	for n := range 1 << 14 {
		s := impl.Var(n)
		if _, ok := numbers[s]; ok || s == "" {
			t.Fatalf("Var(%d) = %q is not its own", n, s)
		}
		numbers[s] = n
	}
	for _, s := range allStrings(allBytes(), 2) {
		checkVarPrefix(t, numbers, s)
	}
	for shift := range 49 {
		for _, n := range []int{1 << shift, 1<<shift - 1, 1<<shift | 1} {
			s := impl.Var(n)
			if got, size := impl.ReadVar(s + "\x80"); got != n || size != len(s) {
				t.Errorf("ReadVar of Var(%d) = %d, %d", n, got, size)
			}
			if got, size := impl.ReadVar(s[:len(s)-1]); got != 0 || size != 0 {
				t.Errorf("ReadVar of a cut off Var(%d) = %d, %d", n, got, size)
			}
		}
	}
}

func TestHex(t *testing.T) {
	for _, c := range []struct{ s, want string }{
		{"", ""},
		{"a\xff", "61ff"},
		{"\x00\x01", "0001"},
		{"\xab\xcd\xef", "abcdef"},
		{"\x09\x9a", "099a"},
	} {
		if got := impl.Hex(c.s); got != c.want {
			t.Errorf("Hex(%q) = %q, want %q", c.s, got, c.want)
		}
		if got, ok := impl.Unhex(c.want); got != c.s || !ok {
			t.Errorf("Unhex(%q) = %q, %v, want %q", c.want, got, ok, c.s)
		}
	}
}

func TestUnhexRejects(t *testing.T) {
	for _, s := range []string{
		"6", "61f", "6F", "F6", "6A", "A6", "0x", "0x61", " 61", "61 ", "6 ", "g0", "0g",
		"/0", ":0", "`0", "@0", "\x00\x00", "61\xff\xff", "6161zz", "+1", "-1",
	} {
		if got, ok := impl.Unhex(s); got != "" || ok {
			t.Errorf("Unhex(%q) = %q, %v", s, got, ok)
		}
	}
}

func TestUnhexAcceptsExactlyWhatHexWrites(t *testing.T) {
	bytes := map[string]string{}
	for i := range 256 {
		s := string([]byte{byte(i)})
		bytes[impl.Hex(s)] = s
	}
	if len(bytes) != 256 {
		t.Fatal("two bytes have the same digits")
	}
	for _, s := range allStrings(allBytes(), 2) {
		want, wantOk := bytes[s]
		if s == "" {
			wantOk = true
		}
		if got, ok := impl.Unhex(s); got != want || ok != wantOk {
			t.Fatalf("Unhex(%q) = %q, %v, want %q, %v", s, got, ok, want, wantOk)
		}
	}
	long := strings.Repeat(allBytes(), 40)
	if got, ok := impl.Unhex(impl.Hex(long)); got != long || !ok {
		t.Error("a long string does not come back")
	}
}

func TestDec(t *testing.T) {
	for _, c := range []struct {
		n    int
		want string
	}{
		{0, "0"},
		{7, "7"},
		{-7, "-7"},
		{-120, "-120"},
		{1000000000, "1000000000"},
		{math.MaxInt, "9223372036854775807"},
		{math.MinInt, "-9223372036854775808"},
	} {
		if got := impl.Dec(c.n); got != c.want {
			t.Errorf("Dec(%d) = %q, want %q", c.n, got, c.want)
		}
	}
}

func TestReadDec(t *testing.T) {
	for s, want := range map[string]int{
		"0": 0, "7": 7, "-7": -7, "10": 10, "-120": -120, "100000000": 100000000,
		"999999999": 999999999, "-999999999": -999999999, "-100000000": -100000000,
	} {
		if got, ok := impl.ReadDec(s); got != want || !ok {
			t.Errorf("ReadDec(%q) = %d, %v", s, got, ok)
		}
	}
}

func TestReadDecRejects(t *testing.T) {
	for _, s := range []string{
		"", "-", "+", "--", "--1", "-0", "+0", "+1", "-+1", "00", "01", "07", "-07", "000000000", "0000000001",
		"1000000000", "-1000000000", "9223372036854775807", "-9223372036854775808", "9223372036854775808",
		"99999999999999999999999999", " 1", "1 ", "1\n", "1_000", "1,000", "1.0", "1e3", "0x1", "a", "1a", "\x00", "1\x00",
		"\xff", "\u0661", "\u22121",
	} {
		if got, ok := impl.ReadDec(s); got != 0 || ok {
			t.Errorf("ReadDec(%q) = %d, %v", s, got, ok)
		}
	}
}

func TestReadDecAcceptsExactlyWhatDecWrites(t *testing.T) {
	numbers := map[string]int{}
	for n := -99999; n <= 99999; n++ {
		if impl.Dec(n) != strconv.Itoa(n) {
			t.Fatalf("Dec(%d) = %q", n, impl.Dec(n))
		}
		numbers[impl.Dec(n)] = n
	}
	for _, s := range allStrings("-+0159 _x", 5) {
		want, wantOk := numbers[s]
		if got, ok := impl.ReadDec(s); got != want || ok != wantOk {
			t.Fatalf("ReadDec(%q) = %d, %v, want %d, %v", s, got, ok, want, wantOk)
		}
	}
}
