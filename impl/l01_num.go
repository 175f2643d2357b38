package impl

import "strconv"

const MaxVar = 562949953421311

const (
	maxFixedBytes = 7
	maxVarBytes   = 7
	maxReadDec    = 999999999
	hexDigits     = "0123456789abcdef"
)

// putBytes writes the bytes to buf from position at on and returns the position after them.
// The callers size buf ahead, so that long strings are written in linear time.
func putBytes(buf []byte, at int, list ...byte) int {
	return at + copy(buf[at:], list)
}

func widthOk(width int) bool {
	return width >= 1 && width <= maxFixedBytes
}

func Fixed(n int, width int) string {
	if !widthOk(width) || n < 0 || n>>(8*width) != 0 {
		return ""
	}
	buf := make([]byte, width)
	at := 0
	for shift := 8 * (width - 1); shift >= 0; shift -= 8 {
		at = putBytes(buf, at, byte(n>>shift))
	}
	return string(buf)
}

func ReadFixed(s string, width int) (int, bool) {
	if !widthOk(width) || len(s) < width {
		return 0, false
	}
	n := 0
	for i := range width {
		n = n<<8 | int(s[i])
	}
	return n, true
}

func Var(n int) string {
	if n < 0 || n > MaxVar {
		return ""
	}
	buf := make([]byte, maxVarBytes)
	at := 0
	for n >= 128 {
		at = putBytes(buf, at, byte(n%128+128))
		n /= 128
	}
	at = putBytes(buf, at, byte(n))
	return string(buf[:at])
}

func ReadVar(s string) (int, int) {
	n := 0
	// MaxVar fills its seven bytes completely, so the bound on the length also bounds the number.
	for i := range min(len(s), maxVarBytes) {
		b := int(s[i])
		n |= (b % 128) << (7 * i)
		if b < 128 {
			if b == 0 && i > 0 {
				// Var would have ended one byte earlier.
				return 0, 0
			}
			return n, i + 1
		}
	}
	return 0, 0
}

func Hex(s string) string {
	buf := make([]byte, 2*len(s))
	at := 0
	for i := range len(s) {
		at = putBytes(buf, at, hexDigits[s[i]>>4], hexDigits[s[i]&15])
	}
	return string(buf)
}

// hexValue returns the value of a lowercase hexadecimal digit, and -1 for any other byte.
func hexValue(b byte) int {
	switch {
	case b >= '0' && b <= '9':
		return int(b - '0')
	case b >= 'a' && b <= 'f':
		return int(b-'a') + 10
	}
	return -1
}

func Unhex(s string) (string, bool) {
	if len(s)%2 != 0 {
		return "", false
	}
	buf := make([]byte, len(s)/2)
	at := 0
	for i := 0; i < len(s); i += 2 {
		high, low := hexValue(s[i]), hexValue(s[i+1])
		if high < 0 || low < 0 {
			return "", false
		}
		at = putBytes(buf, at, byte(high<<4|low))
	}
	return string(buf), true
}

func Dec(n int) string {
	return strconv.Itoa(n)
}

func ReadDec(s string) (int, bool) {
	n, err := strconv.Atoi(s)
	if err != nil || n < -maxReadDec || n > maxReadDec {
		return 0, false
	}
	// Atoi also takes a plus sign, leading zeros and "-0", which Dec never writes.
	if Dec(n) != s {
		return 0, false
	}
	return n, true
}
