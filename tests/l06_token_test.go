package tests

import (
	"math"
	"slices"
	"strings"
	"testing"

	"loop.example/g00950/impl"
)

// tagBytes is the length of what follows the tenant and the epoch in a token.
const tagBytes = 8

// tokenEpochs lists the epochs at which the encoding takes a byte more, and the limits.
func tokenEpochs() []int { return []int{0, 1, 127, 128, 16383, 16384, 999999, 1000000} }

// tokenSecrets lists secrets of 32 bytes, some of which are no text.
func tokenSecrets() []string {
	return []string{
		rfcKey(),
		key32(200),
		strings.Repeat("\x00", 32),
		strings.Repeat("\xff", 32),
		// Lengths count bytes: 16 runes of two bytes are 32.
		strings.Repeat("\u00e9", 16),
	}
}

// shortAndLongSecrets lists secrets that begin like a secret of the tests but do not have 32 bytes.
func shortAndLongSecrets(secret string) []string {
	return []string{"", secret[:1], secret[:31], secret + "x", secret + "\x00", secret + secret,
		// 32 runes, but 64 bytes.
		strings.Repeat("\u00e9", 32)}
}

// plainVar spells a number from 0 to 2 to the power of 62 in groups of seven bits, followed by superfluous bytes.
func plainVar(n int, superfluous int) string {
	var groups []byte
	for n >= 128 {
		groups = append(groups, byte(n)|128)
		n >>= 7
	}
	groups = append(groups, byte(n))
	for range superfluous {
		groups[len(groups)-1] |= 128
		groups = append(groups, 0)
	}
	return string(groups)
}

// plainTag computes the last 8 bytes of a token with the tests' own block function; it knows no limits.
func plainTag(secret string, tenant int, epoch int) string {
	nonce := []byte{2, 0, 0, 0, 0}
	for shift := 48; shift >= 0; shift -= 8 {
		nonce = append(nonce, byte(tenant>>shift))
	}
	return plainBlock(secret, epoch, string(nonce))[:tagBytes]
}

func plainToken(secret string, tenant int, epoch int) string {
	return plainVar(tenant, 0) + plainVar(epoch, 0) + plainTag(secret, tenant, epoch)
}

// replaceByte returns s with another byte at this position.
func replaceByte(s string, at int, b byte) string {
	return s[:at] + string([]byte{b}) + s[at+1:]
}

// mustMint returns a token of a tenant and an epoch that lie within the limits.
func mustMint(t *testing.T, secret string, tenant int, epoch int) string {
	t.Helper()
	s := impl.MintToken(secret, tenant, epoch)
	if s == "" {
		t.Fatalf("MintToken(%x, %d, %d) is empty", secret, tenant, epoch)
	}
	return s
}

func checkToken(t *testing.T, secret string, s string, wantTenant int, wantEpoch int) {
	t.Helper()
	if tenant, epoch, ok := impl.ReadToken(secret, s); tenant != wantTenant || epoch != wantEpoch || !ok {
		t.Errorf("ReadToken(%x, %x) = %d, %d, %v, want %d, %d, true", secret, s, tenant, epoch, ok, wantTenant, wantEpoch)
	}
}

func checkNoToken(t *testing.T, what string, secret string, s string) {
	t.Helper()
	if tenant, epoch, ok := impl.ReadToken(secret, s); tenant != 0 || epoch != 0 || ok {
		t.Errorf("%s: ReadToken(%x, %x) = %d, %d, %v, want 0, 0, false", what, secret, s, tenant, epoch, ok)
	}
}

// The tags were computed once with OpenSSL's chacha20.
func TestMintTokenOfFixedExamples(t *testing.T) {
	zero := strings.Repeat("\x00", 32)
	for _, c := range []struct {
		secret        string
		tenant, epoch int
		want          []byte
	}{
		{rfcKey(), 7, 300, []byte{7, 0xac, 0x02, 0x47, 0x84, 0x2f, 0xea, 0x6f, 0x5a, 0x8c, 0x75}},
		{rfcKey(), 1, 0, []byte{1, 0, 0xdd, 0x76, 0x3b, 0x06, 0x80, 0x99, 0x6b, 0x5a}},
		{rfcKey(), 99, 1000000, []byte{99, 0xc0, 0x84, 0x3d, 0x36, 0xa9, 0xad, 0xac, 0x7b, 0x10, 0x59, 0xff}},
		{zero, 5, 128, []byte{5, 0x80, 0x01, 0x28, 0x39, 0xed, 0xb2, 0xfb, 0x74, 0x76, 0xdf}},
	} {
		if got := impl.MintToken(c.secret, c.tenant, c.epoch); got != string(c.want) {
			t.Errorf("MintToken(%x, %d, %d) = %x, want %x", c.secret, c.tenant, c.epoch, got, c.want)
		}
		checkToken(t, c.secret, string(c.want), c.tenant, c.epoch)
	}
}

func TestMintTokenIsMadeOfItsParts(t *testing.T) {
	for _, secret := range tokenSecrets() {
		for tenant := 1; tenant <= 99; tenant++ {
			for _, epoch := range tokenEpochs() {
				got := impl.MintToken(secret, tenant, epoch)
				parts := impl.Var(tenant) + impl.Var(epoch) + impl.ChaBlock(secret, epoch, impl.NonceOf(2, tenant))[:tagBytes]
				if got != parts || got != plainToken(secret, tenant, epoch) {
					t.Errorf("MintToken(%x, %d, %d) = %x, want %x", secret, tenant, epoch, got, parts)
				}
			}
		}
	}
}

func TestReadTokenReadsWhatMintTokenWrites(t *testing.T) {
	for _, secret := range tokenSecrets() {
		for tenant := 1; tenant <= 99; tenant++ {
			for _, epoch := range tokenEpochs() {
				checkToken(t, secret, mustMint(t, secret, tenant, epoch), tenant, epoch)
			}
		}
	}
	secret := key32(3)
	for epoch := 0; epoch <= impl.MaxNumber; epoch += 37 {
		tenant := 1 + epoch%99
		checkToken(t, secret, mustMint(t, secret, tenant, epoch), tenant, epoch)
	}
	for epoch := range 600 {
		checkToken(t, secret, mustMint(t, secret, 42, epoch), 42, epoch)
		checkToken(t, secret, mustMint(t, secret, 42, impl.MaxNumber-epoch), 42, impl.MaxNumber-epoch)
	}
}

func TestTokensAreDifferent(t *testing.T) {
	type owner struct {
		secret        string
		tenant, epoch int
	}
	owners := map[string]owner{}
	for _, secret := range tokenSecrets() {
		for tenant := 1; tenant <= 99; tenant++ {
			for _, epoch := range tokenEpochs() {
				mine := owner{secret, tenant, epoch}
				s := mustMint(t, secret, tenant, epoch)
				if other, taken := owners[s]; taken {
					t.Errorf("%v and %v have the token %x", other, mine, s)
				}
				owners[s] = mine
			}
		}
	}
}

func TestTokensOfOneTenantTellTheirEpochs(t *testing.T) {
	secret := key32(17)
	for _, tenant := range []int{1, 7, 99} {
		owners := map[string]int{}
		tags := map[string]int{}
		for _, epoch := range tokenEpochs() {
			s := mustMint(t, secret, tenant, epoch)
			tag := s[len(s)-tagBytes:]
			if other, taken := owners[s]; taken {
				t.Errorf("the epochs %d and %d of tenant %d have the token %x", other, epoch, tenant, s)
			}
			if other, taken := tags[tag]; taken {
				t.Errorf("the epochs %d and %d of tenant %d have the tag %x", other, epoch, tenant, tag)
			}
			owners[s], tags[tag] = epoch, epoch
		}
		for s, epoch := range owners {
			checkToken(t, secret, s, tenant, epoch)
		}
	}
}

func TestTokenWithAnotherEpochOrTenant(t *testing.T) {
	secret := key32(17)
	tenants := []int{1, 2, 7, 98, 99}
	for _, tenant := range tenants {
		for _, epoch := range tokenEpochs() {
			tag := plainTag(secret, tenant, epoch)
			for _, other := range tokenEpochs() {
				if other != epoch {
					checkNoToken(t, "another epoch", secret, plainVar(tenant, 0)+plainVar(other, 0)+tag)
				}
			}
			for _, other := range tenants {
				if other != tenant {
					checkNoToken(t, "another tenant", secret, plainVar(other, 0)+plainVar(epoch, 0)+tag)
				}
			}
			if epoch >= 1 && epoch <= 99 && epoch != tenant {
				checkNoToken(t, "tenant and epoch exchanged", secret, plainVar(epoch, 0)+plainVar(tenant, 0)+tag)
			}
		}
	}
}

func TestTokenWithAChangedByte(t *testing.T) {
	for _, secret := range tokenSecrets() {
		for _, tenant := range []int{1, 64, 99} {
			for _, epoch := range tokenEpochs() {
				s := mustMint(t, secret, tenant, epoch)
				for at := range len(s) {
					for change := 1; change < 256; change++ {
						checkNoToken(t, "byte "+impl.Dec(at)+" changed", secret, replaceByte(s, at, s[at]^byte(change)))
					}
				}
			}
		}
	}
}

func TestTokenWithAChangedTag(t *testing.T) {
	secret := key32(9)
	for _, epoch := range tokenEpochs() {
		s := mustMint(t, secret, 7, epoch)
		front, tag := s[:len(s)-tagBytes], s[len(s)-tagBytes:]
		reversed := []byte(tag)
		slices.Reverse(reversed)
		block := plainBlock(secret, epoch, impl.NonceOf(2, 7))
		for _, other := range []string{
			strings.Repeat("\x00", tagBytes),
			strings.Repeat("\xff", tagBytes),
			string(reversed),
			tag[1:] + tag[:1],
			// The next bytes of the block, the next block, and the blocks of the nonces of other kinds.
			block[tagBytes : 2*tagBytes],
			block[len(block)-tagBytes:],
			plainBlock(secret, epoch+1, impl.NonceOf(2, 7))[:tagBytes],
			plainBlock(secret, epoch, impl.NonceOf(1, 7))[:tagBytes],
			plainBlock(secret, epoch, impl.NonceOf(3, 7))[:tagBytes],
			plainBlock(secret, epoch, impl.NonceOf(2, 8))[:tagBytes],
		} {
			checkNoToken(t, "another tag", secret, front+other)
		}
		// Two changes that cancel each other in a sum of the bytes.
		for i := range tagBytes {
			for j := range i {
				twice := replaceByte(tag, i, tag[i]^1)
				checkNoToken(t, "two bytes changed", secret, front+replaceByte(twice, j, tag[j]^1))
			}
		}
	}
}

func TestTokenOfAnotherLength(t *testing.T) {
	secret := key32(9)
	for _, tenant := range []int{1, 7, 99} {
		for _, epoch := range tokenEpochs() {
			s := mustMint(t, secret, tenant, epoch)
			for size := range len(s) {
				checkNoToken(t, "cut short", secret, s[:size])
				checkNoToken(t, "without its first bytes", secret, s[len(s)-size:])
			}
			for b := range 256 {
				checkNoToken(t, "a byte behind its end", secret, s+string([]byte{byte(b)}))
				checkNoToken(t, "a byte ahead of it", secret, string([]byte{byte(b)})+s)
			}
			block := plainBlock(secret, epoch, impl.NonceOf(2, tenant))
			front := s[:len(s)-tagBytes]
			for size := range len(block) + 1 {
				if size != tagBytes {
					checkNoToken(t, "another number of bytes of the block", secret, front+block[:size])
				}
			}
			checkNoToken(t, "twice", secret, s+s)
			checkNoToken(t, "a long string behind its end", secret, s+strings.Repeat("x", 100000))
		}
	}
	checkNoToken(t, "the empty string", secret, "")
}

func TestTokenWithASuperfluousByte(t *testing.T) {
	secret := key32(9)
	for _, tenant := range []int{1, 7, 99} {
		for _, epoch := range tokenEpochs() {
			tag := plainTag(secret, tenant, epoch)
			for extra := 1; extra <= 9; extra++ {
				checkNoToken(t, "a longer tenant", secret, plainVar(tenant, extra)+plainVar(epoch, 0)+tag)
				checkNoToken(t, "a longer epoch", secret, plainVar(tenant, 0)+plainVar(epoch, extra)+tag)
				checkNoToken(t, "both longer", secret, plainVar(tenant, extra)+plainVar(epoch, extra)+tag)
			}
		}
	}
}

// The tags here are those that the numbers would have without the limits, so that only the limits can refuse the strings.
func TestTokenBeyondTheLimits(t *testing.T) {
	secret := key32(9)
	for _, tenant := range []int{0, 100, 101, 127, 128, 256, 257, 16384, impl.MaxNumber, impl.MaxVar - 1, impl.MaxVar, impl.MaxVar + 1, impl.MaxVar + 2} {
		for _, epoch := range []int{0, 1, impl.MaxNumber} {
			checkNoToken(t, "a tenant beyond the limits", secret, plainToken(secret, tenant, epoch))
		}
	}
	for _, epoch := range []int{impl.MaxNumber + 1, impl.MaxNumber + 2, 2097151, 2097152, chaMaxCounter, chaMaxCounter + 1, chaMaxCounter + 2, impl.MaxVar, impl.MaxVar + 1, 1 << 62} {
		for _, tenant := range []int{1, 7, 99} {
			checkNoToken(t, "an epoch beyond the limits", secret, plainToken(secret, tenant, epoch))
		}
	}
	checkNoToken(t, "both beyond the limits", secret, plainToken(secret, 0, impl.MaxNumber+1))
	checkNoToken(t, "both beyond the limits", secret, plainToken(secret, 100, impl.MaxNumber+1))
	for _, size := range []int{1, 7, 8, 9, 10, 100} {
		endless := strings.Repeat("\x80", size)
		checkNoToken(t, "no end of the tenant", secret, endless)
		checkNoToken(t, "no end of the epoch", secret, "\x07"+endless)
		checkNoToken(t, "no end of the tenant", secret, strings.Repeat("\xff", size))
		checkNoToken(t, "no end of the epoch", secret, "\x07"+strings.Repeat("\xff", size))
	}
}

func TestTokenOfAnotherSecret(t *testing.T) {
	for _, tenant := range []int{1, 7, 99} {
		for _, epoch := range tokenEpochs() {
			for _, secret := range tokenSecrets() {
				s := mustMint(t, secret, tenant, epoch)
				for _, other := range tokenSecrets() {
					if other != secret {
						checkNoToken(t, "another secret", other, s)
					}
				}
				for bit := range 8 * len(secret) {
					checkNoToken(t, "a secret with a changed bit", flipBit(secret, bit), s)
				}
			}
		}
	}
}

func TestTokenOfASecretOfAnotherLength(t *testing.T) {
	secret := key32(9)
	for _, epoch := range tokenEpochs() {
		s := mustMint(t, secret, 7, epoch)
		for _, other := range shortAndLongSecrets(secret) {
			checkNoToken(t, "a secret of another length", other, s)
			// What would be left of a token if its tag were empty, and the empty result of MintToken.
			checkNoToken(t, "no tag", other, s[:len(s)-tagBytes])
			checkNoToken(t, "the empty string", other, "")
			checkNoToken(t, "a tag of zeros", other, s[:len(s)-tagBytes]+strings.Repeat("\x00", tagBytes))
		}
	}
}

func TestMintTokenAtItsLimits(t *testing.T) {
	secret := key32(9)
	secrets := append(shortAndLongSecrets(secret), secret)
	tenants := []int{math.MinInt, -99, -1, 0, 1, 2, 98, 99, 100, 101, 128, 257, impl.MaxVar, impl.MaxVar + 1, math.MaxInt}
	epochs := []int{math.MinInt, -1000000, -1, 0, 1, 999999, 1000000, 1000001, chaMaxCounter, chaMaxCounter + 1, impl.MaxVar, math.MaxInt}
	for _, held := range secrets {
		for _, tenant := range tenants {
			for _, epoch := range epochs {
				want := ""
				if len(held) == 32 && tenant >= 1 && tenant <= 99 && epoch >= 0 && epoch <= 1000000 {
					want = plainToken(held, tenant, epoch)
				}
				if got := impl.MintToken(held, tenant, epoch); got != want {
					t.Errorf("MintToken(%x, %d, %d) = %x, want %x", held, tenant, epoch, got, want)
				}
			}
		}
	}
}

func TestShortStringsAreNoTokens(t *testing.T) {
	for _, secret := range []string{"", key32(9)[:31], key32(9), key32(9) + "x"} {
		for _, s := range allStrings(allBytes(), 2) {
			checkNoToken(t, "a short string", secret, s)
		}
		for _, s := range allStrings("\x00\x01\x07\x63\x64\x7f\x80\xff", 5) {
			checkNoToken(t, "a short string", secret, s)
		}
	}
}

func TestTokensDependOnlyOnTheArguments(t *testing.T) {
	secret, other := key32(9), key32(10)
	s := mustMint(t, secret, 7, 300)
	for range 3 {
		impl.MintToken(other, 7, 301)
		impl.MintToken("", 0, -1)
		checkNoToken(t, "another secret", other, s)
		checkNoToken(t, "the empty string", secret, "")
		if again := impl.MintToken(secret, 7, 300); again != s {
			t.Errorf("MintToken returns %x and then %x", s, again)
		}
		checkToken(t, secret, s, 7, 300)
		// The same bytes in other memory.
		checkToken(t, strings.Clone(secret), strings.Clone(s), 7, 300)
	}
}
