package tests

import (
	"encoding/hex"
	"fmt"
	"math"
	"slices"
	"strings"
	"testing"

	"loop.example/g00950/impl"
)

const (
	rowMaxBoot = 1000
	rowMaxSeq  = 999999
	rowMaxText = 300
	rowSum     = 4
)

func rowFor(tenant int, boot int, seq int, text string) impl.LogRow {
	return impl.LogRow{Tenant: tenant, Boot: boot, Seq: seq, Text: text}
}

// plainSummed puts the four bytes of a checksum ahead of a rest.
func plainSummed(rest string) string {
	sum := plainCrc(rest)
	return string([]byte{byte(sum >> 24), byte(sum >> 16), byte(sum >> 8), byte(sum)}) + rest
}

// rowNumbers returns the numbers of a row in the order in which it spells them.
func rowNumbers(r impl.LogRow) []int { return []int{r.Tenant, r.Boot, r.Seq, len(r.Text)} }

// plainRow spells a row out with a checksum that fits; it knows no limits.
func plainRow(r impl.LogRow) string {
	rest := ""
	for _, n := range rowNumbers(r) {
		rest += plainVar(n, 0)
	}
	return plainSummed(rest + r.Text)
}

// longerRow spells a row with superfluous bytes in one of its numbers and a checksum that fits.
func longerRow(r impl.LogRow, at int, extra int) string {
	rest := ""
	for i, n := range rowNumbers(r) {
		if i == at {
			rest += plainVar(n, extra)
		} else {
			rest += plainVar(n, 0)
		}
	}
	return plainSummed(rest + r.Text)
}

// stretchedRow spells a row that claims another length of its text, with a checksum that fits.
func stretchedRow(r impl.LogRow, length int) string {
	return plainSummed(plainVar(r.Tenant, 0) + plainVar(r.Boot, 0) + plainVar(r.Seq, 0) + plainVar(length, 0) + r.Text)
}

// plainLog spells rows one after another, and tells where each of them ends.
func plainLog(rows []impl.LogRow) (string, []int) {
	log := ""
	var ends []int
	for _, r := range rows {
		log += plainRow(r)
		ends = append(ends, len(log))
	}
	return log, ends
}

// wholeRows returns how many rows end at or ahead of a position, and where the last of them ends.
func wholeRows(ends []int, at int) (int, int) {
	whole, end := 0, 0
	for whole < len(ends) && ends[whole] <= at {
		end = ends[whole]
		whole++
	}
	return whole, end
}

// sampleRows lists rows whose numbers take one byte and more; some of them are equal, and some of their texts look like rows.
func sampleRows() []impl.LogRow {
	return []impl.LogRow{
		rowFor(4, 1, 300, "hi"),
		rowFor(5, 0, 0, ""),
		rowFor(99, rowMaxBoot, rowMaxSeq, "\x00\xff\x00"),
		rowFor(5, 0, 0, ""),
		rowFor(1, 127, 128, strings.Repeat("t", 127)),
		rowFor(1, 128, 127, strings.Repeat("t", 128)),
		rowFor(7, 3, 16384, plainRow(rowFor(8, 4, 5, "inner"))),
		rowFor(2, 0, 1, strings.Repeat("\x00", 40)),
		rowFor(3, 999, 2, chaText(rowMaxText)),
		rowFor(98, 2, 65, "\u00e9"),
	}
}

// rowLogs lists logs of several rows, and logs of one.
func rowLogs() [][]impl.LogRow {
	all := sampleRows()
	logs := [][]impl.LogRow{all, all[:2], all[1:4], {all[1], all[1], all[1]}, {all[6], all[1]}}
	for _, r := range all {
		logs = append(logs, []impl.LogRow{r})
	}
	return logs
}

// tellRows returns rows for a message; their texts are cut.
func tellRows(rows []impl.LogRow) string {
	out := fmt.Sprintf("%d rows", len(rows))
	for _, r := range rows[:min(len(rows), 10)] {
		out += fmt.Sprintf(" {%d %d %d %.20q %v}", r.Tenant, r.Boot, r.Seq, r.Text, r.Synced)
	}
	return out
}

// checkScan fails unless ScanRows reads just these rows, none of them Synced, and stops at this offset.
func checkScan(t *testing.T, what string, s string, want []impl.LogRow, wantEnd int) {
	t.Helper()
	got, end := impl.ScanRows(s)
	if end != wantEnd || !slices.Equal(got, want) {
		t.Errorf("%s: ScanRows(%.80q) of %d bytes = %s, %d, want %s, %d", what, s, len(s), tellRows(got), end, tellRows(want), wantEnd)
	}
}

// checkNoRow fails if a row is read from s, by itself or where the rows of a log end.
func checkNoRow(t *testing.T, what string, s string) {
	t.Helper()
	checkScan(t, what, s, nil, 0)
	rows := sampleRows()[:3]
	log, _ := plainLog(rows)
	checkScan(t, what+" behind a log", log+s, rows, len(log))
	// A row behind it must not be reached.
	checkScan(t, what+" ahead of a row", log+s+plainRow(rowFor(6, 6, 6, "six")), rows, len(log))
}

// checkWhatIsRead fails unless the rows that are read from s spell its first bytes, and nothing follows them that is a row.
func checkWhatIsRead(t *testing.T, s string) {
	t.Helper()
	rows, end := impl.ScanRows(s)
	if end < 0 || end > len(s) {
		t.Fatalf("ScanRows(%q) ends at %d", s, end)
	}
	log := ""
	for _, r := range rows {
		if r.Synced || impl.ShowRow(r) == "" {
			t.Fatalf("ScanRows(%q) reads %#v", s, r)
		}
		log += plainRow(r)
	}
	if log != s[:end] {
		t.Fatalf("ScanRows(%q) reads %#v up to %d", s, rows, end)
	}
	if more, moreEnd := impl.ScanRows(s[end:]); len(more) != 0 || moreEnd != 0 {
		t.Fatalf("ScanRows(%q) ends at %d, but %#v follows", s, end, more)
	}
}

// The checksums were computed once by another program.
func TestShowRowOfFixedExamples(t *testing.T) {
	for _, c := range []struct {
		r    impl.LogRow
		want []byte
	}{
		{rowFor(4, 1, 300, "hi"), []byte{0x55, 0x32, 0xce, 0x13, 4, 1, 0xac, 0x02, 2, 'h', 'i'}},
		{rowFor(1, 0, 0, ""), []byte{0x95, 0x22, 0xe1, 0x7f, 1, 0, 0, 0}},
		{rowFor(99, 1000, 999999, "\x00\xff"), []byte{0x58, 0x68, 0xb4, 0x59, 99, 0xe8, 0x07, 0xbf, 0x84, 0x3d, 2, 0, 255}},
		{rowFor(5, 127, 128, "\u00e9"), []byte{0xcd, 0x2c, 0xcd, 0x79, 5, 127, 0x80, 0x01, 2, 0xc3, 0xa9}},
		{rowFor(64, 128, 16384, "a row"), []byte{0xdc, 0xf5, 0xa4, 0xbe, 64, 0x80, 0x01, 0x80, 0x80, 0x01, 5, 'a', ' ', 'r', 'o', 'w'}},
	} {
		if got := impl.ShowRow(c.r); got != string(c.want) {
			t.Errorf("ShowRow(%#v) = %x, want %x", c.r, got, c.want)
		}
		checkScan(t, "a fixed example", string(c.want), []impl.LogRow{c.r}, len(c.want))
	}
}

func TestShowRowIsMadeOfItsParts(t *testing.T) {
	for tenant := 1; tenant <= 99; tenant++ {
		for _, boot := range []int{0, 1, 127, 128, 999, 1000} {
			for _, seq := range []int{0, 1, 127, 128, 16383, 16384, 999998, 999999} {
				text := chaText((tenant*7 + boot + seq) % (rowMaxText + 1))
				r := rowFor(tenant, boot, seq, text)
				rest := impl.Var(tenant) + impl.Var(boot) + impl.Var(seq) + impl.Var(len(text)) + text
				got := impl.ShowRow(r)
				if got != impl.Fixed(impl.Crc(rest), 4)+rest || got != plainRow(r) {
					t.Fatalf("ShowRow(%#v) = %x, want %x", r, got, plainRow(r))
				}
				checkScan(t, "one row", got, []impl.LogRow{r}, len(got))
			}
		}
	}
	for length := range rowMaxText + 1 {
		r := rowFor(9, 8, 7, chaText(length))
		if got := impl.ShowRow(r); got != plainRow(r) {
			t.Errorf("ShowRow with a text of %d bytes = %x, want %x", length, got, plainRow(r))
		}
		checkScan(t, "one row", plainRow(r), []impl.LogRow{r}, len(plainRow(r)))
	}
}

func TestSyncedIsNotEncoded(t *testing.T) {
	for _, r := range sampleRows() {
		synced := r
		synced.Synced = true
		if got := impl.ShowRow(synced); got == "" || got != impl.ShowRow(r) {
			t.Errorf("ShowRow(%#v) = %x, want %x", synced, got, impl.ShowRow(r))
		}
		s := impl.ShowRow(synced) + impl.ShowRow(r) + impl.ShowRow(synced)
		checkScan(t, "a synced row", s, []impl.LogRow{r, r, r}, len(s))
	}
	if got := impl.ShowRow(impl.LogRow{Synced: true}); got != "" {
		t.Errorf("ShowRow of tenant 0 = %x, want nothing", got)
	}
}

func TestShowRowAtItsLimits(t *testing.T) {
	tenants := []int{math.MinInt, -1, 0, 1, 2, 98, 99, 100, 101, 127, 128, impl.MaxVar, math.MaxInt}
	boots := []int{math.MinInt, -1, 0, 1, 999, 1000, 1001, impl.MaxVar, math.MaxInt}
	seqs := []int{math.MinInt, -1, 0, 1, impl.MaxNumber - 1, impl.MaxNumber, impl.MaxNumber + 1, impl.MaxVar, math.MaxInt}
	for _, tenant := range tenants {
		for _, boot := range boots {
			for _, seq := range seqs {
				for _, length := range []int{0, 1, 299, 300, 301, 302, 1000} {
					r := rowFor(tenant, boot, seq, chaText(length))
					want := ""
					if tenant >= 1 && tenant <= 99 && boot >= 0 && boot <= 1000 && seq >= 0 && seq < 1000000 && length <= 300 {
						want = plainRow(r)
					}
					if got := impl.ShowRow(r); got != want {
						t.Errorf("ShowRow of tenant %d, boot %d, seq %d and %d bytes = %x, want %x", tenant, boot, seq, length, got, want)
					}
				}
			}
		}
	}
	// Lengths count bytes: 150 runes of two bytes are 300, and 151 are too many.
	if impl.ShowRow(rowFor(1, 0, 0, strings.Repeat("\u00e9", 150))) == "" || impl.ShowRow(rowFor(1, 0, 0, strings.Repeat("\u00e9", 151))) != "" {
		t.Error("the length of a text does not count bytes")
	}
}

func TestScanRowsReadsWhatShowRowWrites(t *testing.T) {
	for _, rows := range rowLogs() {
		log := ""
		for _, r := range rows {
			log += impl.ShowRow(r)
		}
		checkScan(t, "a log", log, rows, len(log))
	}
}

func TestScanRowsOfEveryPrefix(t *testing.T) {
	for _, rows := range rowLogs() {
		log, ends := plainLog(rows)
		for size := range len(log) + 1 {
			whole, end := wholeRows(ends, size)
			checkScan(t, "a prefix", log[:size], rows[:whole], end)
		}
	}
}

func TestScanRowsCutInTheChecksum(t *testing.T) {
	for _, rows := range rowLogs() {
		last := len(rows) - 1
		ahead, _ := plainLog(rows[:last])
		s := plainRow(rows[last])
		for size := range rowSum {
			checkScan(t, "cut in the checksum", ahead+s[:size], rows[:last], len(ahead))
		}
		for size := rowSum; size < len(s); size++ {
			checkScan(t, "cut behind the checksum", ahead+s[:size], rows[:last], len(ahead))
			// What was torn off is not made up for by the same number of other bytes.
			checkScan(t, "cut and filled up", ahead+s[:size]+differentBytes(s[size:]), rows[:last], len(ahead))
		}
		checkScan(t, "not cut", ahead+s, rows, len(ahead)+len(s))
	}
}

// differentBytes returns as many bytes as s has, each with another value.
func differentBytes(s string) string {
	b := []byte(s)
	for i := range b {
		b[i] ^= 0x55
	}
	return string(b)
}

func TestScanRowsWithTheFrontCutOff(t *testing.T) {
	rows := sampleRows()
	log, ends := plainLog(rows)
	for from := 1; from < len(log); from++ {
		if at := slices.Index(ends, from); at >= 0 {
			checkScan(t, "from a row on", log[from:], rows[at+1:], len(log)-from)
		} else {
			checkWhatIsRead(t, log[from:])
		}
	}
	for from := 1; from < ends[0]; from++ {
		checkScan(t, "from inside the first row on", log[from:], nil, 0)
	}
}

func TestScanRowsWithAChangedByte(t *testing.T) {
	for _, rows := range rowLogs() {
		log, ends := plainLog(rows)
		for at := range len(log) {
			before, end := wholeRows(ends, at)
			for _, change := range []byte{1, 2, 4, 8, 16, 32, 64, 128, 255, log[at]} {
				if change != 0 {
					checkScan(t, "byte "+impl.Dec(at)+" changed", replaceByte(log, at, log[at]^change), rows[:before], end)
				}
			}
		}
	}
}

func TestScanRowsWithEveryChangeOfAByte(t *testing.T) {
	rows := sampleRows()[:4]
	log, ends := plainLog(rows)
	for at := range len(log) {
		before, end := wholeRows(ends, at)
		for change := 1; change < 256; change++ {
			checkScan(t, "byte "+impl.Dec(at)+" changed", replaceByte(log, at, log[at]^byte(change)), rows[:before], end)
		}
	}
}

func TestScanRowsWithAByteTooManyOrTooFew(t *testing.T) {
	for _, rows := range rowLogs() {
		log, ends := plainLog(rows)
		for at := range len(log) {
			before, end := wholeRows(ends, at)
			others := []string{log[:at] + log[at+1:]}
			for _, b := range []byte{0, 1, 4, 0x80, 0xff} {
				others = append(others, log[:at]+string([]byte{b})+log[at:])
			}
			for _, other := range others {
				got, gotEnd := impl.ScanRows(other)
				if len(got) < before || gotEnd < end || !slices.Equal(got[:before], rows[:before]) {
					t.Errorf("a byte more or less at %d: %s up to %d, want %s up to %d", at, tellRows(got), gotEnd, tellRows(rows[:before]), end)
				}
				checkWhatIsRead(t, other)
			}
		}
	}
}

func TestScanRowsOfAnEmptyLog(t *testing.T) {
	checkScan(t, "an empty log", "", nil, 0)
}

func TestScanRowsOfWhatIsNoRow(t *testing.T) {
	for b := range 256 {
		one := string([]byte{byte(b)})
		for _, size := range []int{1, 2, 3, 4, 7, 8, 9, 20, 400} {
			checkNoRow(t, "one byte repeated", strings.Repeat(one, size))
		}
	}
	for _, s := range []string{"zz", "no row", "\n", "\x00\x00\x00\x00\x00\x00\x00\x00", allBytes(), strings.Repeat("\x80", 100000)} {
		checkNoRow(t, "no row", s)
	}
	for _, r := range sampleRows() {
		s := plainRow(r)
		sum, rest := s[:rowSum], s[rowSum:]
		reversed := []byte(sum)
		slices.Reverse(reversed)
		for _, other := range []string{
			rest,
			"\x00\x00\x00\x00" + rest,
			"\xff\xff\xff\xff" + rest,
			string(reversed) + rest,
			differentBytes(sum) + rest,
			sum + sum + rest,
			rest + sum,
			// The checksums of something else than the rest.
			plainSummed(r.Text)[:rowSum] + differentBytes(rest),
			plainSummed(rest + "\x00")[:rowSum] + rest,
			plainSummed(sum + rest)[:rowSum] + rest,
			plainSummed("")[:rowSum] + rest,
		} {
			if !strings.HasPrefix(other, s) {
				checkNoRow(t, "another checksum", other)
			}
		}
	}
}

func TestScanRowsStopsAtTheFirstGap(t *testing.T) {
	for _, rows := range rowLogs() {
		log, _ := plainLog(rows)
		for _, gap := range []string{"\x00", "zz", "\x00\x00\x00\x00", plainRow(rows[0])[:7], strings.Repeat("\xff", 30), plainRow(rowFor(100, 0, 0, ""))} {
			checkScan(t, "a gap", log+gap+log, rows, len(log))
			checkScan(t, "a gap first", gap+log, nil, 0)
		}
	}
}

func TestScanRowsWithASuperfluousByte(t *testing.T) {
	for _, r := range sampleRows() {
		for at := range rowNumbers(r) {
			for extra := 1; extra <= 9; extra++ {
				checkNoRow(t, "a longer number", longerRow(r, at, extra))
			}
		}
	}
	for at := range 4 {
		checkNoRow(t, "a longer number", longerRow(rowFor(1, 0, 0, ""), at, 1))
	}
}

// The checksums here fit, so that only the limits can refuse the rows.
func TestScanRowsBeyondTheLimits(t *testing.T) {
	beyond := []int{impl.MaxVar - 1, impl.MaxVar, impl.MaxVar + 1, 1 << 62}
	for _, text := range []string{"", "text", chaText(rowMaxText)} {
		for _, tenant := range append(beyond, 0, 100, 101, 127, 128, 256, 257, impl.MaxNumber) {
			checkNoRow(t, "a tenant beyond the limits", plainRow(rowFor(tenant, 1, 2, text)))
		}
		for _, boot := range append(beyond, 1001, 1002, 1024, 16384, impl.MaxNumber) {
			checkNoRow(t, "a boot beyond the limits", plainRow(rowFor(1, boot, 2, text)))
		}
		for _, seq := range append(beyond, impl.MaxNumber, impl.MaxNumber+1, 1<<21, 1<<32) {
			checkNoRow(t, "a seq beyond the limits", plainRow(rowFor(1, 2, seq, text)))
		}
	}
	for _, length := range []int{301, 302, 400, 16384, 100000} {
		checkNoRow(t, "a text beyond the limits", plainRow(rowFor(1, 2, 3, chaText(length))))
	}
	for _, r := range []impl.LogRow{rowFor(1, 0, 0, ""), rowFor(99, 1000, 999999, chaText(300)), rowFor(1, 1000, 0, "x"), rowFor(99, 0, 999999, "")} {
		checkScan(t, "at the limits", plainRow(r), []impl.LogRow{r}, len(plainRow(r)))
	}
}

func TestScanRowsWithLengthsBeyondTheEnd(t *testing.T) {
	for _, r := range sampleRows() {
		length := len(r.Text)
		for _, claimed := range []int{length + 1, length + 2, length + 127, 299, 300, 301, 1 << 31, 1 << 32, impl.MaxVar - 1, impl.MaxVar, impl.MaxVar + 1, 1 << 62} {
			if claimed > length {
				checkScan(t, "a length beyond the end", stretchedRow(r, claimed), nil, 0)
				ahead := plainRow(rowFor(11, 12, 13, "ahead"))
				checkScan(t, "a length beyond the end behind a row", ahead+stretchedRow(r, claimed), []impl.LogRow{rowFor(11, 12, 13, "ahead")}, len(ahead))
			}
		}
		for claimed := range length {
			// The checksum fits all of the text, but not what the length leaves of it.
			checkNoRow(t, "a length ahead of the end", stretchedRow(r, claimed))
		}
	}
	for _, size := range []int{1, 2, 6, 7, 8, 9, 10, 100} {
		for _, endless := range []string{strings.Repeat("\x80", size), strings.Repeat("\xff", size)} {
			for _, front := range []string{"", "\x01", "\x01\x02", "\x01\x02\x03"} {
				checkScan(t, "no end of a number", plainSummed(front+endless), nil, 0)
			}
		}
	}
	for missing := range 4 {
		checkScan(t, "numbers missing", plainSummed("\x01\x00\x00\x00"[:missing]), nil, 0)
	}
}

func TestScanRowsOfShortStrings(t *testing.T) {
	for _, s := range allStrings(allBytes(), 2) {
		checkScan(t, "a short string", s, nil, 0)
	}
	// The shortest row has 8 bytes.
	for _, s := range allStrings("\x00\x01\x80\xff", 7) {
		checkScan(t, "a short string", s, nil, 0)
	}
}

// Of the strings with a checksum that fits, just the formats are read.
func TestScanRowsReadsExactlyTheFormats(t *testing.T) {
	alphabet := "\x00\x01\x02\x63\x64\x80"
	// The numbers within the limits that these bytes spell: one of them, or 128 ahead of one.
	formats := map[string]impl.LogRow{}
	for _, tenant := range []int{1, 2, 99} {
		for _, boot := range []int{0, 1, 2, 99, 100, 128, 256} {
			for _, seq := range []int{0, 1, 2, 99, 100, 128, 256, 99 * 128, 100 * 128, 1 << 14, 2 << 14} {
				for _, text := range allStrings(alphabet, 2) {
					r := rowFor(tenant, boot, seq, text)
					formats[plainRow(r)] = r
				}
			}
		}
	}
	found := 0
	for _, rest := range allStrings(alphabet, 6) {
		s := plainSummed(rest)
		r, is := formats[s]
		if is {
			found++
			checkScan(t, "a format", s, []impl.LogRow{r}, len(s))
			continue
		}
		// None of these rests has the checksum of a part of it, so a row cannot end ahead of it either.
		checkScan(t, "no format", s, nil, 0)
	}
	if found == 0 {
		t.Error("no short string is a format")
	}
}

func thrownRow(throw func(below int) int) impl.LogRow {
	text := make([]byte, []int{0, 1, 5, 40, 127, 128, 300}[throw(7)])
	for i := range text {
		text[i] = byte(throw(256))
	}
	return rowFor(1+throw(99), throw(1001), throw([]int{2, 200, 1000000}[throw(3)]), string(text))
}

func TestScanRowsOfThrownLogs(t *testing.T) {
	throw := dice(8)
	for range 3000 {
		var rows []impl.LogRow
		for range throw(7) {
			rows = append(rows, thrownRow(throw))
		}
		log, ends := plainLog(rows)
		checkScan(t, "a thrown log", log, rows, len(log))
		if len(log) == 0 {
			continue
		}
		cut := throw(len(log))
		before, end := wholeRows(ends, cut)
		checkScan(t, "a torn log", log[:cut], rows[:before], end)
		changed := replaceByte(log, cut, log[cut]^byte(1+throw(255)))
		checkScan(t, "a changed log", changed, rows[:before], end)
		twice := throw(len(log))
		checkWhatIsRead(t, replaceByte(changed, twice, byte(throw(256))))
	}
}

func TestScanRowsOfALongLog(t *testing.T) {
	throw := dice(9)
	var rows []impl.LogRow
	var log strings.Builder
	for range 20000 {
		r := thrownRow(throw)
		rows = append(rows, r)
		log.WriteString(impl.ShowRow(r))
	}
	s := log.String()
	checkScan(t, "a long log", s, rows, len(s))
	last := len(impl.ShowRow(rows[len(rows)-1]))
	checkScan(t, "a long torn log", s[:len(s)-1], rows[:len(rows)-1], len(s)-last)
}

// plainSeal seals a batch with the tests' own stream; it knows no limits.
func plainSeal(key string, boot int, seq int, l []impl.Op) string {
	return plainStream(key, 0, plainRowNonce(boot, seq), spellingOf(l).text())
}

func plainRowNonce(boot int, seq int) string { return plainNonce(3, boot*1000000+seq) }

type rowPlace struct{ boot, seq int }

// rowPlaces lists boots and seqs, the limits among them.
func rowPlaces() []rowPlace {
	return []rowPlace{{0, 0}, {0, 1}, {1, 0}, {2, 5}, {0, rowMaxSeq}, {1, rowMaxSeq}, {999, rowMaxSeq}, {rowMaxBoot, 0}, {rowMaxBoot, rowMaxSeq}, {7, 300}}
}

// invalidPlaces lists boots and seqs of which one is beyond its limits; with some of them the number of the nonce wraps round to a valid one.
func invalidPlaces() []rowPlace {
	return []rowPlace{
		{-1, 0}, {-1, rowMaxSeq}, {-1000, 5}, {rowMaxBoot + 1, 0}, {rowMaxBoot + 1, 5}, {rowMaxBoot + 2, 0}, {impl.MaxNumber, 0},
		{0, -1}, {1, -1}, {5, -300}, {rowMaxBoot, -1}, {0, impl.MaxNumber}, {1, impl.MaxNumber}, {rowMaxBoot, impl.MaxNumber}, {0, impl.MaxNumber + 1},
		{-1, -1}, {rowMaxBoot + 1, impl.MaxNumber}, {-1, impl.MaxNumber}, {rowMaxBoot + 1, -1},
		{1 << 58, 0}, {1 << 58, 5}, {1<<58 + 2, 5}, {-1 << 58, 5}, {0, 2000005}, {math.MinInt, 0}, {math.MaxInt, 0}, {0, math.MinInt}, {0, math.MaxInt}, {math.MinInt, math.MinInt},
	}
}

// checkOpen fails unless s is opened to this batch.
func checkOpen(t *testing.T, key string, at rowPlace, s string, want []impl.Op) {
	t.Helper()
	if got, ok := impl.OpenBatch(key, at.boot, at.seq, s); !ok || !slices.Equal(got, want) {
		t.Errorf("OpenBatch(%x, %d, %d, %x) = %#v, %v, want %#v, true", key, at.boot, at.seq, s, got, ok, want)
	}
}

func checkNoOpen(t *testing.T, what string, key string, at rowPlace, s string) {
	t.Helper()
	if got, ok := impl.OpenBatch(key, at.boot, at.seq, s); ok || len(got) != 0 {
		t.Errorf("%s: OpenBatch(%x, %d, %d, %x) = %#v, %v, want nothing, false", what, key, at.boot, at.seq, s, got, ok)
	}
}

// The sealed batches were computed once with OpenSSL's chacha20.
func TestSealBatchOfFixedExamples(t *testing.T) {
	zero := strings.Repeat("\x00", 32)
	var full []impl.Op
	for i := range 6 {
		full = append(full, setOp(strings.Repeat(string(rune('a'+i)), 10), strings.Repeat(string(rune('A'+i)), 16)))
	}
	for _, c := range []struct {
		key  string
		at   rowPlace
		l    []impl.Op
		want string
	}{
		{rfcKey(), rowPlace{2, 5}, opsFor(setOp("a", "x")), "e6301fd24f1c"},
		{rfcKey(), rowPlace{0, 0}, opsFor(delOp("a")), "e25ed925"},
		{rfcKey(), rowPlace{1000, 999999}, opsFor(setOp("a", "x")), "d7eb7360803f"},
		{zero, rowPlace{0, 999999}, opsFor(delOp("a")), "44f9fbea"},
		{zero, rowPlace{1, 0}, opsFor(delOp("a")), "fd1c0071"},
		{rfcKey(), rowPlace{7, 300}, full, "5b4f5786b07e233364b5fa4f66c84813b04088bcc8df59b4ed1838648e9ae9634fa311bb3a341ed12eda4bd59d42e57255eda76e602b5a1536e5635e1298325628f5373b4b0ca546a1348d2588975ea5a0c7180eee611fcd8c999646f4a450572302e19153e4ae39d272927418062c43a01d6d3f6bbda2bdda87eb046d0c644bd04d319eb3ba347e9068126fd0fc685904b7c8125979f02701c1f859a24949e428177df2afed7f75c6c1db250948ee"},
	} {
		got := impl.SealBatch(c.key, c.at.boot, c.at.seq, c.l)
		if hex.EncodeToString([]byte(got)) != c.want {
			t.Errorf("SealBatch(%x, %d, %d, %#v) = %x, want %s", c.key, c.at.boot, c.at.seq, c.l, got, c.want)
		}
		checkOpen(t, c.key, c.at, got, c.l)
	}
}

func TestSealBatchIsAStreamOfTheFormat(t *testing.T) {
	for _, key := range tokenSecrets() {
		for _, at := range rowPlaces() {
			for _, l := range validBatches() {
				got := impl.SealBatch(key, at.boot, at.seq, l)
				parts := impl.ChaStream(key, 0, impl.NonceOf(3, at.boot*impl.MaxNumber+at.seq), impl.ShowBatch(l))
				if got == "" || got != parts || got != plainSeal(key, at.boot, at.seq, l) {
					t.Errorf("SealBatch(%x, %d, %d, %#v) = %x, want %x", key, at.boot, at.seq, l, got, parts)
				}
				checkOpen(t, key, at, got, l)
			}
		}
	}
	throw := dice(18)
	keys := append(allStrings("\x00\x01a\xff", 3)[1:], "1234567890", strings.Repeat("\x00", 10))
	for range 5000 {
		l := thrownBatch(throw, keys)
		key, at := key32(byte(throw(256))), rowPlace{throw(1001), throw(1000000)}
		got := impl.SealBatch(key, at.boot, at.seq, l)
		if got != plainSeal(key, at.boot, at.seq, l) {
			t.Fatalf("SealBatch(%x, %d, %d, %#v) = %x, want %x", key, at.boot, at.seq, l, got, plainSeal(key, at.boot, at.seq, l))
		}
		checkOpen(t, key, at, got, l)
	}
}

func TestSealBatchHasAStreamForEachRow(t *testing.T) {
	l := repeatOp(6)
	type owner struct {
		key string
		at  rowPlace
	}
	owners := map[string]owner{}
	for _, key := range tokenSecrets() {
		for _, at := range rowPlaces() {
			mine := owner{key, at}
			s := impl.SealBatch(key, at.boot, at.seq, l)
			if other, taken := owners[s]; taken {
				t.Errorf("%v and %v seal a batch to %x", other, mine, s)
			}
			owners[s] = mine
		}
	}
}

func TestSealBatchOfInvalidArguments(t *testing.T) {
	key := key32(9)
	for _, at := range rowPlaces() {
		for _, l := range invalidBatches() {
			if got := impl.SealBatch(key, at.boot, at.seq, l); got != "" {
				t.Errorf("SealBatch of %#v = %x, want nothing", l, got)
			}
		}
		for _, other := range shortAndLongSecrets(key) {
			for _, l := range append(validBatches(), invalidBatches()...) {
				if got := impl.SealBatch(other, at.boot, at.seq, l); got != "" {
					t.Errorf("SealBatch with a key of %d bytes = %x, want nothing", len(other), got)
				}
			}
		}
	}
	for _, at := range invalidPlaces() {
		for _, l := range append(validBatches(), invalidBatches()...) {
			if got := impl.SealBatch(key, at.boot, at.seq, l); got != "" {
				t.Errorf("SealBatch with boot %d and seq %d = %x, want nothing", at.boot, at.seq, got)
			}
		}
	}
}

func TestOpenBatchOfInvalidArguments(t *testing.T) {
	key := key32(9)
	for _, l := range validBatches() {
		for _, at := range rowPlaces() {
			s := plainSeal(key, at.boot, at.seq, l)
			for _, other := range shortAndLongSecrets(key) {
				checkNoOpen(t, "a key of another length", other, at, s)
				checkNoOpen(t, "a batch that is not sealed", other, at, impl.ShowBatch(l))
				checkNoOpen(t, "the empty string", other, at, "")
			}
		}
		for _, at := range invalidPlaces() {
			// These strings are what the batch would be sealed to without the limits.
			checkNoOpen(t, "a boot or seq beyond the limits", key, at, plainSeal(key, at.boot, at.seq, l))
			checkNoOpen(t, "a batch that is not sealed", key, at, impl.ShowBatch(l))
			checkNoOpen(t, "the empty string", key, at, "")
		}
	}
}

// The strings here would open to invalid batches if there were no limits.
func TestOpenBatchOfInvalidBatches(t *testing.T) {
	key := key32(9)
	for _, at := range rowPlaces() {
		for _, l := range invalidBatches() {
			checkNoOpen(t, "an invalid batch", key, at, plainSeal(key, at.boot, at.seq, l))
		}
		for _, text := range []string{"\x00", "\x01", "\x01\x01\x01", "\x01\x02\x01a", "\x81\x00\x01\x01a", "\x01\x01\x81\x00a", "\x07", "no batch", allBytes()} {
			checkNoOpen(t, "no batch", key, at, plainStream(key, 0, plainRowNonce(at.boot, at.seq), text))
		}
		checkNoOpen(t, "the empty string", key, at, "")
	}
}

func TestOpenBatchCutShortOrWithMoreBehind(t *testing.T) {
	key := key32(9)
	for _, at := range rowPlaces() {
		for _, l := range validBatches() {
			s := plainSeal(key, at.boot, at.seq, l)
			for size := range len(s) {
				checkNoOpen(t, "cut short", key, at, s[:size])
			}
			for b := range 256 {
				checkNoOpen(t, "a byte behind its end", key, at, s+string([]byte{byte(b)}))
			}
			checkNoOpen(t, "twice", key, at, s+s)
		}
	}
	checkNoOpen(t, "a long string behind its end", key, rowPlace{2, 5}, plainSeal(key, 2, 5, repeatOp(6))+strings.Repeat("x", 100000))
}

// checkOpenElsewhere opens s with a key and a place that it was not sealed with. What then comes out is hardly ever a batch.
func checkOpenElsewhere(t *testing.T, key string, at rowPlace, s string) (refused bool) {
	t.Helper()
	text := plainStream(key, 0, plainRowNonce(at.boot, at.seq), s)
	want, is := impl.ReadBatch(text)
	if is {
		checkOpen(t, key, at, s, want)
		return false
	}
	checkNoOpen(t, "another key, boot or seq", key, at, s)
	return true
}

func TestOpenBatchWithAnotherKeyOrPlace(t *testing.T) {
	tried, refused := 0, 0
	try := func(key string, at rowPlace, s string) {
		tried++
		if checkOpenElsewhere(t, key, at, s) {
			refused++
		}
	}
	for _, l := range [][]impl.Op{opsFor(setOp("a", "x")), opsFor(delOp("a"), setOp("b", "1")), repeatOp(6)} {
		for _, key := range tokenSecrets() {
			for _, at := range rowPlaces() {
				s := plainSeal(key, at.boot, at.seq, l)
				for _, other := range rowPlaces() {
					if other != at {
						try(key, other, s)
					}
				}
				for _, other := range tokenSecrets() {
					if other != key {
						try(other, at, s)
					}
				}
				for bit := range 8 * len(key) {
					try(flipBit(key, bit), at, s)
				}
				// A batch that is not sealed is opened as if it were.
				try(key, at, impl.ShowBatch(l))
			}
		}
	}
	// All of them but a coincidence of two or three bytes.
	if refused < tried-tried/1000 {
		t.Errorf("%d of %d strings are opened with what they were not sealed with", tried-refused, tried)
	}
}

// A changed byte may make another batch, but then it is the one that is sealed to the changed string.
func TestOpenBatchOfChangedBytes(t *testing.T) {
	key, at := key32(9), rowPlace{7, 300}
	for _, l := range validBatches() {
		s := plainSeal(key, at.boot, at.seq, l)
		for i := range len(s) {
			for b := range 256 {
				changed := replaceByte(s, i, byte(b))
				got, ok := impl.OpenBatch(key, at.boot, at.seq, changed)
				if ok && (plainSeal(key, at.boot, at.seq, got) != changed || impl.SealBatch(key, at.boot, at.seq, got) != changed) {
					t.Errorf("OpenBatch(%x) = %#v, true", changed, got)
				}
				if !ok && len(got) != 0 {
					t.Errorf("OpenBatch(%x) = %#v, false", changed, got)
				}
				if changed == s && (!ok || !slices.Equal(got, l)) {
					t.Errorf("OpenBatch(%x) = %#v, %v, want %#v, true", s, got, ok, l)
				}
			}
		}
	}
}

func TestOpenBatchAcceptsExactlyWhatIsSealed(t *testing.T) {
	key, at := key32(9), rowPlace{7, 300}
	alphabet := "\x00\x01\x02a"
	formats := shortFormats(alphabet)
	found := 0
	for _, text := range allStrings(alphabet, 7) {
		s := plainStream(key, 0, plainRowNonce(at.boot, at.seq), text)
		if want, is := formats[text]; is {
			found++
			checkOpen(t, key, at, s, want)
		} else {
			checkNoOpen(t, "a short string", key, at, s)
		}
	}
	if found == 0 {
		t.Error("no short string is a sealed batch")
	}
}

func TestSealBatchLeavesItsArgument(t *testing.T) {
	key := key32(9)
	for _, l := range append(validBatches(), invalidBatches()...) {
		for _, at := range append(rowPlaces(), invalidPlaces()...) {
			ops, whole := wideOps(l)
			before := slices.Clone(whole)
			s := impl.SealBatch(key, at.boot, at.seq, ops)
			impl.SealBatch("", at.boot, at.seq, ops)
			if !slices.Equal(whole, before) {
				t.Fatalf("SealBatch of %#v wrote into its argument", l)
			}
			// What is opened lies in other memory than what was sealed.
			if opened, ok := impl.OpenBatch(key, at.boot, at.seq, s); ok {
				scribbleOps(opened)
				if !slices.Equal(whole, before) {
					t.Fatalf("writing into what OpenBatch returned changed %#v", l)
				}
			}
		}
	}
}

func TestOpenBatchReturnsNewMemory(t *testing.T) {
	key, at := key32(9), rowPlace{2, 5}
	for _, l := range validBatches() {
		s := impl.SealBatch(key, at.boot, at.seq, l)
		first, _ := impl.OpenBatch(key, at.boot, at.seq, s)
		second, _ := impl.OpenBatch(key, at.boot, at.seq, s)
		scribbleOps(first)
		if !slices.Equal(second, l) {
			t.Errorf("two results of OpenBatch(%x) share memory", s)
		}
		checkOpen(t, key, at, s, l)
	}
}

func TestScanRowsReturnsNewMemory(t *testing.T) {
	for _, rows := range rowLogs() {
		log, _ := plainLog(rows)
		first, _ := impl.ScanRows(log)
		second, _ := impl.ScanRows(log)
		for i := range first[:cap(first)] {
			first[:cap(first)][i] = impl.LogRow{Tenant: 77, Text: "written over", Synced: true}
		}
		if !slices.Equal(second, rows) {
			t.Errorf("two results of ScanRows(%.80q) share memory", log)
		}
		checkScan(t, "again", log, rows, len(log))
	}
}

func TestRowFunctionsKeepNoState(t *testing.T) {
	key, at, l := key32(9), rowPlace{2, 5}, opsFor(setOp("c", "1"), delOp("a"))
	sealed := impl.SealBatch(key, at.boot, at.seq, l)
	rows := []impl.LogRow{rowFor(3, at.boot, at.seq, sealed), rowFor(4, 0, 1, "next")}
	log, _ := plainLog(rows)
	for range 3 {
		impl.SealBatch(key32(10), at.boot, at.seq, l)
		impl.SealBatch(key, -1, -1, nil)
		impl.OpenBatch(key, at.boot, at.seq, sealed[1:])
		impl.ShowRow(rowFor(0, 0, 0, "x"))
		impl.ScanRows(log[1:])
		if again := impl.SealBatch(strings.Clone(key), at.boot, at.seq, slices.Clone(l)); again != sealed {
			t.Errorf("SealBatch returns %x and then %x", sealed, again)
		}
		checkOpen(t, key, at, strings.Clone(sealed), l)
		checkScan(t, "again", strings.Clone(log), rows, len(log))
	}
}

// A batch goes through the log: sealed, written as a row, torn off behind it, read and opened.
func TestBatchesThroughATornLog(t *testing.T) {
	key := key32(40)
	log := ""
	for i, l := range validBatches() {
		log += impl.ShowRow(rowFor(3, 1, i, impl.SealBatch(key, 1, i, l)))
	}
	rows, end := impl.ScanRows(log + plainRow(rowFor(3, 1, 99, "torn"))[:9])
	if end != len(log) || len(rows) != len(validBatches()) {
		t.Fatalf("%d rows up to %d, want %d up to %d", len(rows), end, len(validBatches()), len(log))
	}
	for i, l := range validBatches() {
		checkOpen(t, key, rowPlace{rows[i].Boot, rows[i].Seq}, rows[i].Text, l)
	}
}
