package tests

import (
	"math"
	"slices"
	"strings"
	"testing"

	"loop.example/g00950/impl"
)

// fullMask has a bit for each write that a full cache holds.
const fullMask = 1<<impl.MaxCached - 1

// diskOf returns a device whose sectors are empty.
func diskOf(sectors int, writes int, cached ...impl.Put) impl.Dev {
	return impl.Dev{Sectors: make([]string, max(sectors, 0)), Cached: cached, Writes: writes}
}

// fillPuts returns writes that go round the sectors, each with a text of its own.
func fillPuts(count int, sectors int) []impl.Put {
	var list []impl.Put
	for i := range count {
		list = append(list, impl.Put{Sector: i % sectors, Text: "text " + impl.Dec(i)})
	}
	return list
}

func sectorText(length int) string { return strings.Repeat("x", length) }

func copyDisk(d impl.Dev) impl.Dev {
	return impl.Dev{Sectors: slices.Clone(d.Sectors), Cached: slices.Clone(d.Cached), Writes: d.Writes}
}

// sameDisk compares field by field; a nil and an empty list are the same.
func sameDisk(a, b impl.Dev) bool {
	return slices.Equal(a.Sectors, b.Sectors) && slices.Equal(a.Cached, b.Cached) && a.Writes == b.Writes
}

// showDisk tells a device in printable bytes.
func showDisk(d impl.Dev) string {
	out := "{writes " + impl.Dec(d.Writes) + ", " + impl.Dec(len(d.Sectors)) + " sectors"
	for i, text := range d.Sectors {
		if text != "" {
			out += ", " + impl.Dec(i) + " holds " + impl.Hex(text)
		}
	}
	for _, put := range d.Cached {
		out += ", " + impl.Dec(put.Sector) + " gets " + impl.Hex(put.Text)
	}
	return out + "}"
}

func checkDisk(t *testing.T, what string, got impl.Dev, gotOk bool, want impl.Dev, wantOk bool) {
	t.Helper()
	if gotOk != wantOk || !sameDisk(got, want) {
		t.Errorf("%s = %s, %v, want %s, %v", what, showDisk(got), gotOk, showDisk(want), wantOk)
	}
}

func checkRead(t *testing.T, d impl.Dev, sector int, want string, wantOk bool) {
	t.Helper()
	if got, ok := impl.DevRead(d, sector); got != want || ok != wantOk {
		t.Errorf("DevRead(%s, %d) = %x, %v, want %x, %v", showDisk(d), sector, got, ok, want, wantOk)
	}
}

// mustPut writes to a device that has to take it.
func mustPut(t *testing.T, d impl.Dev, sector int, text string) impl.Dev {
	t.Helper()
	out, ok := impl.DevPut(d, sector, text)
	if !ok {
		t.Fatalf("DevPut(%s, %d, %x) refuses", showDisk(d), sector, text)
	}
	return out
}

func mustFlush(t *testing.T, d impl.Dev) impl.Dev {
	t.Helper()
	out, ok := impl.DevFlush(d)
	if !ok || len(out.Cached) != 0 {
		t.Fatalf("DevFlush(%s) = %s, %v", showDisk(d), showDisk(out), ok)
	}
	return out
}

// plainFall follows the document's text; taken lists the indices of the writes that survive.
func plainFall(d impl.Dev, taken ...int) impl.Dev {
	out := impl.Dev{Sectors: slices.Clone(d.Sectors), Writes: d.Writes}
	for i, put := range d.Cached {
		if slices.Contains(taken, i) {
			out.Sectors[put.Sector] = put.Text
		}
	}
	return out
}

// masks lists masks of every kind: none, single bits, some, all, bits behind every cached write, and negative ones.
func masks() []int {
	list := []int{0, 5, 10, fullMask, fullMask + 1, fullMask << 20, math.MaxInt, -1, -2, -fullMask, math.MinInt, math.MinInt + 1}
	for bit := range 63 {
		list = append(list, 1<<bit, math.MaxInt-1<<bit)
	}
	return list
}

// bitsOf lists the numbers of the set bits, by division alone; a negative mask takes none.
func bitsOf(mask int) []int {
	var list []int
	for bit := 0; mask > 0; bit++ {
		if mask%2 == 1 {
			list = append(list, bit)
		}
		mask /= 2
	}
	return list
}

// validDisks lists devices that lie at the limits from inside.
func validDisks() []impl.Dev {
	list := []impl.Dev{
		diskOf(1, 0),
		{Sectors: []string{""}, Cached: []impl.Put{}},
		diskOf(2, 1),
		diskOf(16, 0),
		diskOf(1, 999999),
		diskOf(1, 1000000),
		// How many writes are cached says nothing about Writes.
		diskOf(1, 0, fillPuts(20, 1)...),
		diskOf(16, 20, fillPuts(20, 16)...),
		diskOf(16, 1000000, fillPuts(20, 16)...),
		diskOf(3, 7, fillPuts(19, 3)...),
		diskOf(3, 1, impl.Put{Sector: 0, Text: ""}),
		diskOf(3, 1, impl.Put{Sector: 2, Text: ""}),
		diskOf(16, 1, impl.Put{Sector: 15, Text: "last"}),
		diskOf(3, 1, impl.Put{Sector: 1, Text: sectorText(200)}),
		diskOf(3, 1, impl.Put{Sector: 1, Text: strings.Repeat("\u00e9", 100)}),
		{Sectors: []string{sectorText(200)}},
		{Sectors: []string{"", strings.Repeat("\xff", 200), strings.Repeat("\x00", 200)}, Writes: 4},
	}
	all := diskOf(16, 5)
	for i := range all.Sectors {
		all.Sectors[i] = sectorText(200)
	}
	return append(list, all)
}

// invalidDisks lists devices that are not as the document states; some of them would be with one more or one less write.
func invalidDisks() []impl.Dev {
	list := []impl.Dev{
		{},
		diskOf(0, 3),
		diskOf(0, 1, impl.Put{Sector: 0, Text: "a"}),
		{Sectors: []string{}, Cached: []impl.Put{}},
		diskOf(17, 0),
		diskOf(17, 1, impl.Put{Sector: 16, Text: "a"}),
		diskOf(40, 0),
		diskOf(3, 0, fillPuts(21, 3)...),
		diskOf(3, 0, fillPuts(64, 3)...),
		diskOf(3, 0, fillPuts(65, 3)...),
		diskOf(3, -1),
		diskOf(3, math.MinInt),
		diskOf(3, 1000001),
		diskOf(3, math.MaxInt),
	}
	for _, sector := range []int{-1, -2, 3, 4, 16, math.MinInt, math.MaxInt} {
		for at := range 3 {
			d := diskOf(3, 3, fillPuts(3, 3)...)
			d.Cached[at].Sector = sector
			list = append(list, d)
		}
	}
	for _, text := range []string{sectorText(201), sectorText(400), strings.Repeat("\u00e9", 101)} {
		for at := range 3 {
			sectors, cached := diskOf(3, 0), diskOf(3, 3, fillPuts(3, 3)...)
			sectors.Sectors[at] = text
			cached.Cached[at].Text = text
			list = append(list, sectors, cached)
		}
	}
	return list
}

func TestDevOk(t *testing.T) {
	for _, d := range validDisks() {
		if !impl.DevOk(d) {
			t.Errorf("DevOk(%s) = false", showDisk(d))
		}
	}
	for _, d := range invalidDisks() {
		if impl.DevOk(d) {
			t.Errorf("DevOk(%s) = true", showDisk(d))
		}
	}
}

func TestDevOkCountsSectorsAndWrites(t *testing.T) {
	for sectors := range 40 {
		if got, want := impl.DevOk(diskOf(sectors, 0)), sectors >= 1 && sectors <= 16; got != want {
			t.Errorf("DevOk with %d sectors = %v", sectors, got)
		}
	}
	for cached := range 70 {
		if got, want := impl.DevOk(diskOf(3, 0, fillPuts(cached, 3)...)), cached <= 20; got != want {
			t.Errorf("DevOk with %d cached writes = %v", cached, got)
		}
	}
	for sectors := 1; sectors <= 16; sectors++ {
		for sector := -3; sector < 20; sector++ {
			d := diskOf(sectors, 1, impl.Put{Sector: sector, Text: "a"})
			if got, want := impl.DevOk(d), sector >= 0 && sector < sectors; got != want {
				t.Errorf("DevOk with a write to sector %d of %d = %v", sector, sectors, got)
			}
		}
	}
}

func TestDevPut(t *testing.T) {
	for _, d := range validDisks() {
		for sector := range d.Sectors {
			for _, text := range []string{"", "a", "\x00\xff", sectorText(200), strings.Repeat("\u00e9", 100)} {
				want, wantOk := copyDisk(d), len(d.Cached) < 20 && d.Writes < 1000000
				if wantOk {
					want.Cached = append(want.Cached, impl.Put{Sector: sector, Text: text})
					want.Writes++
				}
				got, ok := impl.DevPut(d, sector, text)
				checkDisk(t, "DevPut", got, ok, want, wantOk)
				if !impl.DevOk(got) {
					t.Errorf("DevPut(%s, %d) gives an invalid device", showDisk(d), sector)
				}
			}
		}
	}
}

func TestDevPutRefuses(t *testing.T) {
	held := impl.Dev{Sectors: []string{"a", "b", "c"}, Cached: []impl.Put{{Sector: 1, Text: "d"}}, Writes: 6}
	all16 := diskOf(16, 0)
	for _, c := range []struct {
		d      impl.Dev
		sector int
		text   string
	}{
		{held, -1, "x"},
		{held, 3, "x"},
		{held, 15, "x"},
		{held, math.MinInt, "x"},
		{held, math.MaxInt, "x"},
		{held, 1, sectorText(201)},
		{held, 1, sectorText(5000)},
		{held, 1, strings.Repeat("\u00e9", 101)},
		{held, -1, sectorText(201)},
		{all16, -1, ""},
		{all16, 16, ""},
		{diskOf(1, 0), 1, ""},
		{diskOf(1, 0), -1, ""},
		{diskOf(3, 20, fillPuts(20, 3)...), 0, "x"},
		{diskOf(3, 20, fillPuts(20, 3)...), 3, "x"},
		{diskOf(3, 1000000), 0, "x"},
		{diskOf(3, 1000000, fillPuts(2, 3)...), 0, "x"},
		{diskOf(3, 1000000, fillPuts(20, 3)...), 0, "x"},
	} {
		got, ok := impl.DevPut(c.d, c.sector, c.text)
		checkDisk(t, "DevPut to sector "+impl.Dec(c.sector)+" of "+impl.Dec(len(c.text))+" bytes", got, ok, c.d, false)
	}
}

func TestDevPutUpToItsLimits(t *testing.T) {
	d, want := diskOf(3, 0), diskOf(3, 0)
	for i, put := range fillPuts(20, 3) {
		d = mustPut(t, d, put.Sector, put.Text)
		want.Cached, want.Writes = fillPuts(i+1, 3), i+1
		checkDisk(t, "DevPut number "+impl.Dec(i), d, true, want, true)
	}
	full, ok := impl.DevPut(d, 0, "x")
	checkDisk(t, "DevPut to a full cache", full, ok, want, false)

	// A flush makes room in the cache, and counts no write.
	d = mustPut(t, mustFlush(t, full), 0, "x")
	if len(d.Cached) != 1 || d.Writes != 21 {
		t.Errorf("DevPut after DevFlush = %s", showDisk(d))
	}

	last := mustPut(t, diskOf(3, 999999), 1, "x")
	checkDisk(t, "DevPut with Writes 999999", last, true, diskOf(3, 1000000, impl.Put{Sector: 1, Text: "x"}), true)
	over, ok := impl.DevPut(last, 1, "y")
	checkDisk(t, "DevPut with Writes 1000000", over, ok, last, false)
	over, ok = impl.DevPut(mustFlush(t, last), 1, "y")
	checkDisk(t, "DevPut with Writes 1000000 after DevFlush", over, ok, impl.Dev{Sectors: []string{"", "x", ""}, Writes: 1000000}, false)
}

func TestDevRead(t *testing.T) {
	d := impl.Dev{Sectors: []string{"a", "b", "", "d"}, Cached: []impl.Put{{Sector: 1, Text: "e"}, {Sector: 2, Text: "f"}, {Sector: 1, Text: "g"}, {Sector: 3, Text: ""}}}
	for sector, want := range []string{"a", "g", "f", ""} {
		checkRead(t, d, sector, want, true)
		checkRead(t, mustFlush(t, d), sector, want, true)
	}
	for _, sector := range []int{-1, -4, 4, 5, 16, math.MinInt, math.MaxInt} {
		checkRead(t, d, sector, "", false)
		checkRead(t, mustFlush(t, d), sector, "", false)
	}
	all16 := diskOf(16, 0, impl.Put{Sector: 15, Text: "last"})
	checkRead(t, all16, 15, "last", true)
	checkRead(t, all16, 14, "", true)
	checkRead(t, all16, 16, "", false)
	for _, d := range validDisks() {
		for sector := range d.Sectors {
			want, _ := impl.DevRead(d, sector)
			checkRead(t, mustFlush(t, d), sector, want, true)
		}
	}
}

func TestDevReadOfALongText(t *testing.T) {
	long := keyBytes(7, 200)
	d := mustPut(t, diskOf(2, 0), 1, long)
	checkRead(t, d, 1, long, true)
	checkRead(t, mustFlush(t, d), 1, long, true)
}

func TestDevFunctionsOfAnInvalidDevice(t *testing.T) {
	for _, d := range invalidDisks() {
		for _, sector := range []int{-1, 0, 1, 2, 3, 16} {
			put, ok := impl.DevPut(d, sector, "x")
			checkDisk(t, "DevPut to an invalid device", put, ok, impl.Dev{}, false)
			checkRead(t, d, sector, "", false)
		}
		flushed, ok := impl.DevFlush(d)
		checkDisk(t, "DevFlush of an invalid device", flushed, ok, impl.Dev{}, false)
		for _, mask := range masks() {
			fallen, ok := impl.DevFall(d, mask)
			checkDisk(t, "DevFall of an invalid device", fallen, ok, impl.Dev{}, false)
		}
	}
}

func TestDevFlush(t *testing.T) {
	for _, d := range validDisks() {
		want := copyDisk(d)
		for _, put := range want.Cached {
			want.Sectors[put.Sector] = put.Text
		}
		want.Cached = nil
		got, ok := impl.DevFlush(d)
		checkDisk(t, "DevFlush", got, ok, want, true)
		again, ok := impl.DevFlush(got)
		checkDisk(t, "a second DevFlush", again, ok, want, true)
	}
}

func TestSeveralWritesToOneSector(t *testing.T) {
	d := impl.Dev{Sectors: []string{"old", "side"}}
	for i, text := range []string{"first", "second", "third", "last"} {
		d = mustPut(t, d, 0, text)
		checkRead(t, d, 0, text, true)
		checkRead(t, d, 1, "side", true)
		if len(d.Cached) != i+1 || d.Sectors[0] != "old" {
			t.Errorf("after %d writes: %s", i+1, showDisk(d))
		}
	}
	flushed, ok := impl.DevFlush(d)
	checkDisk(t, "DevFlush", flushed, ok, impl.Dev{Sectors: []string{"last", "side"}, Writes: 4}, true)
	for _, c := range []struct {
		mask int
		text string
	}{
		{0, "old"},
		{1, "first"},
		{2, "second"},
		{4, "third"},
		{8, "last"},
		{3, "second"},
		{5, "third"},
		{6, "third"},
		{7, "third"},
		{9, "last"},
		{10, "last"},
		{14, "last"},
		{15, "last"},
		{-1, "old"},
		{-8, "old"},
		{math.MinInt, "old"},
		{16, "old"},
		{16 + 2, "second"},
		{1 << 62, "old"},
		{1<<62 + 1, "first"},
		{1<<32 + 4, "third"},
		{math.MaxInt, "last"},
		{math.MaxInt - 15, "old"},
		{math.MaxInt - 8, "third"},
	} {
		fallen, ok := impl.DevFall(d, c.mask)
		checkDisk(t, "DevFall with the mask "+impl.Dec(c.mask), fallen, ok, impl.Dev{Sectors: []string{c.text, "side"}, Writes: 4}, true)
		checkRead(t, fallen, 0, c.text, true)
	}
}

func TestAnEmptyTextIsWrittenToo(t *testing.T) {
	d := impl.Dev{Sectors: []string{"old"}, Cached: []impl.Put{{Sector: 0, Text: "new"}, {Sector: 0, Text: ""}}, Writes: 2}
	checkRead(t, d, 0, "", true)
	flushed, ok := impl.DevFlush(d)
	checkDisk(t, "DevFlush", flushed, ok, diskOf(1, 2), true)
	fallen, ok := impl.DevFall(d, 2)
	checkDisk(t, "DevFall that takes the last write", fallen, ok, diskOf(1, 2), true)
}

func TestDevFallTakesEverySubset(t *testing.T) {
	held := impl.Dev{Sectors: []string{"a", "b", "c"}, Writes: 50}
	for count := range 11 {
		held.Cached = fillPuts(count, 3)
		for mask := range 1 << 11 {
			fallen, ok := impl.DevFall(held, mask)
			checkDisk(t, "DevFall with the mask "+impl.Dec(mask), fallen, ok, plainFall(held, bitsOf(mask)...), true)
		}
	}
}

func TestDevFallWithEveryKindOfMask(t *testing.T) {
	for _, d := range validDisks() {
		for _, mask := range masks() {
			fallen, ok := impl.DevFall(d, mask)
			checkDisk(t, "DevFall with the mask "+impl.Dec(mask), fallen, ok, plainFall(d, bitsOf(mask)...), true)
			if !impl.DevOk(fallen) {
				t.Errorf("DevFall(%s, %d) gives an invalid device", showDisk(d), mask)
			}
		}
	}
}

func TestDevFallOfAFullCacheTakesSingleWrites(t *testing.T) {
	d := diskOf(16, 20, fillPuts(20, 16)...)
	for i, put := range d.Cached {
		fallen, ok := impl.DevFall(d, 1<<i)
		want := diskOf(16, 20)
		want.Sectors[put.Sector] = put.Text
		checkDisk(t, "DevFall that takes the write "+impl.Dec(i), fallen, ok, want, true)
	}
	flushed := mustFlush(t, d)
	fallen, ok := impl.DevFall(d, fullMask)
	checkDisk(t, "DevFall that takes every write", fallen, ok, flushed, true)
	fallen, ok = impl.DevFall(d, 0)
	checkDisk(t, "DevFall that takes no write", fallen, ok, diskOf(16, 20), true)
}

func TestFlushedWritesSurviveEveryCrash(t *testing.T) {
	d := diskOf(16, 0)
	for _, put := range fillPuts(20, 16) {
		d = mustPut(t, d, put.Sector, put.Text)
	}
	d = mustFlush(t, d)
	later := mustPut(t, mustPut(t, d, 3, "later"), 3, "latest")
	for _, mask := range masks() {
		fallen, ok := impl.DevFall(d, mask)
		checkDisk(t, "DevFall after DevFlush", fallen, ok, d, true)
		fallen, ok = impl.DevFall(later, mask)
		if !ok || len(fallen.Cached) != 0 || fallen.Writes != 22 {
			t.Errorf("DevFall with the mask %d = %s, %v", mask, showDisk(fallen), ok)
		}
		for sector := range fallen.Sectors {
			if sector != 3 {
				checkRead(t, fallen, sector, d.Sectors[sector], true)
			}
		}
		if text, _ := impl.DevRead(fallen, 3); text != d.Sectors[3] && text != "later" && text != "latest" {
			t.Errorf("after the mask %d sector 3 holds %x", mask, text)
		}
		again, ok := impl.DevFall(fallen, fullMask-mask&fullMask)
		checkDisk(t, "a second DevFall", again, ok, fallen, true)
	}
}

// plainDisk keeps every write since the last flush or crash, beside what is durable.
type plainDisk struct {
	durable map[int]string
	since   []impl.Put
	writes  int
}

// fall makes durable what survives; the rest is lost.
func (m *plainDisk) fall(survives []int) {
	for i, put := range m.since {
		if slices.Contains(survives, i) {
			m.durable[put.Sector] = put.Text
		}
	}
	m.since = nil
}

// read returns what was written last.
func (m *plainDisk) read(sector int) string {
	text := m.durable[sector]
	for _, put := range m.since {
		if put.Sector == sector {
			text = put.Text
		}
	}
	return text
}

func TestDeviceFollowsAModel(t *testing.T) {
	const sectors = 5
	d, m := diskOf(sectors, 0), &plainDisk{durable: map[int]string{}}
	number := uint32(1)
	flushed, fallen, refused := 0, 0, 0
	for step := range 20000 {
		number = number*1664525 + 1013904223
		ok, want := false, true
		switch kind := number >> 25; {
		case kind < 3:
			d, ok = impl.DevFlush(d)
			m.fall(bitsOf(fullMask))
			flushed++
		case kind < 6:
			mask := int(int32(number << 7))
			d, ok = impl.DevFall(d, mask)
			m.fall(bitsOf(mask))
			fallen++
		default:
			put := impl.Put{Sector: int(number>>8)%(sectors+2) - 1, Text: keyBytes(byte(number>>16), int(number>>11)%202)}
			d, ok = impl.DevPut(d, put.Sector, put.Text)
			want = put.Sector >= 0 && put.Sector < sectors && len(put.Text) <= 200 && len(m.since) < 20
			if want {
				m.since = append(m.since, put)
				m.writes++
			} else {
				refused++
			}
		}
		if ok != want || !impl.DevOk(d) || d.Writes != m.writes || !slices.Equal(d.Cached, m.since) {
			t.Fatalf("step %d: %s, %v, want %v, %d writes", step, showDisk(d), ok, want, m.writes)
		}
		for sector := range sectors {
			if got, ok := impl.DevRead(d, sector); !ok || got != m.read(sector) || d.Sectors[sector] != m.durable[sector] {
				t.Fatalf("step %d: DevRead(%s, %d) = %x, %v, want %x", step, showDisk(d), sector, got, ok, m.read(sector))
			}
		}
	}
	if flushed < 100 || fallen < 100 || refused < 100 || m.writes < 1000 {
		t.Errorf("the run had %d flushes, %d crashes, %d refusals and %d writes", flushed, fallen, refused, m.writes)
	}
}

// callDevFunctions returns a device from each function of the chapter and each way in which it ends.
func callDevFunctions(d impl.Dev) []impl.Dev {
	var results []impl.Dev
	for _, sector := range []int{-1, 0, 2, 3} {
		for _, text := range []string{"x", sectorText(201)} {
			put, _ := impl.DevPut(d, sector, text)
			results = append(results, put)
		}
		impl.DevRead(d, sector)
	}
	flushed, _ := impl.DevFlush(d)
	results = append(results, flushed)
	for _, mask := range []int{-1, 0, 1, 6, fullMask} {
		fallen, _ := impl.DevFall(d, mask)
		results = append(results, fallen)
	}
	impl.DevOk(d)
	return results
}

// scribble writes into all memory that a device holds, its unused capacity included.
func scribble(d impl.Dev) {
	sectors, cached := d.Sectors[:cap(d.Sectors)], d.Cached[:cap(d.Cached)]
	for i := range sectors {
		sectors[i] = "written into the sectors"
	}
	for i := range cached {
		cached[i] = impl.Put{Sector: 42, Text: "written into the cache"}
	}
}

func TestDevFunctionsShareNoMemory(t *testing.T) {
	for _, sectors := range []int{0, 1, 3, 16, 17} {
		for _, cached := range []int{0, 1, 19, 20, 21} {
			for _, writes := range []int{30, impl.MaxNumber, -1} {
				// The device uses the front of the memory; the rest is its unused capacity.
				whole := impl.Dev{Sectors: make([]string, 40), Cached: fillPuts(50, max(1, sectors)), Writes: writes}
				for i := range whole.Sectors {
					whole.Sectors[i] = "sector " + impl.Dec(i)
				}
				before := copyDisk(whole)
				results := callDevFunctions(impl.Dev{Sectors: whole.Sectors[:sectors], Cached: whole.Cached[:cached], Writes: writes})
				if !sameDisk(whole, before) {
					t.Fatalf("a call with %d sectors and %d cached writes wrote into its argument", sectors, cached)
				}
				checkResultsApart(t, results, whole)
			}
		}
	}
}

// checkResultsApart fails if writing into one result changes another one or the argument.
func checkResultsApart(t *testing.T, results []impl.Dev, argument impl.Dev) {
	t.Helper()
	before := copyDisk(argument)
	for i, result := range results {
		var others []impl.Dev
		for _, other := range results {
			others = append(others, copyDisk(other))
		}
		scribble(result)
		if !sameDisk(argument, before) {
			t.Fatalf("writing into result %d changed the argument", i)
		}
		for j := range results {
			if j != i && !sameDisk(results[j], others[j]) {
				t.Fatalf("writing into result %d changed result %d", i, j)
			}
		}
	}
}

func TestDevResultsDoNotFollowTheArgument(t *testing.T) {
	for _, writes := range []int{30, impl.MaxNumber} {
		d := impl.Dev{Sectors: []string{"a", "b", "c"}, Cached: fillPuts(3, 3), Writes: writes}
		results := callDevFunctions(d)
		var before []impl.Dev
		for _, result := range results {
			before = append(before, copyDisk(result))
		}
		scribble(d)
		for i := range results {
			if !sameDisk(results[i], before[i]) {
				t.Fatalf("writing into the argument changed result %d", i)
			}
		}
	}
}

func TestDevOfNilAndEmptyLists(t *testing.T) {
	empty := impl.Dev{Sectors: []string{"a"}, Cached: []impl.Put{}, Writes: 1}
	none := impl.Dev{Sectors: []string{"a"}, Writes: 1}
	first, second := callDevFunctions(empty), callDevFunctions(none)
	for i := range first {
		checkDisk(t, "call "+impl.Dec(i), first[i], true, second[i], true)
	}
	checkRead(t, empty, 0, "a", true)
	checkRead(t, none, 0, "a", true)
}
