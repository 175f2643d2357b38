package tests

import (
	"math"
	"slices"
	"sort"
	"strings"
	"testing"

	"loop.example/g00950/impl"
)

// wrappedZero is what OpenSSL's chacha20 makes of 32 zero bytes under the zero key, with the counter 0 and the nonce of kind 1 and number 9.
const wrappedZero = "b4321218fcc216c921c1ddbb11bb156dd74190f3350603964cb5fc6f59ac6f44"

// keyBytes returns a string of this length that no other first byte gives.
func keyBytes(first byte, length int) string {
	b := make([]byte, length)
	for i := range b {
		b[i] = first + byte(i*11)
	}
	return string(b)
}

// key32 returns a key; different arguments give different keys.
func key32(first byte) string { return keyBytes(first, 32) }

// slotsFor returns a slot for each tenant, with a key of its own.
func slotsFor(tenants ...int) []impl.KeySlot {
	var list []impl.KeySlot
	for _, tenant := range tenants {
		list = append(list, impl.KeySlot{Tenant: tenant, Key: key32(byte(tenant))})
	}
	return list
}

// devFor returns a device with a slot for each tenant.
func devFor(wiped int, tenants ...int) impl.KeyDev {
	return impl.KeyDev{Master: key32(200), Slots: slotsFor(tenants...), Wiped: wiped}
}

// sameDev compares field by field; a nil and an empty list are the same.
func sameDev(a, b impl.KeyDev) bool {
	return a.Master == b.Master && slices.Equal(a.Slots, b.Slots) && a.Wiped == b.Wiped
}

// showDev tells a device in printable bytes.
func showDev(d impl.KeyDev) string {
	out := "{master " + impl.Hex(d.Master) + ", wiped " + impl.Dec(d.Wiped)
	for _, slot := range d.Slots {
		out += ", " + impl.Dec(slot.Tenant) + " has " + impl.Hex(slot.Key)
	}
	return out + "}"
}

func checkDev(t *testing.T, what string, got impl.KeyDev, gotOk bool, want impl.KeyDev, wantOk bool) {
	t.Helper()
	if gotOk != wantOk || !sameDev(got, want) {
		t.Errorf("%s = %s, %v, want %s, %v", what, showDev(got), gotOk, showDev(want), wantOk)
	}
}

// tenantsOf lists the tenants of the slots, in the order of the slots.
func tenantsOf(d impl.KeyDev) []int {
	var list []int
	for _, slot := range d.Slots {
		list = append(list, slot.Tenant)
	}
	return list
}

// validDevs lists devices that lie at the limits from inside.
func validDevs() []impl.KeyDev {
	return []impl.KeyDev{
		devFor(0),
		{Master: key32(200), Slots: []impl.KeySlot{}},
		devFor(1),
		devFor(999999, 5),
		devFor(impl.MaxNumber),
		devFor(impl.MaxNumber, 1, 2, 98, 99),
		devFor(0, 1),
		devFor(0, 99),
		devFor(0, 1, 99),
		devFor(0, 1, 2, 3, 4),
		{Master: strings.Repeat("\x00", 32), Slots: []impl.KeySlot{{Tenant: 7, Key: strings.Repeat("\x00", 32)}}},
		{Master: strings.Repeat("\xff", 32), Slots: []impl.KeySlot{{Tenant: 7, Key: strings.Repeat("\xff", 32)}}},
		// The master and two tenants may have one and the same key.
		{Master: key32(1), Slots: []impl.KeySlot{{Tenant: 7, Key: key32(1)}, {Tenant: 8, Key: key32(1)}}},
		// Lengths count bytes: 16 runes of two bytes are 32.
		{Master: strings.Repeat("\u00e9", 16), Slots: []impl.KeySlot{{Tenant: 7, Key: strings.Repeat("\u00e9", 16)}}},
	}
}

// invalidDevs lists devices that are not as the document states; some of them would be after the slot of tenant 5 is gone.
func invalidDevs() []impl.KeyDev {
	list := []impl.KeyDev{
		{},
		devFor(0, 5, 5),
		devFor(0, 5, 4),
		devFor(0, 4, 5, 5),
		devFor(0, 5, 6, 7, 6),
		devFor(0, 7, 5, 6),
		devFor(0, 1, 2, 3, 4, 5),
		devFor(0, 0),
		devFor(0, 0, 5),
		devFor(0, -1, 5),
		devFor(0, math.MinInt, 5),
		devFor(0, 5, 100),
		devFor(0, 5, math.MaxInt),
		devFor(-1, 5),
		devFor(math.MinInt, 5),
		devFor(impl.MaxNumber+1, 5),
		devFor(math.MaxInt, 5),
	}
	for _, length := range []int{0, 1, 31, 33, 64} {
		short := devFor(0, 5)
		short.Master = keyBytes(200, length)
		list = append(list, short)
		for at := range 3 {
			d := devFor(0, 4, 5, 6)
			d.Slots[at].Key = keyBytes(9, length)
			list = append(list, d)
		}
	}
	runes := devFor(0, 5)
	runes.Master = strings.Repeat("\u00e9", 32)
	return append(list, runes)
}

func TestKeyOk(t *testing.T) {
	for _, d := range validDevs() {
		if !impl.KeyOk(d) {
			t.Errorf("KeyOk(%s) = false", showDev(d))
		}
	}
	for _, d := range invalidDevs() {
		if impl.KeyOk(d) {
			t.Errorf("KeyOk(%s) = true", showDev(d))
		}
	}
}

func TestKeyAdd(t *testing.T) {
	for _, c := range []struct {
		before []int
		tenant int
		after  []int
	}{
		{nil, 1, []int{1}},
		{nil, 99, []int{99}},
		{[]int{5}, 4, []int{4, 5}},
		{[]int{5}, 6, []int{5, 6}},
		{[]int{5}, 1, []int{1, 5}},
		{[]int{5}, 99, []int{5, 99}},
		{[]int{4, 6}, 5, []int{4, 5, 6}},
		{[]int{10, 20, 30}, 1, []int{1, 10, 20, 30}},
		{[]int{10, 20, 30}, 15, []int{10, 15, 20, 30}},
		{[]int{10, 20, 30}, 25, []int{10, 20, 25, 30}},
		{[]int{10, 20, 30}, 31, []int{10, 20, 30, 31}},
	} {
		for _, wiped := range []int{0, 7, impl.MaxNumber} {
			got, ok := impl.KeyAdd(devFor(wiped, c.before...), c.tenant, key32(byte(c.tenant)))
			checkDev(t, "KeyAdd", got, ok, devFor(wiped, c.after...), true)
			if !impl.KeyOk(got) {
				t.Errorf("KeyAdd of %d to %v gives an invalid device", c.tenant, c.before)
			}
		}
	}
}

func TestKeyAddTakesAnyKeyOf32Bytes(t *testing.T) {
	for _, key := range []string{key32(5), key32(200), strings.Repeat("\x00", 32), strings.Repeat("\xff", 32), strings.Repeat("\u00e9", 16)} {
		got, ok := impl.KeyAdd(devFor(3, 5), 6, key)
		want := devFor(3, 5)
		want.Slots = append(want.Slots, impl.KeySlot{Tenant: 6, Key: key})
		checkDev(t, "KeyAdd", got, ok, want, true)
	}
}

func TestKeyAddRefuses(t *testing.T) {
	for _, c := range []struct {
		d      impl.KeyDev
		tenant int
		key    string
	}{
		{devFor(2, 5), 5, key32(5)},
		{devFor(2, 5), 5, key32(77)},
		{devFor(2, 4, 5, 6), 4, key32(77)},
		{devFor(2, 4, 5, 6), 6, key32(77)},
		{devFor(2, 5), 0, key32(77)},
		{devFor(2, 5), -1, key32(77)},
		{devFor(2, 5), 100, key32(77)},
		{devFor(2, 5), math.MinInt, key32(77)},
		{devFor(2, 5), math.MaxInt, key32(77)},
		{devFor(2, 5), 6, keyBytes(77, 31)},
		{devFor(2, 5), 6, keyBytes(77, 33)},
		{devFor(2, 5), 6, ""},
		{devFor(2), 6, ""},
		{devFor(2, 5), 6, strings.Repeat("\u00e9", 32)},
		{devFor(2, 1, 2, 3, 4), 5, key32(77)},
		{devFor(2, 6, 7, 8, 9), 5, key32(77)},
		{devFor(2, 1, 3, 5, 7), 4, key32(77)},
		{devFor(2, 1, 3, 5, 7), 5, key32(77)},
	} {
		got, ok := impl.KeyAdd(c.d, c.tenant, c.key)
		checkDev(t, "KeyAdd of tenant "+impl.Dec(c.tenant), got, ok, c.d, false)
	}
}

func TestKeyWipe(t *testing.T) {
	for _, c := range []struct {
		before []int
		tenant int
		after  []int
	}{
		{[]int{5}, 5, nil},
		{[]int{1}, 1, nil},
		{[]int{99}, 99, nil},
		{[]int{4, 5}, 4, []int{5}},
		{[]int{4, 5}, 5, []int{4}},
		{[]int{1, 2, 98, 99}, 1, []int{2, 98, 99}},
		{[]int{1, 2, 98, 99}, 2, []int{1, 98, 99}},
		{[]int{1, 2, 98, 99}, 98, []int{1, 2, 99}},
		{[]int{1, 2, 98, 99}, 99, []int{1, 2, 98}},
	} {
		for _, wiped := range []int{0, 1, 999999} {
			got, ok := impl.KeyWipe(devFor(wiped, c.before...), c.tenant)
			checkDev(t, "KeyWipe of tenant "+impl.Dec(c.tenant), got, ok, devFor(wiped+1, c.after...), true)
			if !impl.KeyOk(got) {
				t.Errorf("KeyWipe of %d from %v gives an invalid device", c.tenant, c.before)
			}
		}
	}
}

func TestKeyWipeRefuses(t *testing.T) {
	for _, c := range []struct {
		d      impl.KeyDev
		tenant int
	}{
		{devFor(0), 5},
		{devFor(0), 0},
		{devFor(3, 5), 4},
		{devFor(3, 5), 6},
		{devFor(3, 5), 0},
		{devFor(3, 5), -5},
		{devFor(3, 5), 100},
		{devFor(3, 5), math.MinInt},
		{devFor(3, 5), math.MaxInt},
		{devFor(3, 1, 2, 98, 99), 50},
		{devFor(impl.MaxNumber, 5), 5},
		{devFor(impl.MaxNumber, 4, 5, 6), 5},
		{devFor(impl.MaxNumber, 5), 6},
	} {
		got, ok := impl.KeyWipe(c.d, c.tenant)
		checkDev(t, "KeyWipe of tenant "+impl.Dec(c.tenant), got, ok, c.d, false)
	}
}

func TestKeyFunctionsOfAnInvalidDevice(t *testing.T) {
	for _, d := range invalidDevs() {
		for _, tenant := range []int{0, 1, 4, 5, 6, 7, 50, 99, 100} {
			added, ok := impl.KeyAdd(d, tenant, key32(77))
			checkDev(t, "KeyAdd to an invalid device", added, ok, impl.KeyDev{}, false)
			wiped, ok := impl.KeyWipe(d, tenant)
			checkDev(t, "KeyWipe of an invalid device", wiped, ok, impl.KeyDev{}, false)
			if key := impl.KeyOf(d, tenant); key != "" {
				t.Errorf("KeyOf(%s, %d) = %x, want the empty string", showDev(d), tenant, key)
			}
		}
		added, ok := impl.KeyAdd(d, 5, "")
		checkDev(t, "KeyAdd of no key to an invalid device", added, ok, impl.KeyDev{}, false)
	}
}

func TestKeyOf(t *testing.T) {
	d := devFor(2, 1, 2, 98, 99)
	for tenant := -2; tenant <= 102; tenant++ {
		want := ""
		if slices.Contains(tenantsOf(d), tenant) {
			want = key32(byte(tenant))
		}
		if got := impl.KeyOf(d, tenant); got != want {
			t.Errorf("KeyOf of tenant %d = %x, want %x", tenant, got, want)
		}
	}
	for _, d := range validDevs() {
		for _, slot := range d.Slots {
			if got := impl.KeyOf(d, slot.Tenant); got != slot.Key {
				t.Errorf("KeyOf(%s, %d) = %x", showDev(d), slot.Tenant, got)
			}
		}
		for _, tenant := range []int{0, 50, 100, math.MinInt, math.MaxInt} {
			if got := impl.KeyOf(d, tenant); got != "" {
				t.Errorf("KeyOf(%s, %d) = %x, want the empty string", showDev(d), tenant, got)
			}
		}
	}
}

// checkErased fails if the tenant or its key is found in the device, the unused capacity of its slots included.
func checkErased(t *testing.T, d impl.KeyDev, tenant int, key string) {
	t.Helper()
	if got := impl.KeyOf(d, tenant); got != "" {
		t.Errorf("KeyOf of the erased tenant %d = %x, want the empty string", tenant, got)
	}
	for i, slot := range d.Slots[:cap(d.Slots)] {
		if slot.Tenant == tenant || strings.Contains(slot.Key, key) {
			t.Errorf("slot %d of %d still holds the erased tenant %d", i, len(d.Slots), tenant)
		}
		if i >= len(d.Slots) && slot != (impl.KeySlot{}) {
			t.Errorf("the unused slot %d holds tenant %d with %x", i, slot.Tenant, slot.Key)
		}
	}
}

func TestErasedKey(t *testing.T) {
	for _, tenants := range [][]int{{5}, {5, 9}, {1, 5}, {3, 5, 9}, {1, 2, 5, 99}, {5, 6, 7, 8}, {1, 2, 3, 5}} {
		d := devFor(10, tenants...)
		erased, ok := impl.KeyWipe(d, 5)
		if !ok || erased.Wiped != 11 || len(erased.Slots) != len(tenants)-1 {
			t.Fatalf("KeyWipe of tenant 5 from %v = %s, %v", tenants, showDev(erased), ok)
		}
		checkErased(t, erased, 5, key32(5))
		for _, tenant := range tenants {
			if tenant != 5 && impl.KeyOf(erased, tenant) != key32(byte(tenant)) {
				t.Errorf("erasing tenant 5 of %v changed the key of tenant %d", tenants, tenant)
			}
		}
		again, ok := impl.KeyWipe(erased, 5)
		checkDev(t, "a second KeyWipe", again, ok, erased, false)
		checkErased(t, again, 5, key32(5))

		back, ok := impl.KeyAdd(erased, 5, key32(123))
		want := devFor(11, tenants...)
		want.Slots[slices.Index(tenants, 5)].Key = key32(123)
		checkDev(t, "KeyAdd of the erased tenant", back, ok, want, true)
		same, ok := impl.KeyAdd(erased, 5, key32(5))
		checkDev(t, "KeyAdd of the erased tenant with its old key", same, ok, devFor(11, tenants...), true)
	}
}

func TestErasedKeyMakesRoom(t *testing.T) {
	d, ok := impl.KeyWipe(devFor(0, 10, 20, 30, 40), 20)
	checkDev(t, "KeyWipe", d, ok, devFor(1, 10, 30, 40), true)
	d, ok = impl.KeyAdd(d, 50, key32(50))
	checkDev(t, "KeyAdd into the freed slot", d, ok, devFor(1, 10, 30, 40, 50), true)
	checkErased(t, d, 20, key32(20))
	d, ok = impl.KeyAdd(d, 20, key32(20))
	checkDev(t, "KeyAdd to the full device", d, ok, devFor(1, 10, 30, 40, 50), false)
}

func TestErasedKeyOfTwoTenants(t *testing.T) {
	// The key of one tenant goes, the equal key of the other one stays.
	d := devFor(0, 4, 5)
	d.Slots[0].Key = d.Slots[1].Key
	d, ok := impl.KeyWipe(d, 4)
	checkDev(t, "KeyWipe", d, ok, devFor(1, 5), true)
}

func TestWipedReachesItsLimit(t *testing.T) {
	d, ok := impl.KeyWipe(devFor(999999, 5, 6), 5)
	checkDev(t, "KeyWipe with Wiped 999999", d, ok, devFor(impl.MaxNumber, 6), true)
	full, ok := impl.KeyWipe(d, 6)
	checkDev(t, "KeyWipe with Wiped 1000000", full, ok, devFor(impl.MaxNumber, 6), false)
	if got := impl.KeyOf(full, 6); got != key32(6) {
		t.Errorf("KeyOf after the refused KeyWipe = %x", got)
	}
	more, ok := impl.KeyAdd(d, 5, key32(5))
	checkDev(t, "KeyAdd with Wiped 1000000", more, ok, devFor(impl.MaxNumber, 5, 6), true)
}

// modelDev is the device of a map from tenants to keys.
func modelDev(keys map[int]string, wiped int) impl.KeyDev {
	d := impl.KeyDev{Master: key32(200), Wiped: wiped}
	for tenant, key := range keys {
		d.Slots = append(d.Slots, impl.KeySlot{Tenant: tenant, Key: key})
	}
	sort.Slice(d.Slots, func(i, j int) bool { return d.Slots[i].Tenant < d.Slots[j].Tenant })
	return d
}

func TestKeyDeviceFollowsAMap(t *testing.T) {
	d, keys, wiped := devFor(0), map[int]string{}, 0
	tenants := []int{0, 1, 2, 3, 50, 98, 99, 100}
	number := uint32(1)
	for step := range 20000 {
		number = number*1664525 + 1013904223
		tenant, key := tenants[number>>29], key32(byte(number>>16))
		_, has := keys[tenant]
		var ok, want bool
		if number>>24&3 == 0 {
			d, ok = impl.KeyWipe(d, tenant)
			if want = has; want {
				delete(keys, tenant)
				wiped++
			}
		} else {
			d, ok = impl.KeyAdd(d, tenant, key)
			if want = !has && len(keys) < impl.MaxTen && tenant >= 1 && tenant <= 99; want {
				keys[tenant] = key
			}
		}
		if ok != want || !sameDev(d, modelDev(keys, wiped)) || !impl.KeyOk(d) {
			t.Fatalf("step %d with tenant %d: %s, %v, want %s, %v", step, tenant, showDev(d), ok, showDev(modelDev(keys, wiped)), want)
		}
		for _, tenant := range tenants {
			if impl.KeyOf(d, tenant) != keys[tenant] {
				t.Fatalf("step %d: KeyOf of tenant %d = %x, want %x", step, tenant, impl.KeyOf(d, tenant), keys[tenant])
			}
		}
	}
	if wiped < 1000 {
		t.Errorf("only %d slots were wiped", wiped)
	}
}

// callKeyFunctions returns a device from each function of the chapter and each way in which it ends.
func callKeyFunctions(d impl.KeyDev) []impl.KeyDev {
	var results []impl.KeyDev
	for _, tenant := range []int{0, 1, 5, 6, 7, 9, 99, 100} {
		for _, key := range []string{key32(88), ""} {
			added, _ := impl.KeyAdd(d, tenant, key)
			results = append(results, added)
		}
		wiped, _ := impl.KeyWipe(d, tenant)
		results = append(results, wiped)
		impl.KeyOf(d, tenant)
		impl.KeyOk(d)
	}
	return results
}

func TestKeyFunctionsShareNoMemory(t *testing.T) {
	for length := range 6 {
		for _, wiped := range []int{0, impl.MaxNumber, -1} {
			// The device uses the front of the memory; the rest is its unused capacity.
			memory := slotsFor(5, 6, 7, 8, 9, 60, 61, 62, 63)
			before := slices.Clone(memory)
			d := impl.KeyDev{Master: key32(200), Slots: memory[:length], Wiped: wiped}
			results := callKeyFunctions(d)
			if !slices.Equal(memory, before) {
				t.Fatalf("a call with %d slots wrote into its argument: %s", length, showDev(impl.KeyDev{Slots: memory}))
			}
			for i, result := range results {
				others := make([][]impl.KeySlot, len(results))
				for j := range results {
					others[j] = slices.Clone(results[j].Slots)
				}
				all := result.Slots[:cap(result.Slots)]
				for j := range all {
					all[j] = impl.KeySlot{Tenant: 42, Key: "written into the result"}
				}
				if !slices.Equal(memory, before) {
					t.Fatalf("writing into result %d of a call with %d slots changed the argument", i, length)
				}
				for j := range results {
					if j != i && !slices.Equal(results[j].Slots, others[j]) {
						t.Fatalf("writing into result %d of a call with %d slots changed result %d", i, length, j)
					}
				}
			}
		}
	}
}

func TestKeyResultsDoNotFollowTheArgument(t *testing.T) {
	for _, wiped := range []int{0, impl.MaxNumber} {
		d := devFor(wiped, 5, 7)
		results := callKeyFunctions(d)
		var before []impl.KeyDev
		for _, result := range results {
			before = append(before, impl.KeyDev{Master: result.Master, Slots: slices.Clone(result.Slots), Wiped: result.Wiped})
		}
		d.Slots[0], d.Slots[1] = impl.KeySlot{}, impl.KeySlot{}
		for i := range results {
			if !sameDev(results[i], before[i]) {
				t.Fatalf("writing into the argument changed result %d", i)
			}
		}
	}
}

// plainWrap follows the document's text, for valid arguments only.
func plainWrap(master string, n int, key string) string {
	hidden := plainStream(master, 0, plainNonce(1, n), key)
	return plainSummed(hidden)
}

// wrapKeys lists masters and keys, and wrapNumbers numbers, that Wrap accepts.
func wrapKeys() []string {
	return []string{key32(0), key32(1), key32(200), strings.Repeat("\x00", 32), strings.Repeat("\xff", 32), strings.Repeat("\u00e9", 16), "a" + strings.Repeat("\x00", 31)}
}

func wrapNumbers() []int {
	return []int{0, 1, 9, 255, 256, impl.MaxNumber, 1 << 32, impl.MaxVar - 1, impl.MaxVar}
}

func TestWrapAndUnwrap(t *testing.T) {
	for _, master := range wrapKeys() {
		for _, n := range wrapNumbers() {
			for _, key := range wrapKeys() {
				s := impl.Wrap(master, n, key)
				if want := plainWrap(master, n, key); s != want || len(s) != 36 {
					t.Fatalf("Wrap(%x, %d, %x) = %x, want %x", master, n, key, s, want)
				}
				back, ok := impl.Unwrap(master, n, s)
				if !ok || back != key {
					t.Fatalf("Unwrap(%x, %d, %x) = %x, %v, want %x", master, n, s, back, ok, key)
				}
				if again := impl.Wrap(master, n, back); again != s {
					t.Fatalf("the unwrapped key wraps to %x, not to %x", again, s)
				}
			}
		}
	}
}

func TestWrapOfAFixedExample(t *testing.T) {
	zero := strings.Repeat("\x00", 32)
	hidden, _ := impl.Unhex(wrappedZero)
	if got := impl.Wrap(zero, 9, zero); len(got) != 36 || got[4:] != hidden || got[:4] != impl.Fixed(plainCrc(hidden), 4) {
		t.Errorf("Wrap of the zero key = %x", got)
	}
}

func TestWrapTellsMasterNumberAndKey(t *testing.T) {
	seen := map[string]bool{}
	count := 0
	for _, master := range wrapKeys() {
		for _, n := range wrapNumbers() {
			for _, key := range wrapKeys() {
				seen[impl.Wrap(master, n, key)] = true
				count++
			}
		}
	}
	if len(seen) != count {
		t.Errorf("%d masters, numbers and keys wrap to %d strings", count, len(seen))
	}
}

func TestUnwrapOfAnotherMasterOrNumber(t *testing.T) {
	// The checksum covers the hidden bytes alone, so another master finds a key too: the one that it wraps to this string.
	s := impl.Wrap(key32(1), 9, key32(2))
	for _, master := range wrapKeys() {
		for _, n := range wrapNumbers() {
			key, ok := impl.Unwrap(master, n, s)
			if !ok || impl.Wrap(master, n, key) != s {
				t.Errorf("Unwrap(%x, %d) = %x, %v, which does not wrap to the same string", master, n, key, ok)
			}
			if (key == key32(2)) != (master == key32(1) && n == 9) {
				t.Errorf("Unwrap(%x, %d) = %x", master, n, key)
			}
		}
	}
}

// checkNoKey fails if Unwrap accepts s.
func checkNoKey(t *testing.T, master string, n int, s string) {
	t.Helper()
	if key, ok := impl.Unwrap(master, n, s); ok || key != "" {
		t.Errorf("Unwrap(%x, %d, %x) = %x, %v, want nothing", master, n, s, key, ok)
	}
}

func TestUnwrapOfEveryChangedByte(t *testing.T) {
	for _, n := range []int{0, 9, impl.MaxVar} {
		s := impl.Wrap(key32(1), n, key32(2))
		for at := range len(s) {
			for step := 1; step < 256; step++ {
				b := []byte(s)
				b[at] += byte(step)
				checkNoKey(t, key32(1), n, string(b))
			}
		}
	}
}

func TestUnwrapOfOtherLengths(t *testing.T) {
	s := impl.Wrap(key32(1), 9, key32(2))
	for length := range 36 {
		checkNoKey(t, key32(1), 9, s[:length])
		checkNoKey(t, key32(1), 9, s[36-length:])
	}
	for _, more := range []string{"\x00", "x", "\xff", s} {
		checkNoKey(t, key32(1), 9, s+more)
		checkNoKey(t, key32(1), 9, more+s)
	}
	// These have the right checksum in front, but the key would not have 32 bytes.
	for _, length := range []int{0, 1, 31, 33, 64} {
		hidden := keyBytes(3, length)
		checkNoKey(t, key32(1), 9, impl.Fixed(impl.Crc(hidden), 4)+hidden)
	}
	hidden := key32(3)
	if key, ok := impl.Unwrap(key32(1), 9, impl.Fixed(impl.Crc(hidden), 4)+hidden); !ok || len(key) != 32 {
		t.Errorf("Unwrap of 32 bytes with their checksum = %x, %v", key, ok)
	}
	checkNoKey(t, key32(1), 9, hidden+impl.Fixed(impl.Crc(hidden), 4))
}

func TestWrapAtItsLimits(t *testing.T) {
	s := impl.Wrap(key32(1), 9, key32(2))
	for _, length := range []int{0, 1, 31, 33, 64} {
		if got := impl.Wrap(keyBytes(1, length), 9, key32(2)); got != "" {
			t.Errorf("Wrap under a master of %d bytes = %x, want the empty string", length, got)
		}
		if got := impl.Wrap(key32(1), 9, keyBytes(2, length)); got != "" {
			t.Errorf("Wrap of a key of %d bytes = %x, want the empty string", length, got)
		}
		if got := impl.Wrap(keyBytes(1, length), -1, keyBytes(2, length)); got != "" {
			t.Errorf("Wrap of nothing valid = %x, want the empty string", got)
		}
		checkNoKey(t, keyBytes(1, length), 9, s)
		checkNoKey(t, keyBytes(1, length), 9, "")
	}
	for _, n := range []int{-1, impl.MaxVar + 1, 1<<56 - 1, 1 << 56, math.MinInt, math.MaxInt} {
		if got := impl.Wrap(key32(1), n, key32(2)); got != "" {
			t.Errorf("Wrap with the number %d = %x, want the empty string", n, got)
		}
		checkNoKey(t, key32(1), n, s)
		checkNoKey(t, key32(1), n, "")
	}
	for _, n := range []int{0, impl.MaxVar} {
		if got := impl.Wrap(key32(1), n, key32(2)); len(got) != 36 {
			t.Errorf("Wrap with the number %d has %d bytes", n, len(got))
		}
	}
}

func TestKeysOfTheDeviceWrap(t *testing.T) {
	d := devFor(0, 1, 2, 98, 99)
	for _, slot := range d.Slots {
		s := impl.Wrap(d.Master, slot.Tenant, impl.KeyOf(d, slot.Tenant))
		if key, ok := impl.Unwrap(d.Master, slot.Tenant, s); !ok || key != slot.Key {
			t.Errorf("the key of tenant %d unwraps to %x, %v", slot.Tenant, key, ok)
		}
	}
	if got := impl.Wrap(d.Master, 50, impl.KeyOf(d, 50)); got != "" {
		t.Errorf("Wrap of a key that is not there = %x, want the empty string", got)
	}
}
