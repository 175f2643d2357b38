package tests

import (
	"math"
	"runtime"
	"slices"
	"strings"
	"sync"
	"testing"
	"time"

	"loop.example/g00950/impl"
)

const mergeLimit = 400

func plainMergeable(lists ...[]impl.Ent) bool {
	total := 0
	for _, l := range lists {
		if !plainInOrder(l) {
			return false
		}
		total += len(l)
	}
	return total <= mergeLimit
}

func samePlace(a, b impl.Ent) bool { return a.Key == b.Key && a.Seq == b.Seq }

// plainMerge takes one entry after another, but for those whose key and number it has.
func plainMerge(lists [][]impl.Ent) []impl.Ent {
	if !plainMergeable(lists...) {
		return nil
	}
	var all []impl.Ent
	for _, e := range slices.Concat(lists...) {
		if !slices.ContainsFunc(all, func(other impl.Ent) bool { return samePlace(e, other) }) {
			all = append(all, e)
		}
	}
	return plainOrder(all)
}

// plainCompact asks for each key what is returned at each number.
func plainCompact(l []impl.Ent, snaps []int, bottom bool) []impl.Ent {
	if !plainMergeable(l) {
		return nil
	}
	var kept []impl.Ent
	for _, key := range slices.Compact(keysIn(l)) {
		var found []impl.Ent
		for _, seq := range slices.Concat(snaps, []int{seqLimit + 1}) {
			e, ok := plainGet(l, key, seq)
			if ok && !slices.Contains(found, e) {
				found = append(found, e)
			}
		}
		found = plainOrder(found)
		for bottom && len(found) > 0 && found[len(found)-1].Del {
			found = found[:len(found)-1]
		}
		kept = append(kept, found...)
	}
	return kept
}

func plainSeen(l []impl.Ent, snaps []int) [][]impl.KV {
	if !plainMergeable(l) {
		return nil
	}
	var seen [][]impl.KV
	for _, seq := range slices.Concat(snaps, []int{seqLimit}) {
		seen = append(seen, plainRange(l, "", "", seq))
	}
	return seen
}

func sameMaps(a, b [][]impl.KV) bool { return slices.EqualFunc(a, b, slices.Equal[[]impl.KV]) }

func sameLists(a, b [][]impl.Ent) bool { return slices.EqualFunc(a, b, slices.Equal[[]impl.Ent]) }

func cloneLists(lists [][]impl.Ent) [][]impl.Ent {
	var out [][]impl.Ent
	for _, l := range lists {
		out = append(out, slices.Clone(l))
	}
	return out
}

func cloneMaps(maps [][]impl.KV) [][]impl.KV {
	var out [][]impl.KV
	for _, m := range maps {
		out = append(out, slices.Clone(m))
	}
	return out
}

func checkMerge(t *testing.T, lists [][]impl.Ent, want []impl.Ent) {
	t.Helper()
	if got := impl.MergeEnts(lists); !slices.Equal(got, want) {
		t.Errorf("MergeEnts(%#v) = %#v, want %#v", lists, got, want)
	}
}

func checkCompact(t *testing.T, l []impl.Ent, snaps []int, bottom bool, want []impl.Ent) {
	t.Helper()
	if got := impl.CompactEnts(l, snaps, bottom); !slices.Equal(got, want) {
		t.Errorf("CompactEnts(%#v, %d, %v) = %#v, want %#v", l, snaps, bottom, got, want)
	}
}

func checkSeen(t *testing.T, l []impl.Ent, snaps []int, want [][]impl.KV) {
	t.Helper()
	if got := impl.SeenAt(l, snaps); !sameMaps(got, want) {
		t.Errorf("SeenAt(%#v, %d) = %q, want %q", l, snaps, got, want)
	}
}

// checkCompacted holds CompactEnts and SeenAt of entries, which may be invalid, against what the tests take for right, and what is seen of the compacted ones against what is seen of all.
func checkCompacted(t *testing.T, l []impl.Ent, snaps []int) {
	t.Helper()
	seen := plainSeen(l, snaps)
	checkSeen(t, l, snaps, seen)
	for _, bottom := range []bool{false, true} {
		checkCompact(t, l, snaps, bottom, plainCompact(l, snaps, bottom))
		if seen != nil {
			checkSeen(t, impl.CompactEnts(l, snaps, bottom), snaps, seen)
		}
	}
}

// checkMerged holds MergeEnts of lists, which may be invalid, against what the tests take for right, and compacts what it returns.
func checkMerged(t *testing.T, lists [][]impl.Ent, snaps []int) {
	t.Helper()
	want := plainMerge(lists)
	checkMerge(t, lists, want)
	checkCompacted(t, want, snaps)
}

// dealt deals entries that are in order out to so many lists; which one an entry gets is told by its place.
func dealt(l []impl.Ent, count int, to func(at int) int) [][]impl.Ent {
	lists := make([][]impl.Ent, count)
	for at, e := range l {
		list := to(at)
		lists[list] = append(lists[list], e)
	}
	return lists
}

// disordered lists entries each of which are not in order for one reason.
func disordered() [][]impl.Ent {
	list := slices.DeleteFunc(invalidMems(), plainInOrder)
	for _, at := range []int{0, 1, 61, 149, 197, 198} {
		exchanged := manyEnts(200)
		exchanged[at], exchanged[at+1] = exchanged[at+1], exchanged[at]
		twice := slices.Insert(manyEnts(199), at, manyEnts(200)[at])
		list = append(list, exchanged, twice)
	}
	for _, e := range invalidEnts() {
		list = append(list, plainOrder(append(manyEnts(120), e)))
	}
	return list
}

// ordered lists entries that are in order.
func ordered() [][]impl.Ent {
	return append(slices.DeleteFunc(tableLists(), func(l []impl.Ent) bool { return len(l) > 30 }), nil, []impl.Ent{}, manyEnts(60), manyEnts(61), manyEnts(130), versionsOf("k", 150, 3))
}

func TestMergeEntsOfFixedExamples(t *testing.T) {
	a := entsFor(setEnt("a", 5, "a5"), setEnt("c", 2, "c2"))
	b := entsFor(setEnt("a", 7, "a7"), delEnt("b", 1), setEnt("c", 1, "c1"))
	c := entsFor(delEnt("a", 6), setEnt("ab", 9, ""), setEnt("c", 3, "c3"))
	again := entsFor(delEnt("a", 5), setEnt("b", 1, "b1"), setEnt("c", 2, "other"))
	for _, x := range []struct {
		lists [][]impl.Ent
		want  []impl.Ent
	}{
		// No list, one list, and empty lists among others.
		{nil, nil},
		{[][]impl.Ent{}, nil},
		{[][]impl.Ent{nil}, nil},
		{[][]impl.Ent{{}}, nil},
		{[][]impl.Ent{nil, {}, nil}, nil},
		{[][]impl.Ent{a}, a},
		{[][]impl.Ent{b}, b},
		{[][]impl.Ent{nil, a}, a},
		{[][]impl.Ent{a, nil}, a},
		{[][]impl.Ent{{}, nil, a, {}, nil, {}}, a},
		// Lists that share no entry.
		{[][]impl.Ent{a, b}, entsFor(b[0], a[0], b[1], a[1], b[2])},
		{[][]impl.Ent{b, a}, entsFor(b[0], a[0], b[1], a[1], b[2])},
		{[][]impl.Ent{nil, a, {}, b, nil}, entsFor(b[0], a[0], b[1], a[1], b[2])},
		{[][]impl.Ent{a, c}, entsFor(c[0], a[0], c[1], c[2], a[1])},
		{[][]impl.Ent{a, b, c}, entsFor(b[0], c[0], a[0], c[1], b[1], c[2], a[1], b[2])},
		{[][]impl.Ent{c, a, b}, entsFor(b[0], c[0], a[0], c[1], b[1], c[2], a[1], b[2])},
		// One list ahead of another.
		{[][]impl.Ent{{a[0]}, {a[1]}}, a},
		{[][]impl.Ent{{a[1]}, {a[0]}}, a},
		{[][]impl.Ent{{c[2]}, {c[1]}, {c[0]}}, c},
		{[][]impl.Ent{{setEnt("k", 1, "x")}, {setEnt("k", 2, "x")}}, entsFor(setEnt("k", 2, "x"), setEnt("k", 1, "x"))},
		// Entries that two or three lists contain.
		{[][]impl.Ent{a, a}, a},
		{[][]impl.Ent{a, a, a}, a},
		{[][]impl.Ent{a, again}, entsFor(a[0], again[1], a[1])},
		{[][]impl.Ent{again, a}, again},
		{[][]impl.Ent{a, b, again}, entsFor(b[0], a[0], b[1], a[1], b[2])},
		{[][]impl.Ent{b, again, a}, entsFor(b[0], again[0], b[1], again[2], b[2])},
		{[][]impl.Ent{again, b, a}, entsFor(b[0], again[0], again[1], again[2], b[2])},
		{[][]impl.Ent{nil, again, {}, a, b}, entsFor(b[0], again[0], again[1], again[2], b[2])},
		// Equal keys with other numbers and equal numbers with other keys are no equal entries.
		{[][]impl.Ent{{setEnt("k", 5, "x")}, {setEnt("k", 6, "x")}, {setEnt("k\x00", 5, "x")}}, entsFor(setEnt("k", 6, "x"), setEnt("k", 5, "x"), setEnt("k\x00", 5, "x"))},
	} {
		checkMerge(t, x.lists, x.want)
	}
}

// differing lists entries with one key and number that differ in the other fields.
func differing() []impl.Ent {
	return entsFor(setEnt("k", 5, "x"), setEnt("k", 5, "y"), delEnt("k", 5), setEnt("k", 5, ""), setEnt("k", 5, "0123456789abcdef"))
}

// A list that has none of the equal entries has one of its own.
func TestTheFirstOfEqualEntriesStands(t *testing.T) {
	kinds := differing()
	for count := 1; count <= 6; count++ {
		for have := 1; have < 1<<count; have++ {
			for shift := range kinds {
				var lists [][]impl.Ent
				var want []impl.Ent
				first := -1
				for at := range count {
					own := setEnt("j", 100-at, "own")
					if have>>at&1 == 0 {
						lists = append(lists, entsFor(own))
						want = append(want, own)
						continue
					}
					lists = append(lists, entsFor(kinds[(at+shift)%len(kinds)]))
					if first < 0 {
						first = at
					}
				}
				checkMerge(t, lists, append(want, kinds[(first+shift)%len(kinds)]))
			}
		}
	}
}

func TestEqualEntriesBetweenOthers(t *testing.T) {
	kinds := differing()
	for i, one := range kinds {
		for j, other := range kinds {
			a := entsFor(setEnt("j", 1, "j"), setEnt("k", 6, "new"), one, setEnt("l", 9, "l"))
			b := entsFor(delEnt("j\xff", 5), other, setEnt("k", 4, "old"), setEnt("k\x00", 5, "x"))
			checkMerge(t, [][]impl.Ent{a, b}, entsFor(a[0], b[0], a[1], kinds[i], b[2], b[3], a[3]))
			checkMerge(t, [][]impl.Ent{b, a}, entsFor(a[0], b[0], a[1], kinds[j], b[2], b[3], a[3]))
			for _, third := range kinds {
				checkMerge(t, [][]impl.Ent{a, b, {third}}, entsFor(a[0], b[0], a[1], kinds[i], b[2], b[3], a[3]))
				checkMerge(t, [][]impl.Ent{b, {third}, a}, entsFor(a[0], b[0], a[1], kinds[j], b[2], b[3], a[3]))
				checkMerge(t, [][]impl.Ent{{third}, nil, a, {}, b}, entsFor(a[0], b[0], a[1], third, b[2], b[3], a[3]))
			}
		}
	}
}

// labelled lists all lists of some of these entries, which are in order; their values tell the list that has them.
func labelled(l []impl.Ent, label string) [][]impl.Ent {
	lists := make([][]impl.Ent, 1<<len(l))
	for chosen := range lists {
		for at, e := range l {
			if chosen>>at&1 == 1 {
				if !e.Del {
					e.Val = label
				}
				lists[chosen] = append(lists[chosen], e)
			}
		}
	}
	return lists
}

func TestMergeEntsOfAllSmallLists(t *testing.T) {
	a := labelled(entsFor(setEnt("a", 2, ""), setEnt("a", 1, ""), setEnt("b", 1, "")), "first")
	b := labelled(entsFor(setEnt("a", 2, ""), delEnt("a", 1), setEnt("b", 1, "")), "second")
	c := labelled(entsFor(delEnt("a", 2), setEnt("a", 1, ""), setEnt("b", 1, "")), "third")
	d := labelled(entsFor(setEnt("a", 2, ""), setEnt("a", 1, ""), delEnt("b", 1)), "fourth")
	for _, one := range a {
		for _, two := range b {
			checkMerge(t, [][]impl.Ent{one, two}, plainMerge([][]impl.Ent{one, two}))
			for _, three := range c {
				for _, four := range d {
					lists := [][]impl.Ent{one, two, three, four}
					checkMerge(t, lists, plainMerge(lists))
				}
			}
		}
	}
}

func TestMergeEntsAtItsLimits(t *testing.T) {
	for _, total := range []int{1, 59, 60, 61, 120, 200, 399, 400, 401, 402, 500, 1000} {
		l := manyEnts(total)
		want := l
		if total > 400 {
			want = nil
		}
		checkMerge(t, [][]impl.Ent{l}, want)
		checkMerge(t, [][]impl.Ent{nil, l, {}}, want)
		checkMerge(t, [][]impl.Ent{l[:1], l[1:]}, want)
		checkMerge(t, [][]impl.Ent{l[total-1:], l[:total-1]}, want)
		checkMerge(t, dealt(l, total, func(at int) int { return at }), want)
		checkMerge(t, dealt(l, total, func(at int) int { return total - 1 - at }), want)
		checkMerge(t, dealt(l, 3*total, func(at int) int { return 3 * at }), want)
		for _, count := range []int{2, 3, 7, 60} {
			checkMerge(t, dealt(l, count, func(at int) int { return at % count }), want)
			checkMerge(t, dealt(l, count, func(at int) int { return at * count / total }), want)
			checkMerge(t, dealt(l, count, func(at int) int { return count - 1 - at*count/total }), want)
		}
	}
}

func TestEqualEntriesCountEachTime(t *testing.T) {
	l := manyEnts(400)
	checkMerge(t, [][]impl.Ent{l[:200], l[:200]}, l[:200])
	checkMerge(t, [][]impl.Ent{l[:201], l[:200]}, nil)
	checkMerge(t, [][]impl.Ent{l[:200], l[:201]}, nil)
	checkMerge(t, [][]impl.Ent{l[:399], l[:1]}, l[:399])
	checkMerge(t, [][]impl.Ent{l, l[:1]}, nil)
	checkMerge(t, [][]impl.Ent{l[399:], l}, nil)
	checkMerge(t, [][]impl.Ent{l, l}, nil)
	checkMerge(t, [][]impl.Ent{l[:133], l[:133], l[:134]}, l[:134])
	checkMerge(t, [][]impl.Ent{l[:134], l[:134], l[:133]}, nil)
	var lists [][]impl.Ent
	for i := range 400 {
		lists = append(lists, entsFor(setEnt("k", 5, impl.Dec(i))))
	}
	checkMerge(t, lists, entsFor(setEnt("k", 5, "0")))
	checkMerge(t, lists[1:], entsFor(setEnt("k", 5, "1")))
	checkMerge(t, append(lists, nil, nil), entsFor(setEnt("k", 5, "0")))
	checkMerge(t, append(lists, entsFor(setEnt("k", 5, "400"))), nil)
	checkMerge(t, append(lists, entsFor(delEnt("k", 4))), nil)
}

func TestMergeEntsOfManyEmptyLists(t *testing.T) {
	lists := make([][]impl.Ent, 100000)
	checkMerge(t, lists, nil)
	want := manyEnts(400)
	for i, e := range want {
		lists[99999-249*i] = entsFor(e)
	}
	if got := impl.MergeEnts(lists); !slices.Equal(got, want) {
		t.Errorf("400 entries among many empty lists are merged to %#v", got)
	}
}

func TestMergeEntsOfAListThatIsNotInOrder(t *testing.T) {
	others := [][]impl.Ent{versionedKeys(), nil, entsFor(setEnt("a", 1, "x")), manyEnts(61), {}}
	for _, l := range disordered() {
		checkMerge(t, [][]impl.Ent{l}, nil)
		checkMerge(t, [][]impl.Ent{l, l}, nil)
		for count := range len(others) + 1 {
			for at := range count + 1 {
				checkMerge(t, slices.Insert(slices.Clone(others[:count]), at, l), nil)
			}
		}
		// Invalid for two reasons.
		checkMerge(t, [][]impl.Ent{manyEnts(400), l}, nil)
		checkMerge(t, [][]impl.Ent{l, manyEnts(401)}, nil)
	}
}

// What is out of order in one list is in order when each of its entries is a list.
func TestMergeEntsOrdersWhatIsDisorderedAcrossLists(t *testing.T) {
	for _, l := range ordered() {
		backward := slices.Clone(l)
		slices.Reverse(backward)
		checkMerge(t, dealt(backward, len(l), func(at int) int { return at }), l)
	}
}

func TestMergeEntsOfOneList(t *testing.T) {
	for _, l := range ordered() {
		checkMerge(t, [][]impl.Ent{l}, l)
		checkMerge(t, [][]impl.Ent{l, l}, l)
		checkMerge(t, [][]impl.Ent{nil, l, nil, l[:len(l)/2]}, l)
	}
}

// thrownLists deals entries out to so many lists, each of which is in order.
func thrownLists(throw func(below int) int, written []impl.Ent, count int) [][]impl.Ent {
	return dealt(plainOrder(written), count, func(int) int { return throw(count) })
}

func TestMergedListsShowAllEntries(t *testing.T) {
	throw := dice(15)
	for _, c := range thrownKinds() {
		for count := 1; count <= 8; count++ {
			written := thrownEnts(throw, c.keys, c.count, c.seqs)
			lists := thrownLists(throw, written, count)
			checkMerge(t, lists, plainOrder(written))
			checkSeen(t, impl.MergeEnts(lists), nearSeqs(written), plainSeen(plainOrder(written), nearSeqs(written)))
		}
	}
}

func TestMergeEntsIsTheSameEachTime(t *testing.T) {
	var lists [][]impl.Ent
	for i := range 8 {
		l := manyEnts(50)
		for at := range l {
			l[at].Del, l[at].Val = i == 5, strings.Repeat("v", i)
			if i == 5 {
				l[at].Val = ""
			}
		}
		lists = append(lists, l[7*i%5:])
	}
	want := plainMerge(lists)
	for range 2000 {
		checkMerge(t, lists, want)
	}
	var group sync.WaitGroup
	for range 8 {
		group.Go(func() {
			for range 200 {
				checkMerge(t, lists, want)
			}
		})
	}
	group.Wait()
}

func TestMergeEntsLeavesNoGoroutine(t *testing.T) {
	before := runtime.NumGoroutine()
	for _, lists := range [][][]impl.Ent{nil, {manyEnts(3)}, {manyEnts(60), versionedKeys(), nil, manyEnts(7)}, {disordered()[0]}, {manyEnts(401)}} {
		for range 100 {
			impl.MergeEnts(lists)
		}
	}
	// A goroutine that has nothing left to do is counted until it has ended.
	for range 1000 {
		if runtime.NumGoroutine() <= before {
			return
		}
		time.Sleep(time.Millisecond)
	}
	t.Errorf("%d goroutines after the calls, %d before", runtime.NumGoroutine(), before)
}

// changes is a key that is set and deleted in turn.
func changes() []impl.Ent {
	return entsFor(setEnt("k", 9, "9"), delEnt("k", 7), setEnt("k", 5, "5"), delEnt("k", 3), setEnt("k", 1, "1"))
}

// deletions is a key whose newest entries are deletions, as its oldest one is.
func deletions() []impl.Ent {
	return entsFor(delEnt("k", 9), delEnt("k", 7), setEnt("k", 5, "5"), delEnt("k", 3))
}

// withSeqs returns the entries with these numbers.
func withSeqs(l []impl.Ent, seqs []int) []impl.Ent {
	return slices.DeleteFunc(slices.Clone(l), func(e impl.Ent) bool { return !slices.Contains(seqs, e.Seq) })
}

// checkKept tells which versions of a key remain, and with the bottom set; once alone and once between other keys.
func checkKept(t *testing.T, l []impl.Ent, snaps []int, kept []int, bottom []int) {
	t.Helper()
	before, after := entsFor(setEnt("j", 6, "j")), entsFor(setEnt("k\x00", 2, ""), setEnt("l", 8, "l"))
	between := slices.Concat(before, l, after)
	checkCompact(t, l, snaps, false, withSeqs(l, kept))
	checkCompact(t, l, snaps, true, withSeqs(l, bottom))
	checkCompact(t, between, snaps, false, slices.Concat(before, withSeqs(l, kept), after))
	checkCompact(t, between, snaps, true, slices.Concat(before, withSeqs(l, bottom), after))
	checkCompacted(t, l, snaps)
	checkCompacted(t, between, snaps)
}

func TestCompactEntsOfFixedExamples(t *testing.T) {
	for _, c := range []struct {
		snaps  []int
		kept   []int
		bottom []int
	}{
		{nil, []int{9}, []int{9}},
		{[]int{}, []int{9}, []int{9}},
		// A snapshot at, above and below each number.
		{[]int{11}, []int{9}, []int{9}},
		{[]int{10}, []int{9}, []int{9}},
		{[]int{9}, []int{9}, []int{9}},
		{[]int{8}, []int{9, 7}, []int{9}},
		{[]int{7}, []int{9, 7}, []int{9}},
		{[]int{6}, []int{9, 5}, []int{9, 5}},
		{[]int{5}, []int{9, 5}, []int{9, 5}},
		{[]int{4}, []int{9, 3}, []int{9}},
		{[]int{3}, []int{9, 3}, []int{9}},
		{[]int{2}, []int{9, 1}, []int{9, 1}},
		{[]int{1}, []int{9, 1}, []int{9, 1}},
		{[]int{0}, []int{9}, []int{9}},
		{[]int{-1}, []int{9}, []int{9}},
		// Several.
		{[]int{7, 5}, []int{9, 7, 5}, []int{9, 7, 5}},
		{[]int{7, 3}, []int{9, 7, 3}, []int{9}},
		{[]int{7, 2}, []int{9, 7, 1}, []int{9, 7, 1}},
		{[]int{6, 4}, []int{9, 5, 3}, []int{9, 5}},
		{[]int{3, 1}, []int{9, 3, 1}, []int{9, 3, 1}},
		{[]int{8, 4, 0}, []int{9, 7, 3}, []int{9}},
		{[]int{8, 6, 4}, []int{9, 7, 5, 3}, []int{9, 7, 5}},
		{[]int{8, 6, 4, 2}, []int{9, 7, 5, 3, 1}, []int{9, 7, 5, 3, 1}},
	} {
		checkKept(t, changes(), c.snaps, c.kept, c.bottom)
	}
}

func TestADeletionThatASnapshotSees(t *testing.T) {
	for _, c := range []struct {
		what   string
		l      []impl.Ent
		snaps  []int
		kept   []int
		bottom []int
	}{
		{"no snapshot sees the deletion or what is older", changes()[:3], []int{9}, []int{9}, []int{9}},
		{"no snapshot sees the deletion, but one sees what is older", changes()[:3], []int{6}, []int{9, 5}, []int{9, 5}},
		{"it stays with an older entry that another snapshot sees", changes()[:3], []int{8, 6}, []int{9, 7, 5}, []int{9, 7, 5}},
		{"it is the oldest remaining one", changes()[:3], []int{8}, []int{9, 7}, []int{9}},
		{"it is the oldest one of all", changes()[:2], []int{8}, []int{9, 7}, []int{9}},
		{"a snapshot one below the deletion", changes(), []int{6}, []int{9, 5}, []int{9, 5}},
		{"a snapshot at the deletion", changes(), []int{7}, []int{9, 7}, []int{9}},
		{"a snapshot one above the deletion", changes(), []int{8}, []int{9, 7}, []int{9}},
		{"snapshots one below and at the deletion", changes(), []int{6, 7}, []int{9, 7, 5}, []int{9, 7, 5}},
		{"snapshots at and one above the deletion", changes(), []int{7, 8}, []int{9, 7}, []int{9}},
		{"the newest entry is a deletion", deletions(), nil, []int{9}, nil},
		{"a deletion behind the newest one", deletions(), []int{8}, []int{9, 7}, nil},
		{"the newest deletion and an older entry", deletions(), []int{6}, []int{9, 5}, []int{9, 5}},
		{"two deletions and an older entry", deletions(), []int{8, 6}, []int{9, 7, 5}, []int{9, 7, 5}},
		{"three deletions", deletions(), []int{8, 4}, []int{9, 7, 3}, nil},
		{"two deletions ahead of an entry and one behind it", deletions(), []int{8, 6, 4}, []int{9, 7, 5, 3}, []int{9, 7, 5}},
		{"deletions alone", versionsOf("k", 1, 9), nil, []int{9}, nil},
		{"two deletions alone", entsFor(delEnt("k", 9), delEnt("k", 4)), []int{5}, []int{9, 4}, nil},
		{"three deletions alone, the middle one unseen", entsFor(delEnt("k", 9), delEnt("k", 4), delEnt("k", 2)), []int{3}, []int{9, 2}, nil},
		{"a deletion at 0", entsFor(setEnt("k", 1, "x"), delEnt("k", 0)), []int{0}, []int{1, 0}, []int{1}},
		{"a deletion at 0 below every snapshot", entsFor(setEnt("k", 1, "x"), delEnt("k", 0)), []int{-1}, []int{1}, []int{1}},
		{"a deletion at the greatest number", entsFor(delEnt("k", seqLimit), setEnt("k", seqLimit-1, "x")), []int{seqLimit}, []int{seqLimit}, nil},
		{"a deletion at the greatest number, and a snapshot below", entsFor(delEnt("k", seqLimit), setEnt("k", seqLimit-1, "x")), []int{seqLimit - 1}, []int{seqLimit, seqLimit - 1}, []int{seqLimit, seqLimit - 1}},
	} {
		t.Run(c.what, func(t *testing.T) { checkKept(t, c.l, c.snaps, c.kept, c.bottom) })
	}
}

// A deletion that is the oldest entry of its key says nothing of the keys next to it.
func TestTheBottomOfSeveralKeys(t *testing.T) {
	l := entsFor(delEnt("a", 4), setEnt("a\x00", 3, "x"), delEnt("a\x00", 1), delEnt("b", 9), delEnt("b", 5), setEnt("b", 2, "b2"), delEnt("c", 6), delEnt("d", 8), setEnt("d", 7, "d7"))
	checkCompact(t, l, nil, false, entsFor(l[0], l[1], l[3], l[6], l[7]))
	checkCompact(t, l, nil, true, entsFor(l[1]))
	checkCompact(t, l, []int{5}, false, entsFor(l[0], l[1], l[3], l[4], l[6], l[7]))
	checkCompact(t, l, []int{5}, true, entsFor(l[1]))
	checkCompact(t, l, []int{7}, false, entsFor(l[0], l[1], l[3], l[4], l[6], l[7], l[8]))
	checkCompact(t, l, []int{7}, true, entsFor(l[1], l[7], l[8]))
	checkCompact(t, l, []int{2}, false, entsFor(l[0], l[1], l[2], l[3], l[5], l[6], l[7]))
	checkCompact(t, l, []int{2}, true, entsFor(l[1], l[3], l[5]))
	checkCompact(t, l, []int{2, 5}, true, entsFor(l[1], l[3], l[4], l[5]))
}

// someVersions lists all lists of versions of a key: for each number from 1 on none, a value or a deletion.
func someVersions(key string, most int) [][]impl.Ent {
	all := [][]impl.Ent{nil}
	for seq := 1; seq <= most; seq++ {
		for _, l := range all {
			all = append(all, slices.Concat(entsFor(setEnt(key, seq, impl.Dec(seq))), l), slices.Concat(entsFor(delEnt(key, seq)), l))
		}
	}
	return all
}

// someSnaps lists all ascending lists of numbers from 0 to below this one.
func someSnaps(below int) [][]int {
	all := [][]int{nil}
	for seq := range below {
		for _, snaps := range all {
			all = append(all, slices.Concat(snaps, []int{seq}))
		}
	}
	return all
}

func TestCompactEntsOfAllShortHistories(t *testing.T) {
	for _, l := range someVersions("k", 5) {
		for _, snaps := range someSnaps(7) {
			checkCompacted(t, l, snaps)
		}
	}
	for _, one := range someVersions("k", 3) {
		for _, other := range someVersions("k\x00", 3) {
			for _, snaps := range someSnaps(4) {
				checkCompacted(t, slices.Concat(one, other), snaps)
			}
		}
	}
}

func TestCompactEntsOfLongHistories(t *testing.T) {
	for _, l := range ordered() {
		seqs := nearSeqs(l)
		checkCompacted(t, l, nil)
		checkCompacted(t, l, seqs)
		checkCompact(t, l, seqs, false, l)
		for _, at := range []int{0, 1, 3, len(seqs) / 2, len(seqs) - 5, len(seqs) - 1} {
			checkCompacted(t, l, seqs[at:at+1])
			checkCompacted(t, l, seqs[:at])
		}
	}
}

// What the compacted entries return for each key at a snapshot is what all entries return, and at the bottom a deletion may be gone.
func TestMemGetOfCompactedEntries(t *testing.T) {
	for _, l := range [][]impl.Ent{versionedKeys(), changes(), deletions(), manyEnts(30), versionsOf("k", 30, 0)} {
		for _, snaps := range [][]int{nil, {4}, {7, 3}, {20, 1, 14}, {seqLimit - 1, 0}} {
			kept, bottom := impl.CompactEnts(l, snaps, false), impl.CompactEnts(l, snaps, true)
			for _, key := range nearKeys(l) {
				for _, seq := range slices.Concat(snaps, []int{seqLimit, math.MaxInt}) {
					want, found := plainGet(l, key, seq)
					checkMemGet(t, kept, key, seq, want, found)
					got, ok := impl.MemGet(bottom, key, seq)
					if got != want && (ok || !want.Del) {
						t.Errorf("MemGet(%#v, %q, %d) = %#v, %v, of all entries %#v", bottom, key, seq, got, ok, want)
					}
				}
			}
		}
	}
}

func TestSnapshotsInAnyOrder(t *testing.T) {
	for _, l := range [][]impl.Ent{nil, changes(), deletions(), versionedKeys(), manyEnts(70)} {
		for _, snaps := range [][]int{{8, 6, 2}, {2, 6, 8}, {6, 8, 2}, {6, 6}, {8, 2, 8, 2, 2, 6, 8}} {
			ascending := slices.Clone(snaps)
			slices.Sort(ascending)
			ascending = slices.Compact(ascending)
			for _, bottom := range []bool{false, true} {
				want := plainCompact(l, ascending, bottom)
				checkCompact(t, l, ascending, bottom, want)
				checkCompact(t, l, snaps, bottom, want)
				// Numbers below all entries and above them add nothing.
				for _, more := range []int{-1, math.MinInt, seqLimit, seqLimit + 1, math.MaxInt} {
					checkCompact(t, l, slices.Concat([]int{more}, snaps), bottom, want)
					checkCompact(t, l, slices.Concat(snaps, []int{more, more}), bottom, want)
				}
			}
			checkCompacted(t, l, snaps)
		}
	}
}

func TestManySnapshots(t *testing.T) {
	var snaps []int
	for seq := range 5000 {
		snaps = append(snaps, seq*7919%5000-100)
	}
	checkCompacted(t, changes(), snaps)
	checkCompact(t, versionsOf("k", 400, 0), snaps, false, versionsOf("k", 400, 0))
	checkCompact(t, versionsOf("k", 400, 0), snaps, true, versionsOf("k", 400, 0)[:399])
	if got := len(impl.SeenAt(changes(), snaps)); got != 5001 {
		t.Errorf("SeenAt of 5000 snapshots returns %d maps", got)
	}
}

func TestSeenAtOfFixedExamples(t *testing.T) {
	l := slices.Concat(entsFor(setEnt("a", 4, "a4"), setEnt("b", 8, "b8"), delEnt("b", 6)), changes())
	kv := func(key string, val string) impl.KV { return impl.KV{Key: key, Val: val} }
	now := []impl.KV{kv("a", "a4"), kv("b", "b8"), kv("k", "9")}
	checkSeen(t, l, nil, [][]impl.KV{now})
	checkSeen(t, l, []int{}, [][]impl.KV{now})
	checkSeen(t, l, []int{9}, [][]impl.KV{now, now})
	checkSeen(t, l, []int{8}, [][]impl.KV{{kv("a", "a4"), kv("b", "b8")}, now})
	checkSeen(t, l, []int{7}, [][]impl.KV{{kv("a", "a4")}, now})
	checkSeen(t, l, []int{0}, [][]impl.KV{nil, now})
	checkSeen(t, l, []int{5, 1, 2, 3, 5}, [][]impl.KV{{kv("a", "a4"), kv("k", "5")}, {kv("k", "1")}, {kv("k", "1")}, nil, {kv("a", "a4"), kv("k", "5")}, now})
	checkSeen(t, l, []int{math.MaxInt, -1, seqLimit + 1, math.MinInt, seqLimit}, [][]impl.KV{now, nil, now, nil, now, now})
	// The last map is that of the greatest number.
	last := entsFor(setEnt("k", seqLimit, "last"), setEnt("k", seqLimit-1, "before"))
	checkSeen(t, last, []int{seqLimit, seqLimit - 1}, [][]impl.KV{{kv("k", "last")}, {kv("k", "before")}, {kv("k", "last")}})
	checkSeen(t, entsFor(delEnt("k", seqLimit)), nil, [][]impl.KV{nil})
	checkSeen(t, entsFor(setEnt("k", 0, "")), []int{-1, 0}, [][]impl.KV{nil, {kv("k", "")}, {kv("k", "")}})
}

func TestSeenAtIsMemMap(t *testing.T) {
	for _, l := range validMems() {
		seqs := nearSeqs(l)
		seen := impl.SeenAt(l, seqs)
		if len(seen) != len(seqs)+1 {
			t.Fatalf("SeenAt(%#v, %d) returns %d maps", l, seqs, len(seen))
		}
		for i, seq := range append(seqs, seqLimit) {
			checkMemMap(t, l, seq, seen[i])
		}
	}
}

func TestMergeFunctionsOfNoEntries(t *testing.T) {
	for _, l := range [][]impl.Ent{nil, {}, make([]impl.Ent, 0, 4)} {
		for _, snaps := range [][]int{nil, {}, {5}, {3, -1, 3}, {math.MaxInt}} {
			checkCompact(t, l, snaps, false, nil)
			checkCompact(t, l, snaps, true, nil)
			checkSeen(t, l, snaps, make([][]impl.KV, len(snaps)+1))
		}
		checkMerge(t, [][]impl.Ent{l}, nil)
	}
}

func TestMergeFunctionsOfEntriesThatAreNotInOrder(t *testing.T) {
	for _, l := range disordered() {
		for _, snaps := range [][]int{nil, {5}, {1, 2, 3}, {15, 0, -1}, {math.MaxInt}} {
			checkSeen(t, l, snaps, nil)
			checkCompact(t, l, snaps, false, nil)
			checkCompact(t, l, snaps, true, nil)
		}
	}
}

func TestMergeFunctionsAtTheirLimits(t *testing.T) {
	for _, count := range []int{59, 60, 61, 62, 120, 399, 400, 401, 402, 1000} {
		for _, l := range [][]impl.Ent{manyEnts(count), versionsOf("k", count, 0), versionsOf("k", count, seqLimit-count+1)} {
			seen, bottom := impl.SeenAt(l, []int{seqLimit, 7}), impl.CompactEnts(l, []int{7}, true)
			kept := impl.CompactEnts(l, nearSeqs(l), false)
			if count > 400 {
				if seen != nil || kept != nil || bottom != nil {
					t.Errorf("SeenAt and CompactEnts of %d entries are %q, %#v and %#v", count, seen, kept, bottom)
				}
				continue
			}
			checkCompact(t, l, nearSeqs(l), false, l)
			checkCompact(t, l, []int{7}, true, plainCompact(l, []int{7}, true))
			checkSeen(t, l, []int{seqLimit, 7}, plainSeen(l, []int{seqLimit, 7}))
		}
	}
}

// thrownSnaps returns up to this many numbers about those from 0 to below seqs, and a few far away.
func thrownSnaps(throw func(below int) int, most int, seqs int) []int {
	var snaps []int
	for range throw(most + 1) {
		if throw(10) == 0 {
			snaps = append(snaps, []int{math.MinInt, -5, seqLimit, seqLimit + 1, math.MaxInt}[throw(5)])
		} else {
			snaps = append(snaps, throw(seqs+2)-1)
		}
	}
	return snaps
}

// overlapping returns lists that have many entries in common; now and then one of them is not in order.
func overlapping(throw func(below int) int, keys []string, seqs int) [][]impl.Ent {
	var lists [][]impl.Ent
	for range throw(7) {
		l := plainOrder(thrownEnts(throw, keys, throw(10), seqs))
		if throw(20) == 0 && len(l) > 1 {
			at := throw(len(l) - 1)
			l[at], l[at+1] = l[at+1], l[at]
		}
		lists = append(lists, l)
	}
	return lists
}

func TestThrownMerges(t *testing.T) {
	throw := dice(16)
	for _, c := range []struct {
		keys []string
		seqs int
	}{
		{[]string{"k"}, 15},
		{[]string{"a", "a\x00"}, 8},
		{[]string{"a", "aa", "b", "\xff"}, 5},
		{allStrings("\x00a\xff", 2)[1:], 3},
	} {
		for range 1500 {
			checkMerged(t, overlapping(throw, c.keys, c.seqs), thrownSnaps(throw, 5, c.seqs))
		}
	}
}

func TestThrownMergesOfManyEntries(t *testing.T) {
	throw := dice(18)
	for _, c := range []struct {
		keys []string
		seqs int
	}{
		{[]string{"k"}, 450},
		{allStrings("\x00a\xff", 2)[1:], 60},
		{numbered(150), 9},
		{numbered(390), 2},
	} {
		for _, count := range []int{300, 399, 400, 401} {
			written := thrownEnts(throw, c.keys, count, c.seqs)
			snaps := thrownSnaps(throw, 6, c.seqs)
			checkMerged(t, thrownLists(throw, written, 1+throw(9)), snaps)
			checkMerged(t, [][]impl.Ent{plainOrder(written)}, snaps)
		}
	}
}

// Merging in several steps and compacting in between changes nothing that is seen at the snapshots.
func TestCompactionBetweenMerges(t *testing.T) {
	throw := dice(20)
	for range 300 {
		written := thrownEnts(throw, []string{"a", "aa", "b", "\xff"}, 40, 30)
		snaps := thrownSnaps(throw, 5, 30)
		seen := plainSeen(plainOrder(written), snaps)
		// Newer entries are merged onto older ones that have been compacted as the bottom.
		oldest := slices.DeleteFunc(slices.Clone(written), func(e impl.Ent) bool { return e.Seq >= 10 })
		middle := slices.DeleteFunc(slices.Clone(written), func(e impl.Ent) bool { return e.Seq < 10 || e.Seq >= 20 })
		newest := slices.DeleteFunc(slices.Clone(written), func(e impl.Ent) bool { return e.Seq < 20 })
		below := impl.CompactEnts(plainOrder(oldest), snaps, true)
		above := impl.CompactEnts(impl.MergeEnts([][]impl.Ent{plainOrder(newest), plainOrder(middle)}), snaps, false)
		l := impl.MergeEnts([][]impl.Ent{above, below})
		checkSeen(t, l, snaps, seen)
		checkSeen(t, impl.CompactEnts(l, snaps, true), snaps, seen)
		checkCompact(t, l, snaps, true, plainCompact(plainOrder(written), snaps, true))
	}
}

func TestMergedTablesShowTheirEntries(t *testing.T) {
	older, newer := versionedKeys(), entsFor(delEnt("a", 12), setEnt("aa", 11, "aa11"), setEnt("b", 13, "b13"), delEnt("zz", 14))
	var lists [][]impl.Ent
	for _, l := range [][]impl.Ent{newer, older} {
		ents, ok := impl.TableEnts(mustTable(t, l))
		if !ok {
			t.Fatalf("TableEnts of the table of %#v returns false", l)
		}
		lists = append(lists, ents)
	}
	all := plainOrder(slices.Concat(newer, older))
	checkMerge(t, lists, all)
	checkCompacted(t, impl.MergeEnts(lists), []int{9, 12})
}

// wideLists returns lists with unused capacity that holds other entries and lists, and all of them.
func wideLists(lists [][]impl.Ent) (wide [][]impl.Ent, whole [][]impl.Ent) {
	for _, l := range slices.Concat(lists, [][]impl.Ent{manyEnts(3), versionedKeys()}) {
		list, _ := wideEnts(l)
		wide = append(wide, list)
		whole = append(whole, list[:cap(list)])
	}
	return wide[:len(lists)], whole
}

func scribbleLists(lists [][]impl.Ent) {
	for _, l := range lists {
		scribbleEnts(l)
	}
}

func TestMergeEntsLeavesItsArguments(t *testing.T) {
	lists := [][][]impl.Ent{nil, {nil}, {changes()}, {nil, changes(), {}}, {changes(), deletions()}, {manyEnts(60), manyEnts(61), versionedKeys(), manyEnts(3)}, {manyEnts(200), manyEnts(201)}}
	for _, l := range disordered() {
		lists = append(lists, [][]impl.Ent{l}, [][]impl.Ent{changes(), l, nil})
	}
	for _, given := range lists {
		wide, whole := wideLists(given)
		before, outer := cloneLists(whole), cloneLists(wide[:len(given)+2])
		first, second := impl.MergeEnts(wide), impl.MergeEnts(wide)
		if !sameLists(whole, before) || !sameLists(wide[:len(given)+2], outer) {
			t.Fatalf("MergeEnts(%#v) wrote into its argument", given)
		}
		kept := slices.Clone(second)
		scribbleEnts(first)
		if !sameLists(whole, before) {
			t.Fatalf("writing into the result of MergeEnts(%#v) changed its argument", given)
		}
		if !slices.Equal(second, kept) {
			t.Fatalf("two results of MergeEnts(%#v) share memory", given)
		}
		scribbleLists(whole)
		if !slices.Equal(second, kept) {
			t.Fatalf("writing into the argument of MergeEnts(%#v) changed its result", given)
		}
	}
}

// wideInts returns a list with further numbers in its unused capacity.
func wideInts(l []int) (list []int, whole []int) {
	whole = slices.Concat(l, []int{77, 88, 99, 111})
	return whole[:len(l)], whole
}

func scribbleInts(l []int) {
	for i := range l[:cap(l)] {
		l[:cap(l)][i] = 42
	}
}

func TestCompactEntsLeavesItsArguments(t *testing.T) {
	for _, l := range append(ordered(), disordered()...) {
		for _, snaps := range [][]int{nil, {5}, {7, 3, 20}, nearSeqs(l)} {
			for _, bottom := range []bool{false, true} {
				list, whole := wideEnts(l)
				numbers, all := wideInts(snaps)
				before, given := slices.Clone(whole), slices.Clone(all)
				first, second := impl.CompactEnts(list, numbers, bottom), impl.CompactEnts(list, numbers, bottom)
				kept := slices.Clone(second)
				if !slices.Equal(whole, before) || !slices.Equal(all, given) {
					t.Fatalf("CompactEnts(%#v, %d, %v) wrote into its arguments", l, snaps, bottom)
				}
				scribbleEnts(first)
				if !slices.Equal(whole, before) || !slices.Equal(second, kept) {
					t.Fatalf("a result of CompactEnts(%#v, %d, %v) shares memory with an argument or another result", l, snaps, bottom)
				}
				scribbleEnts(list)
				scribbleInts(numbers)
				if !slices.Equal(second, kept) {
					t.Fatalf("writing into the arguments of CompactEnts(%#v, %d, %v) changed its result", l, snaps, bottom)
				}
			}
		}
	}
}

func TestSeenAtLeavesItsArguments(t *testing.T) {
	for _, l := range append(ordered(), disordered()...) {
		for _, snaps := range [][]int{nil, {5}, {5, 5, 5}, {7, 3, seqLimit}} {
			list, whole := wideEnts(l)
			numbers, all := wideInts(snaps)
			before, given := slices.Clone(whole), slices.Clone(all)
			first, second := impl.SeenAt(list, numbers), impl.SeenAt(list, numbers)
			kept := cloneMaps(second)
			if !slices.Equal(whole, before) || !slices.Equal(all, given) {
				t.Fatalf("SeenAt(%#v, %d) wrote into its arguments", l, snaps)
			}
			for i := range first {
				scribbleKVs(first[i])
				if !sameMaps(first[i+1:], kept[i+1:]) {
					t.Fatalf("two maps of SeenAt(%#v, %d) share memory", l, snaps)
				}
			}
			if !sameMaps(second, kept) {
				t.Fatalf("two results of SeenAt(%#v, %d) share memory", l, snaps)
			}
			for i := range second {
				second[i] = nil
				if !sameMaps(second[i+1:], kept[i+1:]) {
					t.Fatalf("the maps of SeenAt(%#v, %d) change one another", l, snaps)
				}
			}
			third := impl.SeenAt(list, numbers)
			scribbleEnts(list)
			scribbleInts(numbers)
			if !sameMaps(third, kept) {
				t.Fatalf("writing into the arguments of SeenAt(%#v, %d) changed its result", l, snaps)
			}
		}
	}
}

func TestMergeFunctionsKeepNoState(t *testing.T) {
	a, b := entsFor(setEnt("a", 4, "4"), delEnt("a", 2), setEnt("b", 1, "1")), entsFor(delEnt("a", 4), setEnt("b", 3, "3"))
	for range 3 {
		impl.MergeEnts([][]impl.Ent{manyEnts(60), versionedKeys()})
		impl.MergeEnts([][]impl.Ent{disordered()[0], a})
		impl.CompactEnts(manyEnts(401), []int{1}, true)
		impl.CompactEnts(versionedKeys(), []int{5}, false)
		impl.SeenAt(disordered()[1], []int{1})
		impl.SeenAt(b, []int{2, 3})
		checkMerge(t, [][]impl.Ent{a, b}, entsFor(a[0], a[1], b[1], a[2]))
		checkMerge(t, [][]impl.Ent{b, a}, entsFor(b[0], a[1], b[1], a[2]))
		checkCompact(t, a, []int{3}, true, entsFor(a[0], a[2]))
		checkCompact(t, a, []int{3}, false, a)
		checkSeen(t, a, []int{3}, [][]impl.KV{{{Key: "b", Val: "1"}}, {{Key: "a", Val: "4"}, {Key: "b", Val: "1"}}})
	}
}
