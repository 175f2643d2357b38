package tests

import (
	"bytes"
	"fmt"
	"math"
	"slices"
	"strings"
	"testing"

	"loop.example/g00950/impl"
)

func iterAt(l []impl.KV, from string, to string, at int) impl.Iter {
	return impl.Iter{List: l, From: from, To: to, At: at}
}

func sameIter(a, b impl.Iter) bool {
	return slices.Equal(a.List, b.List) && a.From == b.From && a.To == b.To && a.At == b.At
}

func tellIter(x impl.Iter) string {
	return fmt.Sprintf("{%q from %q to %q at %d}", x.List, x.From, x.To, x.At)
}

// plainMapOk tells by the document's words whether a list is a valid map.
func plainMapOk(l []impl.KV) bool {
	for i, kv := range l {
		if len(kv.Key) < 1 || len(kv.Key) > 10 || len(kv.Val) > 16 {
			return false
		}
		if i > 0 && bytes.Compare([]byte(l[i-1].Key), []byte(kv.Key)) >= 0 {
			return false
		}
	}
	return true
}

func plainIterOk(x impl.Iter) bool {
	return plainMapOk(x.List) && x.At >= -1 && x.At <= len(x.List)
}

// plainBetween tells by the document's words whether the bounds contain a key.
func plainBetween(key string, from string, to string) bool {
	if bytes.Compare([]byte(key), []byte(from)) < 0 {
		return false
	}
	return len(to) == 0 || bytes.Compare([]byte(key), []byte(to)) < 0
}

// plainPart returns the elements within the bounds.
func plainPart(l []impl.KV, from string, to string) []impl.KV {
	var part []impl.KV
	for _, kv := range l {
		if plainBetween(kv.Key, from, to) {
			part = append(part, kv)
		}
	}
	return part
}

// plainPlace returns what is found at a place, which may be ahead of all elements or behind them.
func plainPlace(x impl.Iter, at int) (impl.Iter, impl.KV, bool) {
	x.At = at
	if at == -1 || at == len(x.List) {
		return x, impl.KV{}, false
	}
	return x, x.List[at], true
}

// plainNext looks at all places, from the end on.
func plainNext(x impl.Iter) (impl.Iter, impl.KV, bool) {
	if !plainIterOk(x) {
		return impl.Iter{}, impl.KV{}, false
	}
	found := len(x.List)
	for at := len(x.List) - 1; at > x.At; at-- {
		if plainBetween(x.List[at].Key, x.From, x.To) {
			found = at
		}
	}
	return plainPlace(x, found)
}

// plainPrev looks at all places, from the first one on.
func plainPrev(x impl.Iter) (impl.Iter, impl.KV, bool) {
	if !plainIterOk(x) {
		return impl.Iter{}, impl.KV{}, false
	}
	found := -1
	for at := 0; at < x.At; at++ {
		if plainBetween(x.List[at].Key, x.From, x.To) {
			found = at
		}
	}
	return plainPlace(x, found)
}

// plainSeek looks at all places, from the end on, wherever x is.
func plainSeek(x impl.Iter, key string) (impl.Iter, impl.KV, bool) {
	if !plainIterOk(x) {
		return impl.Iter{}, impl.KV{}, false
	}
	found := len(x.List)
	for at := len(x.List) - 1; at >= 0; at-- {
		own := x.List[at].Key
		if plainBetween(own, x.From, x.To) && bytes.Compare([]byte(own), []byte(key)) >= 0 {
			found = at
		}
	}
	return plainPlace(x, found)
}

type step func(x impl.Iter) (impl.Iter, impl.KV, bool)

// namedStep is a step of the program with what the tests take for right.
type namedStep struct {
	name  string
	does  step
	plain step
}

func nextStep() namedStep { return namedStep{"IterNext", impl.IterNext, plainNext} }

func prevStep() namedStep { return namedStep{"IterPrev", impl.IterPrev, plainPrev} }

func seekStep(key string) namedStep {
	return namedStep{
		name:  fmt.Sprintf("IterSeek for %q", key),
		does:  func(x impl.Iter) (impl.Iter, impl.KV, bool) { return impl.IterSeek(x, key) },
		plain: func(x impl.Iter) (impl.Iter, impl.KV, bool) { return plainSeek(x, key) },
	}
}

func seekSteps(keys []string) []namedStep {
	var steps []namedStep
	for _, key := range keys {
		steps = append(steps, seekStep(key))
	}
	return steps
}

func checkStepTo(t *testing.T, s namedStep, x impl.Iter, want impl.Iter, wantKV impl.KV, wantOk bool) {
	t.Helper()
	got, kv, ok := s.does(x)
	if !sameIter(got, want) || kv != wantKV || ok != wantOk {
		t.Fatalf("%s of %s = %s, %q, %v, want %s, %q, %v", s.name, tellIter(x), tellIter(got), kv, ok, tellIter(want), wantKV, wantOk)
	}
}

// checkStep holds a step against the tests' own.
func checkStep(t *testing.T, s namedStep, x impl.Iter) {
	t.Helper()
	want, kv, ok := s.plain(x)
	checkStepTo(t, s, x, want, kv, ok)
}

// checkPlace holds a step against the place that it must reach.
func checkPlace(t *testing.T, s namedStep, x impl.Iter, at int) impl.Iter {
	t.Helper()
	want, kv, ok := plainPlace(x, at)
	checkStepTo(t, s, x, want, kv, ok)
	return want
}

// checkNoStep tells that an iterator can't be moved.
func checkNoStep(t *testing.T, s namedStep, x impl.Iter) {
	t.Helper()
	checkStepTo(t, s, x, impl.Iter{}, impl.KV{}, false)
}

func mustIter(t *testing.T, l []impl.KV, from string, to string) impl.Iter {
	t.Helper()
	x, ok := impl.IterNew(l, from, to)
	if want := iterAt(l, from, to, -1); !ok || !sameIter(x, want) {
		t.Fatalf("IterNew(%q, %q, %q) = %s, %v, want %s", l, from, to, tellIter(x), ok, tellIter(want))
	}
	return x
}

// visit moves x until there is nothing more, and returns what it has found.
func visit(t *testing.T, s namedStep, x impl.Iter) (impl.Iter, []impl.KV) {
	t.Helper()
	var found []impl.KV
	for range len(x.List) + 1 {
		next, kv, ok := s.does(x)
		if !impl.IterOk(next) {
			t.Fatalf("%s of %s = %s, which is not valid", s.name, tellIter(x), tellIter(next))
		}
		x = next
		if _, held, holds := plainPlace(x, x.At); kv != held || ok != holds {
			t.Fatalf("%s returns %q, %v and %s, which is not at it", s.name, kv, ok, tellIter(x))
		}
		if !ok {
			return x, found
		}
		found = append(found, kv)
	}
	t.Fatalf("%s does not end: %s", s.name, tellIter(x))
	return x, found
}

func reversed(l []impl.KV) []impl.KV {
	l = slices.Clone(l)
	slices.Reverse(l)
	return l
}

func checkVisit(t *testing.T, s namedStep, x impl.Iter, want []impl.KV, end int) impl.Iter {
	t.Helper()
	last, found := visit(t, s, x)
	if !slices.Equal(found, want) {
		t.Fatalf("%s from %s on visits %q, want %q", s.name, tellIter(x), found, want)
	}
	if goal := iterAt(x.List, x.From, x.To, end); !sameIter(last, goal) {
		t.Fatalf("%s from %s on ends as %s, want %s", s.name, tellIter(x), tellIter(last), tellIter(goal))
	}
	return last
}

// checkBothWays visits forward, backward and forward again.
func checkBothWays(t *testing.T, l []impl.KV, from string, to string, want []impl.KV) {
	t.Helper()
	x := mustIter(t, l, from, to)
	x = checkVisit(t, nextStep(), x, want, len(l))
	x = checkVisit(t, prevStep(), x, reversed(want), -1)
	checkVisit(t, nextStep(), x, want, len(l))
}

// mapBounds lists the keys of a map, what is next to them, and strings that no key can be.
func mapBounds(l []impl.KV) []string {
	var ents []impl.Ent
	for _, kv := range l {
		ents = append(ents, setEnt(kv.Key, 0, ""))
	}
	return nearKeys(ents)
}

// fourDigits returns a map of this many elements.
func fourDigits(count int) []impl.KV {
	var l []impl.KV
	for i := range count {
		l = append(l, impl.KV{Key: fmt.Sprintf("%04d", i), Val: fmt.Sprintf("val %d", i*i)})
	}
	return l
}

// shortMaps lists the valid maps whose bounds are few enough to take all pairs of them.
func shortMaps() [][]impl.KV {
	return slices.DeleteFunc(validMaps(), func(l []impl.KV) bool { return len(l) > 20 })
}

func TestIterOfFixedExamples(t *testing.T) {
	l := mapFor("a", "b", "c", "d", "e")
	for _, c := range []struct {
		from, to string
		next     []int
		prev     []int
	}{
		{"", "", []int{0, 1, 2, 3, 4, 5, 5}, []int{4, 3, 2, 1, 0, -1, -1}},
		{"b", "d", []int{1, 2, 5, 5}, []int{2, 1, -1, -1}},
		{"b", "", []int{1, 2, 3, 4, 5, 5}, []int{4, 3, 2, 1, -1, -1}},
		{"", "d", []int{0, 1, 2, 5, 5}, []int{2, 1, 0, -1, -1}},
		{"bb", "dd", []int{2, 3, 5, 5}, []int{3, 2, -1, -1}},
		{"c", "c\x00", []int{2, 5, 5}, []int{2, -1, -1}},
		{"e", "f", []int{4, 5, 5}, []int{4, -1, -1}},
		{"A", "a\x00", []int{0, 5, 5}, []int{0, -1, -1}},
		{"c", "c", []int{5, 5}, []int{-1, -1}},
		{"d", "b", []int{5, 5}, []int{-1, -1}},
		{"f", "", []int{5, 5}, []int{-1, -1}},
		{"", "a", []int{5, 5}, []int{-1, -1}},
		{"c\x00", "d", []int{5, 5}, []int{-1, -1}},
	} {
		x := mustIter(t, l, c.from, c.to)
		for _, at := range c.next {
			x = checkPlace(t, nextStep(), x, at)
		}
		for _, at := range c.prev {
			x = checkPlace(t, prevStep(), x, at)
		}
	}
}

func TestIterSeekOfFixedExamples(t *testing.T) {
	l := mapFor("b", "d", "f", "h", "j")
	for _, c := range []struct {
		from, to string
		key      string
		at       int
	}{
		{"", "", "", 0},
		{"", "", "a", 0},
		{"", "", "b", 0},
		{"", "", "b\x00", 1},
		{"", "", "c", 1},
		{"", "", "j", 4},
		{"", "", "j\x00", 5},
		{"", "", "z", 5},
		{"d", "j", "", 1},
		{"d", "j", "a", 1},
		{"d", "j", "b", 1},
		{"d", "j", "c", 1},
		{"d", "j", "d", 1},
		{"d", "j", "e", 2},
		{"d", "j", "f", 2},
		{"d", "j", "h", 3},
		{"d", "j", "h\x00", 5},
		{"d", "j", "i", 5},
		{"d", "j", "j", 5},
		{"d", "j", "k", 5},
		{"d\x00", "j\x00", "a", 2},
		{"d\x00", "j\x00", "d", 2},
		{"d\x00", "j\x00", "j", 4},
		{"d\x00", "j\x00", "j\x00", 5},
		{"g", "", "a", 3},
		{"g", "", "i", 4},
		{"g", "", "k", 5},
		{"", "g", "a", 0},
		{"", "g", "f", 2},
		{"", "g", "g", 5},
		{"f", "f", "f", 5},
		{"f", "f", "", 5},
		{"h", "d", "f", 5},
		{"h", "d", "", 5},
		{"e", "f", "e", 5},
		{"k", "", "", 5},
		{"", "b", "", 5},
	} {
		for at := -1; at <= len(l); at++ {
			checkPlace(t, seekStep(c.key), iterAt(l, c.from, c.to, at), c.at)
		}
	}
}

func TestWalksVisitTheKeysWithinTheBounds(t *testing.T) {
	for _, l := range shortMaps() {
		bounds := mapBounds(l)
		for _, from := range bounds {
			for _, to := range bounds {
				checkBothWays(t, l, from, to, plainPart(l, from, to))
			}
		}
	}
}

func TestWalksOfLongMaps(t *testing.T) {
	for _, l := range [][]impl.KV{mapFor(numbered(200)...), fourDigits(61), fourDigits(401), fourDigits(1000)} {
		last := len(l) - 1
		bounds := []string{"", "\x00", l[0].Key, l[1].Key + "\x00", l[last/2].Key, l[last-1].Key, l[last].Key, l[last].Key + "\x00", "\xff"}
		for _, from := range bounds {
			for _, to := range bounds {
				checkBothWays(t, l, from, to, plainPart(l, from, to))
				for _, key := range bounds {
					checkStep(t, seekStep(key), iterAt(l, from, to, last/2))
				}
			}
		}
	}
}

// checkWalkFrom visits both ways from the first key on that is at least key.
func checkWalkFrom(t *testing.T, l []impl.KV, from string, to string, key string) {
	t.Helper()
	part := plainPart(l, from, to)
	later := plainPart(part, key, "")
	x, kv, ok := impl.IterSeek(mustIter(t, l, from, to), key)
	var rest []impl.KV
	if ok {
		rest = append(rest, kv)
	}
	_, more := visit(t, nextStep(), x)
	if rest = append(rest, more...); !slices.Equal(rest, later) {
		t.Fatalf("from %q on, %q is found within %q, want %q", key, rest, part, later)
	}
	checkVisit(t, prevStep(), x, reversed(part[:len(part)-len(later)]), -1)
}

func TestAWalkFromAKeyOn(t *testing.T) {
	for _, l := range shortMaps() {
		keys := mapBounds(l)
		for _, from := range keys {
			for _, to := range keys {
				for _, key := range keys {
					checkWalkFrom(t, l, from, to, key)
				}
			}
		}
	}
}

func TestStepsWithinAllBounds(t *testing.T) {
	for _, l := range shortMaps() {
		bounds := mapBounds(l)
		seeks := seekSteps(bounds)
		for i, from := range bounds {
			for j, to := range bounds {
				for at := -1; at <= len(l); at++ {
					checkStep(t, nextStep(), iterAt(l, from, to, at))
					checkStep(t, prevStep(), iterAt(l, from, to, at))
				}
				// Each pair of bounds is searched from another place.
				x := iterAt(l, from, to, (i+j)%(len(l)+2)-1)
				for _, seek := range seeks {
					checkStep(t, seek, x)
				}
			}
		}
	}
}

// mapsOf returns all maps of some of these keys, which are in order.
func mapsOf(keys []string) [][]impl.KV {
	var list [][]impl.KV
	for mask := range 1 << len(keys) {
		var l []impl.KV
		for _, i := range bitsOf(mask) {
			l = append(l, impl.KV{Key: keys[i], Val: strings.Repeat("v", i)})
		}
		list = append(list, l)
	}
	return list
}

func TestEveryStepOfAllSmallMaps(t *testing.T) {
	keys := []string{"\x00", "a", "a\x00", "b", "\xff"}
	bounds := []string{"", "\x00", "\x00\x00", "a", "a\x00", "aa", "b", "b\x00", "\xff", "\xff\x00"}
	steps := append(seekSteps(bounds), nextStep(), prevStep())
	for _, l := range mapsOf(keys) {
		for _, from := range bounds {
			for _, to := range bounds {
				for at := -3; at <= len(l)+2; at++ {
					for _, s := range steps {
						checkStep(t, s, iterAt(l, from, to, at))
					}
				}
			}
		}
	}
}

func TestAKeyAtTheEndsOfTheBounds(t *testing.T) {
	for _, l := range shortMaps() {
		for i, low := range l {
			checkPlace(t, nextStep(), mustIter(t, l, low.Key, ""), i)
			checkPlace(t, prevStep(), iterAt(l, "", low.Key, len(l)), i-1)
			checkPlace(t, seekStep(low.Key), mustIter(t, l, low.Key, ""), i)
			checkPlace(t, seekStep(low.Key), mustIter(t, l, "", low.Key), len(l))
			checkBothWays(t, l, low.Key, low.Key+"\x00", l[i:i+1])
			checkBothWays(t, l, low.Key, low.Key, nil)
			for j, high := range l {
				if i <= j {
					checkBothWays(t, l, low.Key, high.Key, l[i:j])
				} else {
					checkBothWays(t, l, low.Key, high.Key, nil)
				}
			}
		}
	}
}

func TestNoElementWithinTheBounds(t *testing.T) {
	l := mapFor("b", "d", "f")
	for _, bounds := range [][2]string{
		{"b", "b"}, {"d", "d"}, {"c", "c"}, {"f", "b"}, {"f", "d"}, {"z", "a"}, {"c", "b"},
		{"c", "d"}, {"b\x00", "d"}, {"d\x00", "e"}, {"\x00", "b"}, {"", "b"}, {"", "\x00"}, {"a", "b"}, {"a", "aa"},
		{"f\x00", ""}, {"g", ""}, {"g", "h"}, {"\xff", ""}, {strings.Repeat("\xff", 11), ""}, {"f\x00", strings.Repeat("\xff", 100)},
	} {
		for at := -1; at <= len(l); at++ {
			x := iterAt(l, bounds[0], bounds[1], at)
			checkPlace(t, nextStep(), x, len(l))
			checkPlace(t, prevStep(), x, -1)
			for _, key := range []string{"", "a", "b", "c", "d", "f", "z"} {
				checkPlace(t, seekStep(key), x, len(l))
			}
		}
	}
}

func TestBoundsThatAreLongerThanAKey(t *testing.T) {
	l := mapFor("1234567890", "1234567891")
	checkBothWays(t, l, "12345678900", "", l[1:])
	checkBothWays(t, l, "", "12345678900", l[:1])
	checkBothWays(t, l, "1234567890", "12345678910", l)
	checkBothWays(t, l, "123456789", "1234567891", l[:1])
	checkPlace(t, seekStep("12345678900"), mustIter(t, l, "", ""), 1)
	checkPlace(t, seekStep(strings.Repeat("1", 1000)), mustIter(t, l, "", ""), 0)
	checkPlace(t, seekStep(strings.Repeat("2", 1000)), mustIter(t, l, "", ""), 2)
}

func TestStepsBeyondTheBounds(t *testing.T) {
	l := mapFor("a", "b", "c", "d", "e", "f")
	x := iterAt(l, "c", "e", 3)
	// Elements stand behind the last one within the bounds, and the walk passes them all at once.
	for range 3 {
		x = checkPlace(t, nextStep(), x, 6)
	}
	x = checkPlace(t, prevStep(), x, 3)
	x = checkPlace(t, prevStep(), x, 2)
	for range 3 {
		x = checkPlace(t, prevStep(), x, -1)
	}
	checkPlace(t, nextStep(), x, 2)
	for at, places := range map[int][2]int{0: {2, -1}, 1: {2, -1}, 2: {3, -1}, 3: {6, 2}, 4: {6, 3}, 5: {6, 3}} {
		checkPlace(t, nextStep(), iterAt(l, "c", "e", at), places[0])
		checkPlace(t, prevStep(), iterAt(l, "c", "e", at), places[1])
	}
}

// strangeBounds lists bounds that contain much, little or nothing.
func strangeBounds() [][2]string {
	return [][2]string{{"", ""}, {"a", "b"}, {"b", "a"}, {"a", "a"}, {"", "\x00"}, {"\xff", ""}, {strings.Repeat("k", 1000), strings.Repeat("a", 1000)}}
}

// invalidIters lists iterators whose list is no map, whose place is none of its list, or both.
func invalidIters() []impl.Iter {
	var list []impl.Iter
	for _, l := range invalidMaps() {
		for _, at := range []int{-2, -1, 0, len(l), len(l) + 1} {
			list = append(list, iterAt(l, "", "", at), iterAt(l, "a", "b", at))
		}
	}
	for _, l := range validMaps() {
		for _, at := range []int{math.MinInt, math.MinInt + 1, -100, -3, -2, len(l) + 1, len(l) + 2, len(l) + 100, math.MaxInt - 1, math.MaxInt} {
			for _, bounds := range strangeBounds() {
				list = append(list, iterAt(l, bounds[0], bounds[1], at))
			}
		}
	}
	return list
}

func TestIterOk(t *testing.T) {
	for _, l := range validMaps() {
		for at := -1; at <= len(l); at++ {
			for _, bounds := range strangeBounds() {
				if x := iterAt(l, bounds[0], bounds[1], at); !impl.IterOk(x) {
					t.Errorf("IterOk(%s) is false", tellIter(x))
				}
			}
		}
	}
	for _, x := range invalidIters() {
		if impl.IterOk(x) {
			t.Errorf("IterOk(%s) is true", tellIter(x))
		}
	}
}

func TestIterNew(t *testing.T) {
	for _, bounds := range strangeBounds() {
		for _, l := range validMaps() {
			if x := mustIter(t, l, bounds[0], bounds[1]); !impl.IterOk(x) {
				t.Errorf("IterNew returns %s, which is not valid", tellIter(x))
			}
		}
		for _, l := range invalidMaps() {
			if x, ok := impl.IterNew(l, bounds[0], bounds[1]); ok || !sameIter(x, impl.Iter{}) {
				t.Errorf("IterNew(%q, %q, %q) = %s, %v, want the zero Iter and false", l, bounds[0], bounds[1], tellIter(x), ok)
			}
		}
	}
}

func TestInvalidIteratorsDoNotMove(t *testing.T) {
	steps := append(seekSteps([]string{"", "\x00", "a", "b", "\xff", strings.Repeat("k", 100)}), nextStep(), prevStep())
	for _, x := range invalidIters() {
		for _, s := range steps {
			checkNoStep(t, s, x)
		}
	}
}

func TestIteratorsOverNothing(t *testing.T) {
	for _, l := range [][]impl.KV{nil, {}, make([]impl.KV, 0, 4)} {
		for _, bounds := range strangeBounds() {
			checkBothWays(t, l, bounds[0], bounds[1], nil)
			for _, at := range []int{-1, 0} {
				x := iterAt(l, bounds[0], bounds[1], at)
				if !impl.IterOk(x) {
					t.Errorf("IterOk(%s) is false", tellIter(x))
				}
				checkStepTo(t, nextStep(), x, iterAt(nil, bounds[0], bounds[1], 0), impl.KV{}, false)
				checkStepTo(t, prevStep(), x, iterAt(nil, bounds[0], bounds[1], -1), impl.KV{}, false)
				checkStepTo(t, seekStep("a"), x, iterAt(nil, bounds[0], bounds[1], 0), impl.KV{}, false)
			}
		}
	}
}

func TestElementsKeepTheirValues(t *testing.T) {
	l := []impl.KV{{Key: "a"}, {Key: "b", Val: "same"}, {Key: "c", Val: "same"}, {Key: "d", Val: "\x00"}, {Key: "e", Val: strings.Repeat("\xff", 16)}}
	checkBothWays(t, l, "", "", l)
	for i, kv := range l {
		checkPlace(t, seekStep(kv.Key), mustIter(t, l, "", ""), i)
	}
}

func TestThrownWalks(t *testing.T) {
	throw := dice(14)
	keys := []string{"\x00", "\x00\xff", "1", "12", "123", "13", "2", "a", "a\x00", "aa", "ab", "b", "\x7f", "\x80", "\xff", "\xff\xff"}
	bounds := mapBounds(mapFor(keys...))
	maps := mapsOf(keys)
	for range 3000 {
		l := maps[throw(len(maps))]
		x := mustIter(t, l, bounds[throw(len(bounds))], bounds[throw(len(bounds))])
		if throw(3) == 0 {
			x.From, x.To = "", ""
		}
		for range 30 {
			s := []namedStep{nextStep(), nextStep(), prevStep(), prevStep(), seekStep(bounds[throw(len(bounds))])}[throw(5)]
			checkStep(t, s, x)
			x, _, _ = s.does(x)
		}
	}
}

// newStep makes an iterator from the list and the bounds of another one.
func newStep() namedStep {
	return namedStep{name: "IterNew", does: func(x impl.Iter) (impl.Iter, impl.KV, bool) {
		made, ok := impl.IterNew(x.List, x.From, x.To)
		return made, impl.KV{}, ok
	}}
}

func TestIterFunctionsLeaveTheirArguments(t *testing.T) {
	steps := append(seekSteps([]string{"", "a", "b", "\xff\xff\xff"}), nextStep(), prevStep(), newStep())
	for _, l := range append(validMaps(), invalidMaps()...) {
		for _, at := range []int{-2, -1, 0, len(l) / 2, len(l), len(l) + 1} {
			for _, s := range steps {
				list, whole := wideKVs(l)
				before := slices.Clone(whole)
				x := iterAt(list, "a", "b", at)
				impl.IterOk(x)
				first, _, _ := s.does(x)
				second, _, _ := s.does(x)
				if !slices.Equal(whole, before) || !sameIter(x, iterAt(l, "a", "b", at)) {
					t.Fatalf("%s of %s wrote into its argument", s.name, tellIter(x))
				}
				kept := slices.Clone(second.List)
				scribbleKVs(first.List)
				if !slices.Equal(whole, before) {
					t.Fatalf("writing into the result of %s of %s changed its argument", s.name, tellIter(x))
				}
				if !slices.Equal(second.List, kept) {
					t.Fatalf("two results of %s of %s share memory", s.name, tellIter(x))
				}
				scribbleKVs(list)
				if !slices.Equal(second.List, kept) {
					t.Fatalf("writing into the argument of %s changed its result", s.name)
				}
			}
		}
	}
}

func TestAnIteratorDoesNotSeeTheListBehindItsEnd(t *testing.T) {
	list, _ := wideKVs(mapFor("a", "b"))
	checkBothWays(t, list, "", "", mapFor("a", "b"))
	checkPlace(t, seekStep("c"), mustIter(t, list, "", ""), 2)
	checkNoStep(t, nextStep(), iterAt(list, "", "", 3))
	checkNoStep(t, prevStep(), iterAt(list, "", "", 3))
}

func TestIterFunctionsKeepNoState(t *testing.T) {
	l := mapFor("a", "b", "c", "d")
	x := iterAt(l, "b", "d", 1)
	for range 3 {
		impl.IterNew(mapFor("x", "y"), "x", "")
		impl.IterNext(iterAt(mapFor("b", "a"), "", "", 0))
		impl.IterPrev(iterAt(l, "", "", 4))
		impl.IterSeek(iterAt(l, "", "", 0), "d")
		impl.IterOk(iterAt(l, "", "", 9))
		checkPlace(t, nextStep(), x, 2)
		checkPlace(t, prevStep(), x, -1)
		checkPlace(t, seekStep("a"), x, 1)
	}
}
