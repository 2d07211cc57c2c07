package ordmap_test

import (
	"cmp"
	"iter"
	"maps"
	"math"
	"slices"
	"strconv"
	"sync"
	"testing"

	"drumlin/api"
	"drumlin/ordmap"
)

// faces has the calls of the chapter: a change of one of their signatures does not compile.
type faces[K cmp.Ordered, V any] interface {
	Set(k K, v V) (V, bool, api.Errno)
	Get(k K) (V, bool)
	Delete(k K) (V, bool)
	Len() int
	Min() (K, V, bool)
	Max() (K, V, bool)
	Floor(k K) (K, V, bool)
	Ceil(k K) (K, V, bool)
	At(i int) (K, V, api.Errno)
	Rank(k K) int
	All() iter.Seq2[K, V]
	From(k K) iter.Seq2[K, V]
	Copy() *ordmap.Map[K, V]
}

var (
	_ func() *ordmap.Map[int, string] = ordmap.New[int, string]
	_ faces[int, string]              = (*ordmap.Map[int, string])(nil)
	_ faces[float64, []byte]          = (*ordmap.Map[float64, []byte])(nil)
)

// pair is a key and its value, as they are yielded.
type pair[K cmp.Ordered] struct {
	key K
	val string
}

// answer is what a question for one key returns.
type answer[K cmp.Ordered] struct {
	key K
	val string
	ok  bool
}

func answerOf[K cmp.Ordered](k K, v string, ok bool) answer[K] {
	return answer[K]{k, v, ok}
}

func pairs[K cmp.Ordered](seq iter.Seq2[K, string]) []pair[K] {
	var out []pair[K]
	for k, v := range seq {
		out = append(out, pair[K]{k, v})
	}
	return out
}

// reference is a plain map; its answers go through all pairs in order, by the chapter's definitions.
type reference[K cmp.Ordered] map[K]string

func (r reference[K]) pairs() []pair[K] {
	var out []pair[K]
	for _, k := range slices.Sorted(maps.Keys(r)) {
		out = append(out, pair[K]{k, r[k]})
	}
	return out
}

// nearest returns the last key that is not greater than k, and the first one that is not less.
func nearest[K cmp.Ordered](list []pair[K], k K) (floor, ceil answer[K]) {
	for _, x := range list {
		if x.key <= k {
			floor = answer[K]{x.key, x.val, true}
		}
		if x.key >= k && !ceil.ok {
			ceil = answer[K]{x.key, x.val, true}
		}
	}
	return floor, ceil
}

// rest returns the pairs whose keys are not less than k, and the number of the others.
func rest[K cmp.Ordered](list []pair[K], k K) ([]pair[K], int) {
	var out []pair[K]
	less := 0
	for _, x := range list {
		if x.key < k {
			less++
		} else {
			out = append(out, x)
		}
	}
	return out, less
}

// check asks all questions: those for a key with each of the probes.
func check[K cmp.Ordered](t *testing.T, m *ordmap.Map[K, string], want reference[K], probes []K) {
	t.Helper()
	list := want.pairs()
	checkAll(t, m, list)
	checkAt(t, m, list)
	for _, k := range probes {
		checkKey(t, m, want, list, k)
	}
	// P3.10: the questions have not changed the map.
	checkAll(t, m, list)
}

func checkAll[K cmp.Ordered](t *testing.T, m *ordmap.Map[K, string], list []pair[K]) {
	t.Helper()
	if got := pairs(m.All()); !slices.Equal(got, list) {
		t.Fatalf("All: %v instead of %v", got, list)
	}
	if m.Len() != len(list) {
		t.Fatalf("Len: %d instead of %d", m.Len(), len(list))
	}
	var least, greatest answer[K]
	if n := len(list); n > 0 {
		least = answer[K]{list[0].key, list[0].val, true}
		greatest = answer[K]{list[n-1].key, list[n-1].val, true}
	}
	if got := answerOf(m.Min()); got != least {
		t.Fatalf("Min: %v instead of %v", got, least)
	}
	if got := answerOf(m.Max()); got != greatest {
		t.Fatalf("Max: %v instead of %v", got, greatest)
	}
}

func checkAt[K cmp.Ordered](t *testing.T, m *ordmap.Map[K, string], list []pair[K]) {
	t.Helper()
	for i, x := range list {
		if k, v, err := m.At(i); k != x.key || v != x.val || err != api.OK {
			t.Fatalf("At(%d): %v, %q, %d instead of %v", i, k, v, err, x)
		}
		if got := m.Rank(x.key); got != i {
			t.Fatalf("Rank(%v): %d instead of %d", x.key, got, i)
		}
	}
	n := len(list)
	for _, i := range []int{math.MinInt, math.MinInt + 1, -n - 1, -n, -2, -1, n, n + 1, 2*n + 1, 1 << 32, math.MaxInt - 1, math.MaxInt} {
		if i >= 0 && i < n {
			continue
		}
		var zero K
		if k, v, err := m.At(i); k != zero || v != "" || err != api.ErrRange {
			t.Fatalf("At(%d) of %d keys: %v, %q, %d", i, n, k, v, err)
		}
	}
}

func checkKey[K cmp.Ordered](t *testing.T, m *ordmap.Map[K, string], want reference[K], list []pair[K], k K) {
	t.Helper()
	val, ok := want[k]
	if got, found := m.Get(k); got != val || found != ok {
		t.Fatalf("Get(%v): %q, %t instead of %q, %t", k, got, found, val, ok)
	}
	floor, ceil := nearest(list, k)
	if got := answerOf(m.Floor(k)); got != floor {
		t.Fatalf("Floor(%v): %v instead of %v", k, got, floor)
	}
	if got := answerOf(m.Ceil(k)); got != ceil {
		t.Fatalf("Ceil(%v): %v instead of %v", k, got, ceil)
	}
	from, less := rest(list, k)
	if got := m.Rank(k); got != less {
		t.Fatalf("Rank(%v): %d instead of %d", k, got, less)
	}
	if got := pairs(m.From(k)); !slices.Equal(got, from) {
		t.Fatalf("From(%v): %v instead of %v", k, got, from)
	}
}

// set sets a key in both, and compares what Set returns.
func set[K cmp.Ordered](t *testing.T, m *ordmap.Map[K, string], want reference[K], k K, v string) {
	t.Helper()
	old, had := want[k]
	if got, found, err := m.Set(k, v); got != old || found != had || err != api.OK {
		t.Fatalf("Set(%v, %q): %q, %t, %d instead of %q, %t", k, v, got, found, err, old, had)
	}
	want[k] = v
}

// remove deletes a key in both, and compares what Delete returns.
func remove[K cmp.Ordered](t *testing.T, m *ordmap.Map[K, string], want reference[K], k K) {
	t.Helper()
	old, had := want[k]
	if got, found := m.Delete(k); got != old || found != had {
		t.Fatalf("Delete(%v): %q, %t instead of %q, %t", k, got, found, old, had)
	}
	delete(want, k)
}

// filled returns a map with the keys, in this order, each with its place as the value.
func filled[K cmp.Ordered](t *testing.T, keys ...K) (*ordmap.Map[K, string], reference[K]) {
	t.Helper()
	m, want := ordmap.New[K, string](), reference[K]{}
	for i, k := range keys {
		set(t, m, want, k, strconv.Itoa(i))
	}
	return m, want
}

// source makes numbers that look random, the same ones in each run.
type source uint64

func (s *source) below(n int) int {
	*s = *s*6364136223846793005 + 1442695040888963407
	return int(*s >> 33 % source(n))
}

// P3.1: a new map is empty, and each New returns another one.
func TestNew(t *testing.T) {
	m, other := ordmap.New[int, string](), ordmap.New[int, string]()
	check(t, m, reference[int]{}, []int{math.MinInt, -1, 0, 1, math.MaxInt})
	remove(t, m, reference[int]{}, 0)
	want := reference[int]{}
	set(t, m, want, 0, "")
	check(t, m, want, []int{-1, 0, 1})
	check(t, other, reference[int]{}, []int{-1, 0, 1})
}

// P3.1, R8: copies of maps of many sizes; what is done to one is not seen in the others, also when it appends at the end, where slices might share memory.
func TestCopy(t *testing.T) {
	for n := range 40 {
		m, want := filled[int](t)
		for i := range n {
			set(t, m, want, 2*i, "old")
		}
		probes := []int{-1, 0, 1, 2, n, 2*n - 2, 2*n - 1, 2 * n, 2*n + 1}
		first, second := m.Copy(), m.Copy()
		third, old := first.Copy(), maps.Clone(want)
		firstWant, secondWant := maps.Clone(want), maps.Clone(want)
		for i, k := range probes {
			set(t, first, firstWant, k, "first")
			remove(t, second, secondWant, k)
			set(t, m, want, k+2, strconv.Itoa(i))
			set(t, second, secondWant, k+1, "second")
			remove(t, m, want, k-1)
		}
		check(t, m, want, probes)
		check(t, first, firstWant, probes)
		check(t, second, secondWant, probes)
		check(t, third, old, probes)
	}
}

// P3.1: values are copied by assignment: a pointer is the same one in the copy, an array is another one.
func TestCopyOfValues(t *testing.T) {
	number := 1
	pointers := ordmap.New[string, *int]()
	pointers.Set("a", &number)
	if p, ok := pointers.Copy().Get("a"); !ok || p != &number {
		t.Error("the copy has another pointer")
	}
	arrays := ordmap.New[string, [2]int]()
	arrays.Set("a", [2]int{1, 2})
	c := arrays.Copy()
	c.Set("a", [2]int{3, 4})
	if x, ok := arrays.Get("a"); !ok || x != [2]int{1, 2} {
		t.Errorf("the copy has changed the map: %v", x)
	}
}

// P3.2, P3.3, P3.8: all sequences of six calls of Set and Delete with three keys, with all questions behind each call.
func TestAllSequences(t *testing.T) {
	const keys, depth = 3, 6
	probes := []int{0, 1, 2, 3, 4, 5, 6}
	var grow func(m *ordmap.Map[int, string], want reference[int], left int)
	grow = func(m *ordmap.Map[int, string], want reference[int], left int) {
		check(t, m, want, probes)
		if left == 0 {
			return
		}
		for k := range keys {
			with, withWant := m.Copy(), maps.Clone(want)
			set(t, with, withWant, 2*k+1, strconv.Itoa(left))
			grow(with, withWant, left-1)
			without, withoutWant := m.Copy(), maps.Clone(want)
			remove(t, without, withoutWant, 2*k+1)
			grow(without, withoutWant, left-1)
		}
	}
	grow(ordmap.New[int, string](), reference[int]{}, depth)
}

// P3.2 to P3.8: long sequences, on maps that grow, shrink, and become empty again.
func TestLongSequences(t *testing.T) {
	s := source(1)
	probes := make([]int, 60)
	for i := range probes {
		probes[i] = i - 5
	}
	for _, share := range []int{1, 4, 5, 6, 9} {
		m, want := filled[int](t)
		for i := range 600 {
			k := s.below(50)
			if s.below(10) < share {
				remove(t, m, want, k)
			} else {
				set(t, m, want, k, strconv.Itoa(i))
			}
			check(t, m, want, probes[s.below(30):][:30])
		}
		for _, k := range slices.Collect(maps.Keys(want)) {
			remove(t, m, want, k)
		}
		check(t, m, want, probes)
	}
}

// orders returns the numbers below n in several orders.
func orders(n int) [][]int {
	up, down, mixed := make([]int, n), make([]int, n), make([]int, n)
	s := source(7)
	for i := range n {
		up[i], down[i] = i, n-1-i
		j := s.below(i + 1)
		mixed[i], mixed[j] = mixed[j], i
	}
	return [][]int{up, down, mixed}
}

// P3.2 to P3.9: many keys, which are set and deleted in increasing, decreasing and mixed order.
func TestManyKeys(t *testing.T) {
	const n = 3000
	probes := []int{-1, 0, 1, 2, n - 1, n, n + 1, 2*n - 3, 2*n - 2, 2*n - 1, 2 * n}
	for _, in := range orders(n) {
		m, want := filled[int](t)
		for _, k := range in {
			set(t, m, want, 2*k, strconv.Itoa(k))
		}
		check(t, m, want, probes)
		for _, out := range orders(n) {
			c, left := m.Copy(), maps.Clone(want)
			for i, k := range out {
				remove(t, c, left, 2*k)
				remove(t, c, left, 2*k)
				if i%500 == 499 {
					check(t, c, left, probes)
				}
			}
		}
		check(t, m, want, probes)
	}
}

// P3.2, P3.3: a value that is the zero value is there all the same.
func TestZeroValues(t *testing.T) {
	m := ordmap.New[int, int]()
	if v, had, err := m.Set(0, 0); v != 0 || had || err != api.OK {
		t.Error("the first Set", v, had, err)
	}
	if v, ok := m.Get(0); v != 0 || !ok {
		t.Error("Get", v, ok)
	}
	if k, v, ok := m.Min(); k != 0 || v != 0 || !ok {
		t.Error("Min", k, v, ok)
	}
	if v, had, err := m.Set(0, 7); v != 0 || !had || err != api.OK {
		t.Error("the second Set", v, had, err)
	}
	if v, had, err := m.Set(0, 0); v != 7 || !had || err != api.OK {
		t.Error("the third Set", v, had, err)
	}
	if v, ok := m.Delete(0); v != 0 || !ok || m.Len() != 0 {
		t.Error("Delete", v, ok, m.Len())
	}
}

// everyKey checks maps of some of the keys, of which there are at most 16, with all of them as probes.
func everyKey[K cmp.Ordered](t *testing.T, keys ...K) {
	t.Helper()
	for part := range 1 << len(keys) {
		m, want := filled[K](t)
		for i, k := range keys {
			if part>>i&1 == 1 {
				set(t, m, want, k, strconv.Itoa(i))
			}
		}
		check(t, m, want, keys)
		for i, k := range keys {
			if i%2 == 0 {
				remove(t, m, want, k)
			}
		}
		check(t, m, want, keys)
	}
}

// P3.4 to P3.9: the extreme keys of each kind of type, a type of the program's own among them.
func TestTypesOfKeys(t *testing.T) {
	everyKey[int](t, 0, math.MaxInt, math.MinInt, -1, 1, math.MaxInt-1, math.MinInt+1)
	everyKey[int8](t, 127, -128, 0, -1, 1, 126)
	everyKey[uint64](t, math.MaxUint64, 0, 1<<63, 1<<63-1, 1, math.MaxUint64-1)
	everyKey[uint8](t, 255, 0, 128, 127, 1)
	everyKey[string](t, "", "a", "ab", "b", "\x00", "a\x00", "\xff", "A", "é")
	type name string
	everyKey[name](t, "z", "", "zz", "y")
	inf := math.Inf(1)
	everyKey[float64](t, 0, inf, -inf, -0.5, math.SmallestNonzeroFloat64, math.MaxFloat64, -math.MaxFloat64, 0.5)
}

// P3.2: neither of two zeros of a floating-point type is less than the other, so that they are one key.
func TestTwoZeros(t *testing.T) {
	zero, negative := 0.0, math.Copysign(0, -1)
	m, want := filled(t, 1, zero, -1)
	set(t, m, want, negative, "negative")
	check(t, m, want, []float64{negative, zero, -1, 1})
	remove(t, m, want, negative)
	check(t, m, want, []float64{negative, zero, -1, 1})
}

// P3.7, R7: a loop that ends early has seen the first keys; each loop begins anew.
func TestLoopsThatEndEarly(t *testing.T) {
	m, want := filled(t, 5, 3, 9, 1, 7)
	list := want.pairs()
	for from := range 11 {
		tail, less := rest(list, from)
		all, some := m.All(), m.From(from)
		for stop := range len(list) + 1 {
			if got := firstOf(all, stop); !slices.Equal(got, list[:stop]) {
				t.Errorf("the first %d of All: %v", stop, got)
			}
			n := min(stop, len(list)-less)
			if got := firstOf(some, n); !slices.Equal(got, tail[:n]) {
				t.Errorf("the first %d of From(%d): %v", n, from, got)
			}
		}
		if got := pairs(all); !slices.Equal(got, list) {
			t.Errorf("All again: %v", got)
		}
		if got := pairs(some); !slices.Equal(got, tail) {
			t.Errorf("From(%d) again: %v", from, got)
		}
	}
	check(t, m, want, []int{0, 1, 2, 9})
}

// firstOf ends the loop with the n-th pair.
func firstOf[K cmp.Ordered](seq iter.Seq2[K, string], n int) []pair[K] {
	var out []pair[K]
	if n == 0 {
		return out
	}
	for k, v := range seq {
		out = append(out, pair[K]{k, v})
		if len(out) == n {
			break
		}
	}
	return out
}

// P3.7, R7: an iterator yields what the map has when the loop begins, not what it had when the iterator was made.
func TestLoopsBehindChanges(t *testing.T) {
	m, want := filled[int](t)
	all, from := m.All(), m.From(4)
	for i, k := range []int{6, 2, 4, 5, 3, 9, 1} {
		set(t, m, want, k, strconv.Itoa(i))
		tail, _ := rest(want.pairs(), 4)
		if got := pairs(all); !slices.Equal(got, want.pairs()) {
			t.Errorf("All behind Set(%d): %v", k, got)
		}
		if got := pairs(from); !slices.Equal(got, tail) {
			t.Errorf("From(4) behind Set(%d): %v", k, got)
		}
	}
	for _, k := range []int{2, 4, 1, 9, 6, 3, 5} {
		remove(t, m, want, k)
		tail, _ := rest(want.pairs(), 4)
		if got := pairs(all); !slices.Equal(got, want.pairs()) {
			t.Errorf("All behind Delete(%d): %v", k, got)
		}
		if got := pairs(from); !slices.Equal(got, tail) {
			t.Errorf("From(4) behind Delete(%d): %v", k, got)
		}
	}
}

// P3.7, P3.10: loops within loops, and questions and copies within them.
func TestLoopsWithinLoops(t *testing.T) {
	m, want := filled(t, 4, 1, 3, 2)
	list := want.pairs()
	all := m.All()
	var outer []pair[int]
	for k, v := range all {
		outer = append(outer, pair[int]{k, v})
		tail, _ := rest(list, k)
		if got := pairs(m.From(k)); !slices.Equal(got, tail) {
			t.Errorf("From(%d) within All: %v", k, got)
		}
		check(t, m, want, []int{0, k, 5})
		c := m.Copy()
		c.Delete(k)
		c.Set(100, "")
		if got := pairs(all); !slices.Equal(got, list) {
			t.Errorf("All within All: %v", got)
		}
	}
	if !slices.Equal(outer, list) {
		t.Errorf("All around other loops: %v", outer)
	}
}

// P3.8: the calls with one key leave all other keys as they are.
func TestOtherKeysStay(t *testing.T) {
	keys := []string{"", "a", "aa", "ab", "b", "ba", "c"}
	for _, k := range keys {
		for _, change := range []func(*ordmap.Map[string, string]){
			func(m *ordmap.Map[string, string]) { m.Set(k, "new") },
			func(m *ordmap.Map[string, string]) { m.Set(k+"\x00", "new") },
			func(m *ordmap.Map[string, string]) { m.Delete(k) },
			func(m *ordmap.Map[string, string]) { m.Delete(k + "\x00") },
		} {
			m, want := filled(t, keys...)
			change(m)
			for _, other := range keys {
				if v, ok := m.Get(other); other != k && (!ok || v != want[other]) {
					t.Errorf("a change of %q: Get(%q) returns %q, %t", k, other, v, ok)
				}
			}
		}
	}
}

// P3.9: At and Rank are inverse, and the nearest keys are those of the sequence, between the keys as well.
func TestOrder(t *testing.T) {
	m, _ := filled(t, 30, 10, 20, 50, 40)
	var seen []int
	for k := range m.All() {
		k2, _, err := m.At(len(seen))
		if m.Rank(k) != len(seen) || k2 != k || err != api.OK {
			t.Errorf("%d: Rank %d, At %d, %d", k, m.Rank(k), k2, err)
		}
		seen = append(seen, k)
	}
	if !slices.Equal(seen, []int{10, 20, 30, 40, 50}) {
		t.Errorf("All: %v", seen)
	}
	for k := range 60 {
		floor, _, ok := m.Floor(k)
		if ok != (k >= 10) || ok && floor != min(k/10*10, 50) {
			t.Errorf("Floor(%d): %d, %t", k, floor, ok)
		}
		ceil, _, ok := m.Ceil(k)
		if ok != (k <= 50) || ok && ceil != max((k+9)/10*10, 10) {
			t.Errorf("Ceil(%d): %d, %t", k, ceil, ok)
		}
	}
}

// invalid returns the maps that were not returned by New or Copy.
func invalid() map[string]*ordmap.Map[int, string] {
	m := ordmap.New[int, string]()
	m.Set(1, "one")
	assigned := *m
	overwritten := ordmap.New[int, string]()
	*overwritten = *m
	return map[string]*ordmap.Map[int, string]{"nil": nil, "a zero value": {}, "a copy by assignment": &assigned, "an overwritten map": overwritten}
}

// R2, P3.2, P3.6: ErrNil and zero values with maps that are not valid, also where another error would apply.
func TestInvalidMaps(t *testing.T) {
	for name, m := range invalid() {
		for range 2 {
			for _, k := range []int{math.MinInt, -1, 0, 1, math.MaxInt} {
				if v, had, err := m.Set(k, "x"); v != "" || had || err != api.ErrNil {
					t.Errorf("%s: Set(%d): %q, %t, %d", name, k, v, had, err)
				}
				if k, v, err := m.At(k); k != 0 || v != "" || err != api.ErrNil {
					t.Errorf("%s: At(%d): %q, %d", name, k, v, err)
				}
				if got, ok := m.Get(k); got != "" || ok {
					t.Errorf("%s: Get(%d): %q, %t", name, k, got, ok)
				}
				if got, ok := m.Delete(k); got != "" || ok {
					t.Errorf("%s: Delete(%d): %q, %t", name, k, got, ok)
				}
				invalidOrder(t, name, m, k)
			}
		}
	}
}

// invalidOrder asks for the order of the keys of a map that is not valid.
func invalidOrder(t *testing.T, name string, m *ordmap.Map[int, string], k int) {
	t.Helper()
	none := answer[int]{}
	if answerOf(m.Min()) != none || answerOf(m.Max()) != none || answerOf(m.Floor(k)) != none || answerOf(m.Ceil(k)) != none {
		t.Errorf("%s: it has keys near %d", name, k)
	}
	if m.Len() != 0 || m.Rank(k) != 0 {
		t.Errorf("%s: Len %d, Rank(%d) %d", name, m.Len(), k, m.Rank(k))
	}
	if all, from := pairs(m.All()), pairs(m.From(k)); len(all) != 0 || len(from) != 0 {
		t.Errorf("%s: All yields %v, From(%d) %v", name, all, k, from)
	}
	if m.Copy() != nil {
		t.Errorf("%s: there is a Copy", name)
	}
}

// R2: what is done to a copy by assignment is not seen in the map.
func TestCopyByAssignmentChangesNothing(t *testing.T) {
	m, want := filled(t, 2, 1, 3)
	assigned := *m
	assigned.Set(1, "changed")
	assigned.Set(0, "new")
	assigned.Delete(2)
	check(t, m, want, []int{0, 1, 2, 3, 4})
}

// P3.10, R1: each question alone, each error, and Delete of a key that is not there leave the map as it was.
func TestQuestionsChangeNothing(t *testing.T) {
	questions := map[string]func(m *ordmap.Map[int, string], k int){
		"Get":    func(m *ordmap.Map[int, string], k int) { m.Get(k) },
		"Len":    func(m *ordmap.Map[int, string], _ int) { m.Len() },
		"Min":    func(m *ordmap.Map[int, string], _ int) { m.Min() },
		"Max":    func(m *ordmap.Map[int, string], _ int) { m.Max() },
		"Floor":  func(m *ordmap.Map[int, string], k int) { m.Floor(k) },
		"Ceil":   func(m *ordmap.Map[int, string], k int) { m.Ceil(k) },
		"At":     func(m *ordmap.Map[int, string], k int) { m.At(k) },
		"Rank":   func(m *ordmap.Map[int, string], k int) { m.Rank(k) },
		"All":    func(m *ordmap.Map[int, string], _ int) { pairs(m.All()) },
		"From":   func(m *ordmap.Map[int, string], k int) { pairs(m.From(k)) },
		"Copy":   func(m *ordmap.Map[int, string], _ int) { m.Copy() },
		"Delete": func(m *ordmap.Map[int, string], k int) { m.Delete(2*k + 1000001) },
	}
	for name, ask := range questions {
		for n := range 6 {
			keys := make([]int, n)
			for i := range keys {
				keys[i] = 2 * i
			}
			m, want := filled(t, keys...)
			for k := -3; k < 2*n+3; k++ {
				ask(m, k)
				if got := pairs(m.All()); !slices.Equal(got, want.pairs()) {
					t.Errorf("%s with %d: the map has %v instead of %v", name, k, got, want.pairs())
				}
			}
		}
	}
}

// R4: a value is kept as it was given, whatever becomes of the variables of the caller.
func TestMemory(t *testing.T) {
	m := ordmap.New[int, [3]int]()
	v := [3]int{1, 2, 3}
	m.Set(1, v)
	v[0] = 9
	got, _ := m.Get(1)
	got[1] = 9
	for _, x := range m.All() {
		x[2] = 9
	}
	if got, ok := m.Get(1); !ok || got != [3]int{1, 2, 3} {
		t.Errorf("Get: %v, %t", got, ok)
	}
}

// P3.2: values of any type, also of those that cannot be compared.
func TestTypesOfValues(t *testing.T) {
	functions := ordmap.New[string, func() int]()
	for i := range 5 {
		if f, had, err := functions.Set(strconv.Itoa(i), func() int { return i }); f != nil || had || err != api.OK {
			t.Error(i, had, err)
		}
	}
	for k, f := range functions.All() {
		if strconv.Itoa(f()) != k {
			t.Errorf("%s: %d", k, f())
		}
	}
	failures := ordmap.New[int, error]()
	failures.Set(1, nil)
	if err, ok := failures.Get(1); err != nil || !ok {
		t.Error(err, ok)
	}
	bytes := ordmap.New[int, []byte]()
	bytes.Set(1, []byte("ab"))
	if b, had, err := bytes.Set(1, nil); string(b) != "ab" || !had || err != api.OK {
		t.Error(b, had, err)
	}
	if b, ok := bytes.Delete(1); b != nil || !ok {
		t.Error(b, ok)
	}
	nested := ordmap.New[int, *ordmap.Map[int, string]]()
	inner, want := filled(t, 2, 1)
	nested.Set(1, inner)
	got, _ := nested.Get(1)
	check(t, got, want, []int{0, 1, 2, 3})
}

// R8: maps that have come to the same keys in different ways behave alike, also when they are asked at the same time.
func TestDeterminism(t *testing.T) {
	var list []*ordmap.Map[int, string]
	want := reference[int]{}
	for _, order := range orders(100) {
		m := ordmap.New[int, string]()
		for _, k := range order {
			m.Set(k, "old")
			m.Set(k-200, "gone")
			m.Set(k, strconv.Itoa(k))
			want[k] = strconv.Itoa(k)
		}
		for _, k := range order {
			m.Delete(k - 200)
		}
		list = append(list, m, m.Copy())
	}
	probes := []int{-200, -1, 0, 50, 99, 100}
	var group sync.WaitGroup
	for _, m := range list {
		for range 2 {
			group.Go(func() {
				for _, k := range probes {
					from, less := rest(want.pairs(), k)
					if !slices.Equal(pairs(m.From(k)), from) || m.Rank(k) != less {
						t.Errorf("From(%d), Rank(%d): %v, %d", k, k, pairs(m.From(k)), m.Rank(k))
					}
				}
			})
		}
	}
	group.Wait()
	for _, m := range list {
		check(t, m, want, probes)
	}
}

// The examples of the chapter.
func TestExamples(t *testing.T) {
	m := ordmap.New[int, string]()
	for _, x := range []struct {
		k         int
		v, before string
		had       bool
	}{{5, "a", "", false}, {2, "b", "", false}, {9, "c", "", false}, {5, "d", "a", true}} {
		if v, had, err := m.Set(x.k, x.v); v != x.before || had != x.had || err != api.OK {
			t.Errorf("Set(%d, %q): %q, %t, %d", x.k, x.v, v, had, err)
		}
	}
	check(t, m, reference[int]{2: "b", 5: "d", 9: "c"}, []int{5, 4, 1, 10, 2, 3, 100})
	if answerOf(m.Floor(4)) != (answer[int]{2, "b", true}) || answerOf(m.Ceil(4)) != (answer[int]{5, "d", true}) {
		t.Error("Floor(4), Ceil(4)")
	}
	if answerOf(m.Floor(1)) != (answer[int]{}) || answerOf(m.Ceil(10)) != (answer[int]{}) {
		t.Error("Floor(1), Ceil(10)")
	}
	for i, want := range map[int]api.Errno{0: api.OK, 2: api.OK, 3: api.ErrRange, -1: api.ErrRange} {
		if _, _, err := m.At(i); err != want {
			t.Errorf("At(%d): %d", i, err)
		}
	}
	if m.Rank(2) != 0 || m.Rank(3) != 1 || m.Rank(100) != 3 {
		t.Error("Rank", m.Rank(2), m.Rank(3), m.Rank(100))
	}
	if got := pairs(m.From(3)); !slices.Equal(got, []pair[int]{{5, "d"}, {9, "c"}}) {
		t.Errorf("From(3): %v", got)
	}
	if v, ok := m.Delete(2); v != "b" || !ok {
		t.Errorf("Delete(2): %q, %t", v, ok)
	}
	if v, ok := m.Delete(2); v != "" || ok {
		t.Errorf("Delete(2) again: %q, %t", v, ok)
	}
	if answerOf(m.Min()) != (answer[int]{5, "d", true}) {
		t.Error("Min")
	}
}

// P1: no call panics or runs on, whatever the keys and indexes are: also with NaN, of which nothing else is promised.
func FuzzNoPanic(f *testing.F) {
	f.Add([]byte{}, 0)
	f.Add([]byte{1, 9, 17, 2, 10, 18, 3}, -1)
	f.Add([]byte{7, 1, 15, 7, 23, 2, 0, 7, 255, 31}, math.MaxInt)
	f.Add([]byte{200, 100, 50, 25, 12, 6, 3, 1, 7, 7, 7, 15, 15, 15}, math.MinInt)
	f.Fuzz(func(t *testing.T, calls []byte, i int) {
		keys := [8]float64{0, 1, -1, math.Inf(1), math.Inf(-1), math.MaxFloat64, math.Copysign(0, -1), math.NaN()}
		m := ordmap.New[float64, int]()
		for n, c := range calls {
			k := keys[c%8]
			switch c / 8 % 8 {
			case 0:
				m.Delete(k)
			case 1:
				m = m.Copy()
			default:
				m.Set(k, n)
			}
			m.Get(k)
			m.Min()
			m.Max()
			m.Floor(k)
			m.Ceil(k)
			m.At(i)
			m.At(m.Rank(k))
			for range m.From(k) {
				m.Len()
			}
		}
		n := 0
		for range m.All() {
			n++
		}
		if n != m.Len() || n > len(calls) {
			t.Errorf("Len %d, but All yields %d keys", m.Len(), n)
		}
	})
}
