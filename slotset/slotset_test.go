package slotset_test

import (
	"iter"
	"math"
	"reflect"
	"slices"
	"sync"
	"testing"

	"drumlin/api"
	"drumlin/slotset"
)

// faces has the calls of the chapter: a change of one of their signatures does not compile.
type faces interface {
	Add(i int) api.Errno
	Remove(i int) api.Errno
	Has(i int) bool
	Len() int
	Lowest() (int, bool)
	Next(from int) (int, bool)
	All() iter.Seq[int]
	Union(t *slotset.Set) api.Errno
	Minus(t *slotset.Set) api.Errno
	Size() int
	Copy() *slotset.Set
}

var (
	_ func(int) (*slotset.Set, api.Errno) = slotset.New
	_ faces                               = (*slotset.Set)(nil)
)

const maxSize = 34

// far has numbers that are no slot, and no size, of any set. Some of them would be one if they lost their high bits.
var far = []int{math.MinInt, math.MinInt + 5, -1 << 32, -(1 << 32) + 3, -64, -63, -34, -2, -1, 35, 63, 64, 65, 128, 255, 256, 257, 1<<32 + 1, 1 << 40, math.MaxInt - 1, math.MaxInt}

func slots(seq iter.Seq[int]) []int {
	var out []int
	for i := range seq {
		out = append(out, i)
	}
	return out
}

// first ends the loop with the n-th slot.
func first(seq iter.Seq[int], n int) []int {
	var out []int
	if n == 0 {
		return out
	}
	for i := range seq {
		out = append(out, i)
		if len(out) == n {
			break
		}
	}
	return out
}

// both is a set, and by the chapter's definitions what it should have: for each slot of its size whether it is there.
type both struct {
	s    *slotset.Set
	want []bool
}

func made(t *testing.T, size int, list ...int) *both {
	t.Helper()
	s, err := slotset.New(size)
	if s == nil || err != api.OK {
		t.Fatalf("New(%d): %d", size, err)
	}
	b := &both{s, make([]bool, size)}
	for _, i := range list {
		b.add(t, i)
	}
	return b
}

// masked returns the set of the slots whose bits are set in the mask.
func masked(t *testing.T, size, mask int) *both {
	t.Helper()
	b := made(t, size)
	for i := range size {
		if mask>>i&1 == 1 {
			b.add(t, i)
		}
	}
	return b
}

func (b *both) copied() *both {
	return &both{b.s.Copy(), slices.Clone(b.want)}
}

func (b *both) exists(i int) bool {
	return i >= 0 && i < len(b.want)
}

// list returns the slots that should be there and are not less than from.
func (b *both) list(from int) []int {
	var out []int
	for i, is := range b.want {
		if is && i >= from {
			out = append(out, i)
		}
	}
	return out
}

func (b *both) add(t *testing.T, i int) {
	t.Helper()
	b.change(t, "Add", i, true, b.s.Add(i))
}

func (b *both) remove(t *testing.T, i int) {
	t.Helper()
	b.change(t, "Remove", i, false, b.s.Remove(i))
}

func (b *both) change(t *testing.T, call string, i int, is bool, err api.Errno) {
	t.Helper()
	want := api.ErrRange
	if b.exists(i) {
		want = api.OK
		b.want[i] = is
	}
	if err != want {
		t.Fatalf("%s(%d) with the size %d: %d instead of %d", call, i, len(b.want), err, want)
	}
}

func (b *both) union(t *testing.T, o *both) {
	t.Helper()
	b.combine(t, "Union", o, b.s.Union(o.s), func(is, other bool) bool { return is || other })
}

func (b *both) minus(t *testing.T, o *both) {
	t.Helper()
	b.combine(t, "Minus", o, b.s.Minus(o.s), func(is, other bool) bool { return is && !other })
}

func (b *both) combine(t *testing.T, call string, o *both, err api.Errno, rule func(is, other bool) bool) {
	t.Helper()
	want := api.ErrArg
	if len(b.want) == len(o.want) {
		want = api.OK
		for i := range b.want {
			b.want[i] = rule(b.want[i], o.want[i])
		}
	}
	if err != want {
		t.Fatalf("%s with the sizes %d and %d: %d instead of %d", call, len(b.want), len(o.want), err, want)
	}
}

// check asks all questions, for all slots and some that do not exist.
func (b *both) check(t *testing.T) {
	t.Helper()
	b.checkWhole(t)
	for i := -2; i < len(b.want)+3; i++ {
		b.checkSlot(t, i)
	}
	for _, i := range far {
		b.checkSlot(t, i)
	}
	// P8.8: the questions have not changed the set.
	b.checkWhole(t)
}

func (b *both) checkWhole(t *testing.T) {
	t.Helper()
	want := b.list(0)
	if got := slots(b.s.All()); !slices.Equal(got, want) {
		t.Fatalf("All: %v instead of %v", got, want)
	}
	if b.s.Len() != len(want) || b.s.Size() != len(b.want) {
		t.Fatalf("Len %d, Size %d of %v with the size %d", b.s.Len(), b.s.Size(), want, len(b.want))
	}
	expectFirst(t, "Lowest", want, b.s.Lowest)
}

func (b *both) checkSlot(t *testing.T, i int) {
	t.Helper()
	if want := b.exists(i) && b.want[i]; b.s.Has(i) != want {
		t.Fatalf("Has(%d) with %v of the size %d: %v", i, b.list(0), len(b.want), !want)
	}
	expectFirst(t, "Next", b.list(i), func() (int, bool) { return b.s.Next(i) })
}

// expectFirst compares what a call returns with the first one of the slots, if there is one.
func expectFirst(t *testing.T, call string, list []int, ask func() (int, bool)) {
	t.Helper()
	want, is := 0, len(list) > 0
	if is {
		want = list[0]
	}
	if got, found := ask(); got != want || found != is {
		t.Fatalf("%s: %d, %v instead of the first of %v", call, got, found, list)
	}
}

// source makes numbers that look random, the same ones in each run.
type source uint64

func (s *source) below(n int) int {
	*s = *s*6364136223846793005 + 1442695040888963407
	return int(*s >> 33 % source(n))
}

// P8.1: all sizes that there are, and what is beyond them.
func TestNewSizes(t *testing.T) {
	if maxSize != api.MaxSlots+2 {
		t.Fatal("the tests are for another limit")
	}
	for size := 1; size <= maxSize; size++ {
		s, err := slotset.New(size)
		if s == nil || err != api.OK || s.Size() != size || s.Len() != 0 {
			t.Errorf("New(%d): %v, %d", size, s, err)
		}
	}
	for _, size := range append(far, 0, 36, 40, 66) {
		if s, err := slotset.New(size); s != nil || err != api.ErrArg {
			t.Errorf("New(%d): %v, %d", size, s, err)
		}
	}
}

// P8.1: a new set is empty, and each New returns another one.
func TestNewIsEmpty(t *testing.T) {
	for size := 1; size <= maxSize; size++ {
		b, other := made(t, size), made(t, size)
		b.check(t)
		for i := range size {
			b.add(t, i)
		}
		b.check(t)
		other.check(t)
		made(t, size).check(t)
	}
}

// P8.2: each slot of each size is added to, and removed from, sets that have it, and sets that do not have it.
func TestEachSlot(t *testing.T) {
	for size := 1; size <= maxSize; size++ {
		for i := range size {
			for _, others := range []int{0, 1<<size - 1, 0x2AAAAAAAA, 0x155555555} {
				b := masked(t, size, others)
				for range 2 {
					b.add(t, i)
					b.checkWhole(t)
					b.checkSlot(t, i)
				}
				for range 2 {
					b.remove(t, i)
					b.checkWhole(t)
					b.checkSlot(t, i)
				}
			}
		}
	}
}

// P8.2, P8.8: slots that do not exist can neither be added nor removed; the set stays.
func TestSlotsThatDoNotExist(t *testing.T) {
	for size := 1; size <= maxSize; size++ {
		for _, mask := range []int{0, 1, 1 << (size - 1), 1<<size - 1} {
			b := masked(t, size, mask)
			for _, i := range append(far, size, size+1, size+2, maxSize, -size) {
				if err := b.s.Add(i); err != api.ErrRange {
					t.Errorf("Add(%d) with the size %d: %d", i, size, err)
				}
				b.checkWhole(t)
				if err := b.s.Remove(i); err != api.ErrRange {
					t.Errorf("Remove(%d) with the size %d: %d", i, size, err)
				}
				b.checkWhole(t)
			}
			b.check(t)
		}
	}
}

// P8.1 to P8.4: all questions to all sets of small sizes.
func TestAllSmallSets(t *testing.T) {
	for size := 1; size <= 8; size++ {
		for mask := range 1 << size {
			b := masked(t, size, mask)
			b.check(t)
			b.copied().check(t)
		}
	}
}

// P8.3, P8.4: all sets of two slots at most, and all that lack two at most, with sizes around those of machine words.
func TestLargeSets(t *testing.T) {
	for _, size := range []int{31, 32, 33, 34} {
		for i := range size {
			for j := range i + 1 {
				pair := 1<<i | 1<<j
				masked(t, size, pair).check(t)
				masked(t, size, 1<<size-1-pair).check(t)
			}
		}
		masked(t, size, 0).check(t)
		masked(t, size, 1<<size-1).check(t)
	}
}

// P8.5, P8.7: union and difference of all pairs of sets of a small size; the other set stays.
func TestAllPairs(t *testing.T) {
	for size := 1; size <= 5; size++ {
		for x := range 1 << size {
			for y := range 1 << size {
				b, o := masked(t, size, x), masked(t, size, y)
				b.union(t, o)
				b.check(t)
				o.check(t)
				b.minus(t, o)
				b.check(t)
				o.check(t)
				if want := masked(t, size, x&^y); !slices.Equal(b.want, want.want) {
					t.Errorf("Union and Minus: %v instead of %v", b.list(0), want.list(0))
				}
				b = masked(t, size, x)
				b.minus(t, o)
				b.check(t)
				o.check(t)
			}
		}
	}
}

// P8.7: a slot is in the union exactly if it is in one of both; Minus leaves no slot of the other set, and all slots that are not in it.
func TestUnionAndMinusFitTogether(t *testing.T) {
	s := source(3)
	for i := range 400 {
		size := i%maxSize + 1
		b, o := masked(t, size, s.below(1<<30)<<4|s.below(16)), masked(t, size, s.below(1<<30)<<4|s.below(16))
		u := b.s.Copy()
		if err := u.Union(o.s); err != api.OK {
			t.Fatal(err)
		}
		for i := range size {
			if u.Has(i) != (b.s.Has(i) || o.s.Has(i)) {
				t.Fatalf("%d is in the union: %v", i, u.Has(i))
			}
		}
		if err := u.Minus(o.s); err != api.OK {
			t.Fatal(err)
		}
		for i := range size {
			if u.Has(i) != (b.s.Has(i) && !o.s.Has(i)) {
				t.Fatalf("%d is there behind Union and Minus: %v", i, u.Has(i))
			}
		}
		b.check(t)
		o.check(t)
	}
}

// P8.5: with itself, Union changes nothing, and Minus removes all.
func TestSameSet(t *testing.T) {
	for size := 1; size <= maxSize; size++ {
		for _, mask := range []int{0, 1, 1 << (size - 1), 0x2AAAAAAAA, 1<<size - 1} {
			b := masked(t, size, mask)
			if err := b.s.Union(b.s); err != api.OK {
				t.Errorf("Union: %d", err)
			}
			b.check(t)
			if err := b.s.Minus(b.s); err != api.OK || b.s.Len() != 0 || b.s.Size() != size {
				t.Errorf("Minus: %d, Len %d, Size %d", err, b.s.Len(), b.s.Size())
			}
			b.want = make([]bool, size)
			b.check(t)
			b.add(t, size-1)
			b.check(t)
		}
	}
}

// P8.5, P8.8: sets of different sizes do not go together, also if the slots would; both stay.
func TestSizesThatDiffer(t *testing.T) {
	for x := 1; x <= maxSize; x++ {
		for y := 1; y <= maxSize; y++ {
			for _, mask := range []int{0, 1, 1<<maxSize - 1} {
				b, o := masked(t, x, 1<<(x/2)), masked(t, y, mask)
				b.union(t, o)
				b.checkWhole(t)
				b.minus(t, o)
				b.checkWhole(t)
				o.checkWhole(t)
			}
		}
	}
}

// P8.5, R4: a set keeps nothing of the other one: what is done to one of them later is not seen in the other.
func TestSetsStayApart(t *testing.T) {
	for size := 2; size <= maxSize; size++ {
		b, o := made(t, size, 0), made(t, size, size-1)
		b.union(t, o)
		o.remove(t, size-1)
		o.add(t, size/2)
		b.check(t)
		b.minus(t, o)
		o.add(t, 0)
		b.check(t)
		b.remove(t, size-1)
		o.check(t)
	}
}

// P8.1, R8: what is done to a copy is not seen in the others.
func TestCopy(t *testing.T) {
	for size := 1; size <= maxSize; size++ {
		for _, mask := range []int{0, 1, 1 << (size - 1), 0x155555555, 1<<size - 1} {
			b := masked(t, size, mask)
			same, grown, shrunk := b.copied(), b.copied(), b.copied()
			again := grown.copied()
			for i := range size {
				grown.add(t, i)
				shrunk.remove(t, i)
			}
			for _, x := range []*both{b, same, grown, shrunk, again} {
				x.check(t)
			}
			b.minus(t, grown)
			same.check(t)
			again.union(t, shrunk)
			again.check(t)
			shrunk.check(t)
		}
	}
}

// P8.6: all sequences of calls for two slots among others: what counts is the last call for each slot.
func TestAllSequences(t *testing.T) {
	const depth = 6
	var grow func(b *both, left int)
	grow = func(b *both, left int) {
		b.checkWhole(t)
		if left == 0 {
			return
		}
		for _, i := range []int{1, 3} {
			added, removed := b.copied(), b.copied()
			added.add(t, i)
			grow(added, left-1)
			removed.remove(t, i)
			grow(removed, left-1)
		}
		// What was done to the copies is not seen here.
		b.checkWhole(t)
	}
	grow(made(t, 5, 0), depth)
	grow(made(t, 5, 1, 2, 3), depth)
}

// P8.6: the same slots, added in different orders and more than once, with others that are removed again, are the same set.
func TestOrderDoesNotMatter(t *testing.T) {
	s := source(11)
	for round := range 60 {
		size := maxSize - round%7
		mask := s.below(1<<30) << 4
		want := masked(t, size, mask)
		list := want.list(0)
		for range 5 {
			b := made(t, size)
			for i := range size {
				if s.below(3) == 0 {
					b.add(t, i)
				}
			}
			for i := range size {
				if !want.want[i] {
					b.remove(t, i)
				}
			}
			for n := len(list); n > 0; n-- {
				k := s.below(n)
				list[k], list[n-1] = list[n-1], list[k]
				b.add(t, list[n-1])
				b.add(t, list[s.below(len(list))])
			}
			if !slices.Equal(slots(b.s.All()), want.list(0)) {
				t.Fatalf("%v instead of %v", slots(b.s.All()), want.list(0))
			}
			b.check(t)
		}
	}
}

// P8.1 to P8.7: long sequences of all calls, on sets of each size.
func TestLongSequences(t *testing.T) {
	s := source(1)
	for size := 1; size <= maxSize; size++ {
		list := []*both{made(t, size), made(t, size), made(t, size)}
		for range 300 {
			k := s.below(len(list))
			b, o := list[k], list[s.below(len(list))]
			switch s.below(12) {
			case 0:
				b.union(t, o)
			case 1:
				b.minus(t, o)
			case 2:
				list[k] = o.copied()
			case 3, 4, 5:
				b.remove(t, s.below(size+2)-1)
			default:
				b.add(t, s.below(size+2)-1)
			}
			for _, x := range list {
				x.checkWhole(t)
			}
		}
		for _, x := range list {
			x.check(t)
		}
	}
}

// P8.4: Next, from one slot to the one behind it, finds the slots that All yields.
func TestNextFindsAll(t *testing.T) {
	s := source(5)
	for range 100 {
		b := masked(t, maxSize, s.below(1<<30)<<4|s.below(16))
		var got []int
		for i, found := b.s.Lowest(); found; i, found = b.s.Next(i + 1) {
			got = append(got, i)
			if same, found := b.s.Next(i); same != i || !found {
				t.Fatalf("Next(%d): %d, %v", i, same, found)
			}
		}
		if all := slots(b.s.All()); !slices.Equal(got, all) || !slices.Equal(got, b.list(0)) {
			t.Fatalf("Next: %v, All: %v", got, all)
		}
	}
}

// P8.8, R1: each question, each Copy, and each call that returns an error, leaves the set as it was.
func TestQuestionsChangeNothing(t *testing.T) {
	questions := map[string]func(s *slotset.Set, i int){
		"Add of no slot":            func(s *slotset.Set, i int) { s.Add(far[i]) },
		"Add of the size":           func(s *slotset.Set, i int) { s.Add(8 + i) },
		"Remove of no slot":         func(s *slotset.Set, i int) { s.Remove(far[i]) },
		"Remove of the size":        func(s *slotset.Set, i int) { s.Remove(8 + i) },
		"Has":                       func(s *slotset.Set, i int) { s.Has(i); s.Has(far[i]) },
		"Len and Size":              func(s *slotset.Set, _ int) { s.Len(); s.Size() },
		"Lowest":                    func(s *slotset.Set, _ int) { s.Lowest() },
		"Next":                      func(s *slotset.Set, i int) { s.Next(i); s.Next(far[i]) },
		"All":                       func(s *slotset.Set, _ int) { slots(s.All()) },
		"All, only made":            func(s *slotset.Set, _ int) { s.All() },
		"All, ended early":          func(s *slotset.Set, i int) { first(s.All(), i%4) },
		"Union with nil":            func(s *slotset.Set, _ int) { s.Union(nil) },
		"Minus with nil":            func(s *slotset.Set, _ int) { s.Minus(nil) },
		"Union with no set":         func(s *slotset.Set, _ int) { s.Union(&slotset.Set{}) },
		"Minus with no set":         func(s *slotset.Set, _ int) { s.Minus(&slotset.Set{}) },
		"Union with another size":   func(s *slotset.Set, i int) { o := full(9 + i); s.Union(o); o.Union(s) },
		"Minus with another size":   func(s *slotset.Set, i int) { o := full(9 + i); s.Minus(o); o.Minus(s) },
		"Union of another one":      func(s *slotset.Set, _ int) { full(8).Union(s) },
		"Minus of another one":      func(s *slotset.Set, _ int) { full(8).Minus(s) },
		"Copy":                      func(s *slotset.Set, _ int) { s.Copy() },
		"Add and Remove of a copy":  func(s *slotset.Set, i int) { c := s.Copy(); c.Add(i % 8); c.Remove(5) },
		"Union and Minus of a copy": func(s *slotset.Set, _ int) { c := s.Copy(); c.Union(full(8)); c.Minus(s); c.Minus(c) },
	}
	for name, ask := range questions {
		b := made(t, 8, 1, 2, 5)
		for i := range far {
			ask(b.s, i)
			if got := slots(b.s.All()); !slices.Equal(got, []int{1, 2, 5}) || b.s.Size() != 8 {
				t.Errorf("%s: the set has %v", name, got)
			}
		}
		b.check(t)
	}
}

// full returns the set of all slots of a size.
func full(size int) *slotset.Set {
	s, _ := slotset.New(size)
	for i := range size {
		s.Add(i)
	}
	return s
}

// P8.4, R7: a loop that ends early has seen the first slots; each loop begins anew.
func TestLoopsThatEndEarly(t *testing.T) {
	for _, mask := range []int{0, 1, 0x200000000, 0x3C0F00F01, 0x155555555, 1<<maxSize - 1} {
		b := masked(t, maxSize, mask)
		list := b.list(0)
		all := b.s.All()
		for stop := range len(list) + 2 {
			if got := first(all, stop); !slices.Equal(got, list[:min(stop, len(list))]) {
				t.Errorf("the first %d of %v: %v", stop, list, got)
			}
			if got := slots(all); !slices.Equal(got, list) {
				t.Errorf("All again: %v instead of %v", got, list)
			}
		}
		b.check(t)
	}
}

// P8.4, R7: an iterator yields what the set has when the loop begins, not what it had when the iterator was made.
func TestLoopsBehindChanges(t *testing.T) {
	b := made(t, 10)
	all := b.s.All()
	expect := func() {
		t.Helper()
		if got := slots(all); !slices.Equal(got, b.list(0)) {
			t.Errorf("All: %v instead of %v", got, b.list(0))
		}
	}
	expect()
	for i := range 10 {
		b.add(t, i*7%10)
		expect()
	}
	b.minus(t, made(t, 10, 0, 3, 9))
	expect()
	b.remove(t, 5)
	expect()
	b.union(t, made(t, 10, 9))
	expect()
	b.minus(t, b.copied())
	expect()
}

// P8.4, P8.8: loops within loops, and questions and copies within them.
func TestLoopsWithinLoops(t *testing.T) {
	b := made(t, 12, 11, 0, 4, 5)
	list := b.list(0)
	all := b.s.All()
	var outer []int
	for i := range all {
		outer = append(outer, i)
		b.check(t)
		c := b.copied()
		c.add(t, 7)
		c.minus(t, b)
		c.check(t)
		if got := slots(all); !slices.Equal(got, list) {
			t.Errorf("All within a loop: %v", got)
		}
		if got := first(all, 2); !slices.Equal(got, list[:2]) {
			t.Errorf("the first two within a loop: %v", got)
		}
	}
	if !slices.Equal(outer, list) {
		t.Errorf("All around other loops: %v", outer)
	}
}

// P1: the chapter promises nothing of a loop during which the set is changed, but that it ends and does not panic.
func TestChangesWithinLoops(t *testing.T) {
	changes := map[string]func(s *slotset.Set, i int){
		"Add":    func(s *slotset.Set, i int) { s.Add(i + 1) },
		"Remove": func(s *slotset.Set, i int) { s.Remove(i); s.Remove(i + 1) },
		"Union":  func(s *slotset.Set, _ int) { s.Union(full(maxSize)) },
		"Minus":  func(s *slotset.Set, _ int) { s.Minus(s) },
	}
	for name, change := range changes {
		for _, mask := range []int{1, 0x155555555, 1<<maxSize - 1} {
			b := masked(t, maxSize, mask)
			n := 0
			for i := range b.s.All() {
				change(b.s, i)
				n++
			}
			if n > maxSize {
				t.Errorf("%s within a loop: %d slots", name, n)
			}
		}
	}
}

// invalid returns the sets that were not returned by New or Copy.
func invalid() map[string]*slotset.Set {
	s := full(4)
	assigned, zeroed, overwritten := *s, full(4), full(4)
	*zeroed = slotset.Set{}
	*overwritten = *s
	return map[string]*slotset.Set{"nil": nil, "a zero value": {}, "a copy by assignment": &assigned, "a set without its contents": zeroed, "an overwritten set": overwritten}
}

// R2, P8.2, P8.5: ErrNil and zero values with sets that are not valid, also where another error would apply.
func TestInvalidSets(t *testing.T) {
	for name, s := range invalid() {
		for _, i := range append(far, 0, 1, 2, 3, 4) {
			if add, remove := s.Add(i), s.Remove(i); add != api.ErrNil || remove != api.ErrNil {
				t.Errorf("%s: Add(%d) %d, Remove(%d) %d", name, i, add, i, remove)
			}
			if x, found := s.Next(i); x != 0 || found || s.Has(i) {
				t.Errorf("%s: Next(%d) %d, %v; Has %v", name, i, x, found, s.Has(i))
			}
		}
		if x, found := s.Lowest(); x != 0 || found || s.Len() != 0 || s.Size() != 0 || s.Copy() != nil {
			t.Errorf("%s: Lowest %d, %v; Len %d, Size %d, Copy %v", name, x, found, s.Len(), s.Size(), s.Copy())
		}
		if all := s.All(); all == nil || len(slots(all)) != 0 {
			t.Errorf("%s: All yields slots, or is nil", name)
		}
	}
}

// R2, P8.5: Union and Minus need two valid sets, whichever of them is not valid, and whatever the sizes are.
func TestInvalidPairs(t *testing.T) {
	for name, s := range invalid() {
		for _, size := range []int{1, 4, maxSize} {
			b := masked(t, size, 5)
			if union, minus := b.s.Union(s), b.s.Minus(s); union != api.ErrNil || minus != api.ErrNil {
				t.Errorf("with %s: Union %d, Minus %d", name, union, minus)
			}
			b.check(t)
			if union, minus := s.Union(b.s), s.Minus(b.s); union != api.ErrNil || minus != api.ErrNil {
				t.Errorf("of %s: Union %d, Minus %d", name, union, minus)
			}
			b.check(t)
		}
		for other, o := range invalid() {
			if union, minus := s.Union(o), s.Minus(o); union != api.ErrNil || minus != api.ErrNil {
				t.Errorf("%s with %s: Union %d, Minus %d", name, other, union, minus)
			}
		}
		if union, minus := s.Union(s), s.Minus(s); union != api.ErrNil || minus != api.ErrNil {
			t.Errorf("%s with itself: Union %d, Minus %d", name, union, minus)
		}
	}
}

// R2: no call changes a set that is not valid, which would be seen where it is assigned back to a set that is.
func TestInvalidSetsStay(t *testing.T) {
	for name, s := range invalid() {
		if s == nil {
			continue
		}
		for call, do := range map[string]func(){
			"Add":          func() { s.Add(1) },
			"Remove":       func() { s.Remove(1) },
			"Union":        func() { s.Union(full(4)) },
			"Minus":        func() { s.Minus(full(4)) },
			"Minus itself": func() { s.Minus(s) },
			"Copy":         func() { s.Copy() },
		} {
			before := *s
			do()
			if !reflect.DeepEqual(*s, before) {
				t.Errorf("%s: %s has changed it from %v to %v", name, call, before, *s)
			}
		}
	}
}

// R2: what is done to a copy by assignment is not seen in the set.
func TestCopyByAssignmentChangesNothing(t *testing.T) {
	b := made(t, 6, 1, 4)
	assigned := *b.s
	assigned.Add(2)
	assigned.Remove(1)
	assigned.Union(full(6))
	assigned.Minus(b.s)
	b.check(t)
	b.add(t, 5)
	b.check(t)
}

// R8: sets that have come to the same slots in different ways behave alike, step by step.
func TestPastDoesNotMatter(t *testing.T) {
	const size = 33
	straight, removed, united := made(t, size), made(t, size), made(t, size)
	for i := range size {
		removed.add(t, i)
	}
	for i := range size {
		if i%3 == 1 {
			straight.add(t, i)
			united.union(t, made(t, size, i))
		} else {
			removed.remove(t, i)
		}
	}
	list := []*both{straight, removed, united, straight.copied(), removed.copied()}
	s := source(9)
	for range 400 {
		kind, i := s.below(6), s.below(size+2)-1
		o := masked(t, size, s.below(1<<30)<<3)
		for _, b := range list {
			switch kind {
			case 0:
				b.union(t, o)
			case 1:
				b.minus(t, o)
			case 2, 3:
				b.remove(t, i)
			default:
				b.add(t, i)
			}
			b.checkWhole(t)
			b.checkSlot(t, i)
			if !slices.Equal(b.want, list[0].want) {
				t.Fatal("the sets differ")
			}
		}
	}
}

// P8.8: a set can be asked from several sides at the same time, since questions change nothing.
func TestQuestionsAtTheSameTime(t *testing.T) {
	b := masked(t, maxSize, 0x2AAAAAAAA)
	var group sync.WaitGroup
	for range 4 {
		group.Go(func() {
			for i := range 100 {
				c := b.s.Copy()
				c.Add(i % maxSize)
				c.Minus(b.s)
				full(maxSize).Union(b.s)
				if got := slots(b.s.All()); !slices.Equal(got, b.list(0)) || b.s.Len() != 17 || b.s.Has(0) {
					t.Errorf("All: %v, Len %d", got, b.s.Len())
				}
			}
		})
	}
	group.Wait()
	b.check(t)
}

// The examples of the chapter.
func TestExamples(t *testing.T) {
	s, err := slotset.New(8)
	if err != api.OK {
		t.Fatal(err)
	}
	expect := func(call string, err, want api.Errno) {
		t.Helper()
		if err != want {
			t.Errorf("%s: %d instead of %d", call, err, want)
		}
	}
	has := func(want ...int) {
		t.Helper()
		if got := slots(s.All()); !slices.Equal(got, want) {
			t.Errorf("All: %v instead of %v", got, want)
		}
	}
	expect("Add(5)", s.Add(5), api.OK)
	expect("Add(2)", s.Add(2), api.OK)
	expect("Add(5)", s.Add(5), api.OK)
	expect("Add(8)", s.Add(8), api.ErrRange)
	has(2, 5)
	expectFirst(t, "Next(3)", []int{5}, func() (int, bool) { return s.Next(3) })
	expectFirst(t, "Next(6)", nil, func() (int, bool) { return s.Next(6) })
	expectFirst(t, "Lowest", []int{2}, s.Lowest)
	expect("Remove(2)", s.Remove(2), api.OK)
	expectFirst(t, "Lowest", []int{5}, s.Lowest)
	expect("Union", s.Union(made(t, 8, 0, 5).s), api.OK)
	has(0, 5)
	expect("Minus", s.Minus(made(t, 8, 5, 7).s), api.OK)
	has(0)
	made(t, 34).check(t)
	none, err := slotset.New(35)
	expect("New(35)", err, api.ErrArg)
	if none != nil {
		t.Errorf("New(35): %v", none)
	}
	expect("Union", s.Union(made(t, 9, 1).s), api.ErrArg)
	has(0)
}

// P1: no call panics or runs on, and the sets stay what the chapter says, whatever the calls and numbers are.
func FuzzNoPanic(f *testing.F) {
	f.Add([]byte{}, 0, 0)
	f.Add([]byte{0, 8, 16, 1, 9, 4, 5, 6, 7, 0}, 8, -1)
	f.Add([]byte{255, 7, 132, 133, 134, 135, 3, 11, 5}, 34, math.MaxInt)
	f.Add([]byte{200, 100, 50, 25, 12, 6, 3, 1, 5, 5}, 33, math.MinInt)
	f.Add([]byte{64, 4, 72, 4, 80, 6, 65, 5, 7}, 32, 64)
	f.Fuzz(func(t *testing.T, calls []byte, size, i int) {
		s, err := slotset.New(size)
		if (err == api.OK) != (size >= 1 && size <= maxSize) || (s == nil) == (err == api.OK) {
			t.Fatalf("New(%d): %d", size, err)
		}
		if err != api.OK {
			if s.Add(i) != api.ErrNil || s.Union(s) != api.ErrNil || s.Has(i) || s.Len() != 0 || s.Copy() != nil {
				t.Error("a nil set is a set")
			}
			return
		}
		b, o := made(t, size), made(t, size)
		for _, c := range calls {
			switch n := int(c / 8); c % 8 {
			case 0, 1, 2:
				b.add(t, n+n%3)
			case 3:
				b.remove(t, n+n%3)
			case 4:
				b.union(t, o)
			case 5:
				b.minus(t, o)
			case 6:
				o = b.copied()
			case 7:
				b, o = o, b
			}
		}
		b.check(t)
		b.add(t, i)
		b.checkSlot(t, i)
		b.remove(t, i)
		b.checkSlot(t, i)
		b.check(t)
		o.check(t)
	})
}
