package pqueue_test

import (
	"cmp"
	"iter"
	"maps"
	"math"
	"slices"
	"strconv"
	"sync"
	"testing"

	"drumlin/api"
	"drumlin/pqueue"
)

// faces has the calls of the chapter: a change of one of their signatures does not compile.
type faces[P cmp.Ordered] interface {
	Push(id int, p P) api.Errno
	Change(id int, p P) api.Errno
	Remove(id int) (P, bool)
	Peek() (int, P, bool)
	Pop() (int, P, bool)
	Priority(id int) (P, bool)
	All() iter.Seq2[int, P]
	Len() int
	Copy() *pqueue.Queue[P]
}

var (
	_ func(int) (*pqueue.Queue[int], api.Errno) = pqueue.New[int]
	_ faces[int]                                = (*pqueue.Queue[int])(nil)
	_ faces[string]                             = (*pqueue.Queue[string])(nil)
)

const maxSize = 1024

// far has ids that no queue has.
var far = []int{math.MinInt, math.MinInt + 1, -1 << 32, -1024, -2, -1, 1024, 1025, 1 << 16, 1 << 32, math.MaxInt - 1, math.MaxInt}

// pair is an id and its priority, as they are yielded.
type pair[P cmp.Ordered] struct {
	id int
	p  P
}

// same is for priorities that may be NaN, or zeros that differ in sign.
func same[P cmp.Ordered](a, b P) bool {
	return key(a) == key(b)
}

func key[P cmp.Ordered](p P) any {
	if f, ok := any(p).(float64); ok {
		return math.Float64bits(f)
	}
	return p
}

func samePair[P cmp.Ordered](a, b pair[P]) bool {
	return a.id == b.id && same(a.p, b.p)
}

func pairs[P cmp.Ordered](seq iter.Seq2[int, P]) []pair[P] {
	var out []pair[P]
	for id, p := range seq {
		out = append(out, pair[P]{id, p})
	}
	return out
}

// firstOf returns a zero pair and false if there is none.
func firstOf[P cmp.Ordered](list []pair[P]) (pair[P], bool) {
	if len(list) == 0 {
		return pair[P]{}, false
	}
	return list[0], true
}

// popAll empties a queue.
func popAll[P cmp.Ordered](q *pqueue.Queue[P]) []pair[P] {
	var out []pair[P]
	for {
		id, p, ok := q.Pop()
		if !ok {
			return out
		}
		out = append(out, pair[P]{id, p})
	}
}

// reference has the priorities of ids; its order is made by comparing all of them, by the chapter's definition.
type reference[P cmp.Ordered] map[int]P

func (r reference[P]) pairs() []pair[P] {
	var out []pair[P]
	for id, p := range r {
		out = append(out, pair[P]{id, p})
	}
	slices.SortFunc(out, func(a, b pair[P]) int {
		if c := cmp.Compare(a.p, b.p); c != 0 {
			return c
		}
		return a.id - b.id
	})
	return out
}

// both is a queue and what it is held against.
type both[P cmp.Ordered] struct {
	q    *pqueue.Queue[P]
	want reference[P]
	size int
}

func made[P cmp.Ordered](t *testing.T, size int) both[P] {
	t.Helper()
	q, err := pqueue.New[P](size)
	if q == nil || err != api.OK {
		t.Fatalf("New(%d): %d", size, err)
	}
	return both[P]{q, reference[P]{}, size}
}

func (b both[P]) copied() both[P] {
	return both[P]{b.q.Copy(), maps.Clone(b.want), b.size}
}

func (b both[P]) push(t *testing.T, id int, p P) {
	t.Helper()
	want := api.OK
	_, have := b.want[id]
	switch {
	case id < 0 || id >= b.size:
		want = api.ErrRange
	case have:
		want = api.ErrHave
	default:
		b.want[id] = p
	}
	if err := b.q.Push(id, p); err != want {
		t.Fatalf("Push(%d, %v): %d instead of %d", id, p, err, want)
	}
}

func (b both[P]) change(t *testing.T, id int, p P) {
	t.Helper()
	want := api.OK
	_, have := b.want[id]
	switch {
	case id < 0 || id >= b.size:
		want = api.ErrRange
	case !have:
		want = api.ErrNone
	default:
		b.want[id] = p
	}
	if err := b.q.Change(id, p); err != want {
		t.Fatalf("Change(%d, %v): %d instead of %d", id, p, err, want)
	}
}

func (b both[P]) remove(t *testing.T, id int) {
	t.Helper()
	old, had := b.want[id]
	if p, ok := b.q.Remove(id); !same(p, old) || ok != had {
		t.Fatalf("Remove(%d): %v, %t instead of %v, %t", id, p, ok, old, had)
	}
	delete(b.want, id)
}

func (b both[P]) pop(t *testing.T) {
	t.Helper()
	first, some := firstOf(b.want.pairs())
	if id, p, ok := b.q.Pop(); !samePair(pair[P]{id, p}, first) || ok != some {
		t.Fatalf("Pop: %d, %v, %t instead of %v", id, p, ok, first)
	}
	if some {
		delete(b.want, first.id)
	}
}

// check asks all questions, for all ids and some that do not exist.
func (b both[P]) check(t *testing.T) {
	t.Helper()
	list := b.want.pairs()
	b.checkOrder(t, list)
	for id := range b.size {
		b.checkPriority(t, id)
	}
	for _, id := range append(far, b.size) {
		b.checkPriority(t, id)
	}
	// P4.6: a copy is popped, so that the queue stays.
	if got := popAll(b.q.Copy()); !slices.EqualFunc(got, list, samePair) {
		t.Fatalf("Pop, until it is empty: %v instead of %v", got, list)
	}
	// P4.8: the questions have not changed the queue.
	b.checkOrder(t, list)
}

func (b both[P]) checkOrder(t *testing.T, list []pair[P]) {
	t.Helper()
	if got := pairs(b.q.All()); !slices.EqualFunc(got, list, samePair) {
		t.Fatalf("All: %v instead of %v", got, list)
	}
	if b.q.Len() != len(list) {
		t.Fatalf("Len: %d instead of %d", b.q.Len(), len(list))
	}
	first, some := firstOf(list)
	if id, p, ok := b.q.Peek(); !samePair(pair[P]{id, p}, first) || ok != some {
		t.Fatalf("Peek: %d, %v, %t instead of %v", id, p, ok, first)
	}
}

func (b both[P]) checkPriority(t *testing.T, id int) {
	t.Helper()
	want, have := b.want[id]
	if p, ok := b.q.Priority(id); !same(p, want) || ok != have {
		t.Fatalf("Priority(%d): %v, %t instead of %v, %t", id, p, ok, want, have)
	}
}

// source makes numbers that look random, the same ones in each run.
type source uint64

func (s *source) below(n int) int {
	*s = *s*6364136223846793005 + 1442695040888963407
	return int(*s >> 33 % source(n))
}

// P4.1: the least and the greatest size, and what is beyond them.
func TestNewSizes(t *testing.T) {
	for size := range maxSize + 1 {
		q, err := pqueue.New[int](size)
		if size == 0 {
			if q != nil || err != api.ErrArg {
				t.Errorf("New(0): %v, %d", q, err)
			}
			continue
		}
		if q == nil || err != api.OK || q.Len() != 0 {
			t.Errorf("New(%d): %d", size, err)
		}
	}
	for _, size := range []int{math.MinInt, math.MinInt + 1, -1024, -2, -1, 0, 1025, 1026, 2048, 1 << 32, 1<<32 + 5, math.MaxInt - 1, math.MaxInt} {
		if q, err := pqueue.New[string](size); q != nil || err != api.ErrArg {
			t.Errorf("New(%d): %v, %d", size, q, err)
		}
	}
}

// P4.1: a new queue is empty, and each New returns another one.
func TestNewIsEmpty(t *testing.T) {
	for _, size := range []int{1, 2, 3, 8, 1023, 1024} {
		b, other := made[int](t, size), made[int](t, size)
		b.check(t)
		b.pop(t)
		b.remove(t, 0)
		b.change(t, 0, 1)
		b.push(t, size-1, 0)
		b.check(t)
		other.check(t)
	}
}

// P4.1, R8: copies of queues of many sizes; what is done to one is not seen in the others, also when it appends at the end, where slices might share memory.
func TestCopy(t *testing.T) {
	for n := range 20 {
		b := made[int](t, 24)
		for i := range n {
			b.push(t, i*7%20, i*5%6)
		}
		first, second := b.copied(), b.copied()
		third, old := first.copied(), maps.Clone(b.want)
		for id := range 24 {
			first.push(t, id, -id)
			second.remove(t, id)
			b.change(t, id, id)
			second.push(t, (id+1)%24, 3)
			first.change(t, id, 2*id)
			b.pop(t)
			b.push(t, id, 50)
		}
		third.want = old
		for _, x := range []both[int]{b, first, second, third} {
			x.check(t)
		}
	}
}

// P4.2: the ids at the ends of each range, and those beyond them; ErrRange comes before ErrHave and ErrNone.
func TestIds(t *testing.T) {
	for _, size := range []int{1, 2, 3, 7, 8, 9, 1023, 1024} {
		b := made[int](t, size)
		for range 2 {
			for _, id := range append(far, size, size+1, -size) {
				if id >= 0 && id < size {
					continue
				}
				b.push(t, id, 1)
				b.change(t, id, 1)
				b.remove(t, id)
				b.checkPriority(t, id)
			}
			for _, id := range []int{0, size / 2, size - 1} {
				b.change(t, id, 2)
				b.push(t, id, 3)
				b.push(t, id, 2)
				b.change(t, id, 1)
			}
			b.check(t)
		}
	}
}

// P4.1, P4.2: a queue can have all its ids.
func TestFull(t *testing.T) {
	for _, size := range []int{1, 2, 100, 1024} {
		b := made[int](t, size)
		for i := range size {
			b.push(t, size-1-i, i*17%31)
		}
		for id := range size {
			b.push(t, id, -1)
		}
		b.push(t, size, -1)
		b.check(t)
		for range size + 1 {
			if size <= 100 {
				b.pop(t)
				continue
			}
			b.q.Pop()
		}
		if b.q.Len() != 0 {
			t.Errorf("a queue of the size %d that was emptied has %d ids", size, b.q.Len())
		}
	}
}

// P4.2 to P4.8: all sequences of four calls with three ids and two priorities, with all questions behind each call.
func TestAllSequences(t *testing.T) {
	const size, depth = 3, 4
	var grow func(b both[int], left int)
	grow = func(b both[int], left int) {
		b.check(t)
		if left == 0 {
			return
		}
		popped := b.copied()
		popped.pop(t)
		grow(popped, left-1)
		for id := range size {
			removed := b.copied()
			removed.remove(t, id)
			grow(removed, left-1)
			for p := range 2 {
				pushed, changed := b.copied(), b.copied()
				pushed.push(t, id, p)
				grow(pushed, left-1)
				changed.change(t, id, p)
				if p != b.want[id] {
					grow(changed, left-1)
				}
			}
		}
	}
	grow(made[int](t, size), depth)
}

// P4.2 to P4.6: long sequences, with few and many different priorities, on queues that grow, shrink, and become empty again.
func TestLongSequences(t *testing.T) {
	s := source(1)
	for _, size := range []int{1, 2, 5, 40, 200} {
		for _, priorities := range []int{1, 3, 1000} {
			for _, share := range []int{1, 3, 5} {
				b := made[int](t, size)
				for i := range 10 * size {
					id, p := s.below(size), s.below(priorities)-priorities/2
					switch c := s.below(10); {
					case c < share:
						b.remove(t, id)
					case c < share+1:
						b.pop(t)
					case c < share+3:
						b.change(t, id, p)
					default:
						b.push(t, id, p)
					}
					if i%10 == 0 {
						b.check(t)
					}
				}
				for range size + 1 {
					b.pop(t)
				}
				b.check(t)
			}
		}
	}
}

// P4.2, P4.4: each id of a queue is given each place in the order, by a change or by removing it and pushing it again.
func TestEachPlace(t *testing.T) {
	for n := 1; n <= 17; n++ {
		b := made[int](t, n)
		for id := range n {
			b.push(t, id, 2*(id*5%n))
		}
		for id := range n {
			for p := -1; p <= 2*n; p++ {
				changed, pushed := b.copied(), b.copied()
				changed.change(t, id, p)
				changed.check(t)
				pushed.remove(t, id)
				pushed.check(t)
				pushed.push(t, id, p)
				pushed.check(t)
			}
		}
	}
}

// P4.3, P4.4: an id and a priority that are zero are there all the same.
func TestZeros(t *testing.T) {
	q, _ := pqueue.New[int](1)
	if id, p, ok := q.Peek(); id != 0 || p != 0 || ok {
		t.Error("Peek of an empty queue", id, p, ok)
	}
	if p, ok := q.Priority(0); p != 0 || ok {
		t.Error("Priority in an empty queue", p, ok)
	}
	if err := q.Push(0, 0); err != api.OK {
		t.Error("Push", err)
	}
	if id, p, ok := q.Peek(); id != 0 || p != 0 || !ok {
		t.Error("Peek", id, p, ok)
	}
	if p, ok := q.Priority(0); p != 0 || !ok {
		t.Error("Priority", p, ok)
	}
	if id, p, ok := q.Copy().Pop(); id != 0 || p != 0 || !ok {
		t.Error("Pop", id, p, ok)
	}
	if p, ok := q.Remove(0); p != 0 || !ok {
		t.Error("Remove", p, ok)
	}
	if p, ok := q.Remove(0); p != 0 || ok {
		t.Error("Remove again", p, ok)
	}
}

// The order, P4.6: of ids with equal priorities the smaller one comes first, in whatever order they came.
func TestTies(t *testing.T) {
	s := source(3)
	b := made[string](t, 60)
	for range 200 {
		b.push(t, s.below(60), "same")
	}
	b.check(t)
	last := -1
	for id, p := range b.q.All() {
		if id <= last || p != "same" {
			t.Errorf("%d with %q behind %d", id, p, last)
		}
		last = id
	}
	if id, _, _ := b.q.Peek(); id != b.want.pairs()[0].id {
		t.Error("Peek", id)
	}
}

// P4.6: of All and of Pop, priorities never become less, and ids with equal priorities increase.
func TestProperties(t *testing.T) {
	s := source(5)
	q, _ := pqueue.New[int](500)
	for range 1000 {
		q.Push(s.below(500), s.below(20))
	}
	all := pairs(q.All())
	for i, x := range all[1:] {
		if before := all[i]; x.p < before.p || x.p == before.p && x.id <= before.id {
			t.Errorf("%v behind %v", x, before)
		}
	}
	if got := popAll(q); !slices.Equal(got, all) || q.Len() != 0 {
		t.Errorf("Pop: %v instead of %v", got, all)
	}
}

// everyOrder pushes priorities, which are given in increasing order, in all rotations, and expects their order.
func everyOrder[P cmp.Ordered](t *testing.T, increasing ...P) {
	t.Helper()
	n := len(increasing)
	for turn := range n {
		b := made[P](t, n)
		for i := range n {
			id := (i + turn) % n
			b.push(t, id, increasing[id])
		}
		b.check(t)
		for i, x := range pairs(b.q.All()) {
			if x.id != i || !same(x.p, increasing[i]) {
				t.Errorf("the place %d has %v instead of %v", i, x, increasing[i])
			}
		}
	}
	// The ids against the order of the priorities.
	b := made[P](t, n)
	for i, p := range increasing {
		b.push(t, n-1-i, p)
	}
	b.check(t)
}

// P4.4, P4.5: the extreme priorities of each kind of type, a type of the program's own among them.
func TestTypesOfPriorities(t *testing.T) {
	everyOrder[int](t, math.MinInt, math.MinInt+1, -1, 0, 1, math.MaxInt-1, math.MaxInt)
	everyOrder[int8](t, -128, -127, -1, 0, 1, 126, 127)
	everyOrder[uint64](t, 0, 1, 1<<63-1, 1<<63, math.MaxUint64-1, math.MaxUint64)
	everyOrder[uint8](t, 0, 1, 127, 128, 255)
	everyOrder[string](t, "", "\x00", "A", "a", "a\x00", "ab", "b", "é", "\xff")
	type rank string
	everyOrder[rank](t, "", "y", "z", "zz")
	inf := math.Inf(1)
	everyOrder[float64](t, math.NaN(), -inf, -math.MaxFloat64, -0.5, -math.SmallestNonzeroFloat64, 0, math.SmallestNonzeroFloat64, 0.5, math.MaxFloat64, inf)
}

// The order: as cmp.Compare has it, NaN comes before all other numbers, all NaNs are equal, and so are the two zeros.
func TestFloats(t *testing.T) {
	nan, negative := math.NaN(), math.Copysign(0, -1)
	b := made[float64](t, 8)
	for id, p := range []float64{1, 0, nan, negative, math.Inf(-1), 0, nan, negative} {
		b.push(t, id, p)
	}
	b.check(t)
	var ids []int
	for id := range b.q.All() {
		ids = append(ids, id)
	}
	if !slices.Equal(ids, []int{2, 6, 4, 1, 3, 5, 7, 0}) {
		t.Errorf("All: %v", ids)
	}
	// Change sets the priority also where the new one is equal to the old one.
	b.change(t, 1, negative)
	b.change(t, 7, 0)
	b.change(t, 2, 3)
	b.change(t, 0, nan)
	b.check(t)
	if p, _ := b.q.Priority(1); !math.Signbit(p) {
		t.Error("Change has kept the old zero")
	}
	if p, ok := b.q.Remove(6); !math.IsNaN(p) || !ok {
		t.Errorf("Remove(6): %v, %t", p, ok)
	}
	delete(b.want, 6)
	b.check(t)
	for range 9 {
		b.pop(t)
	}
}

// P4.5, R7: a loop that ends early has seen the first ids; each loop begins anew.
func TestLoopsThatEndEarly(t *testing.T) {
	b := made[int](t, 9)
	for id, p := range []int{5, 3, 5, 1, 7, 3} {
		b.push(t, id, p)
	}
	list, all := b.want.pairs(), b.q.All()
	for stop := 1; stop <= len(list); stop++ {
		var got []pair[int]
		for id, p := range all {
			got = append(got, pair[int]{id, p})
			if len(got) == stop {
				break
			}
		}
		if !slices.Equal(got, list[:stop]) {
			t.Errorf("the first %d of All: %v", stop, got)
		}
		if got := pairs(all); !slices.Equal(got, list) {
			t.Errorf("All again: %v", got)
		}
	}
	b.check(t)
}

// P4.5, R7: an iterator yields what the queue has when the loop begins, not what it had when the iterator was made.
func TestLoopsBehindChanges(t *testing.T) {
	b := made[int](t, 10)
	all := b.q.All()
	expect := func() {
		t.Helper()
		if got := pairs(all); !slices.Equal(got, b.want.pairs()) {
			t.Errorf("All: %v instead of %v", got, b.want.pairs())
		}
	}
	expect()
	for i, id := range []int{6, 2, 4, 5, 3, 9, 1} {
		b.push(t, id, i%3)
		expect()
		b.change(t, 6, 2-i%3)
		expect()
	}
	for _, id := range []int{2, 4, 1, 9} {
		b.remove(t, id)
		expect()
		b.pop(t)
		expect()
	}
}

// P4.5, P4.8: loops within loops, and questions and copies within them.
func TestLoopsWithinLoops(t *testing.T) {
	b := made[int](t, 5)
	for id, p := range []int{4, 1, 3, 1} {
		b.push(t, id, p)
	}
	list, all := b.want.pairs(), b.q.All()
	var outer []pair[int]
	for id, p := range all {
		outer = append(outer, pair[int]{id, p})
		b.check(t)
		c := b.copied()
		c.remove(t, id)
		c.push(t, 4, 0)
		if got := pairs(all); !slices.Equal(got, list) {
			t.Errorf("All within All: %v", got)
		}
	}
	if !slices.Equal(outer, list) {
		t.Errorf("All around other loops: %v", outer)
	}
}

// P4.7: queues that have come to the same ids and priorities in different ways behave alike, step by step.
func TestHistoryDoesNotMatter(t *testing.T) {
	const n = 60
	priority := func(id int) int { return id * 7 % 11 }
	up, down, changed, removed := made[int](t, n), made[int](t, n), made[int](t, n), made[int](t, n)
	for i := range n {
		up.push(t, i, priority(i))
		down.push(t, n-1-i, priority(n-1-i))
		changed.push(t, i*7%n, -i)
		removed.push(t, i*11%n, i%5)
	}
	for i := range n {
		changed.change(t, i*13%n, priority(i*13%n))
		removed.remove(t, i*17%n)
	}
	for i := range n {
		removed.push(t, i*19%n, priority(i*19%n))
	}
	list := []both[int]{up, down, changed, removed, down.copied()}
	s := source(9)
	for range 200 {
		id, p, kind := s.below(n), s.below(11), s.below(4)
		for _, b := range list {
			switch kind {
			case 0:
				b.push(t, id, p)
			case 1:
				b.change(t, id, p)
			case 2:
				b.remove(t, id)
			default:
				b.pop(t)
			}
			b.check(t)
		}
	}
	for _, b := range list[1:] {
		if !slices.Equal(popAll(b.q), popAll(up.q.Copy())) {
			t.Error("the queues differ at the end")
		}
	}
}

// P4.8: only the id that a call names, or returns, is changed by it.
func TestOtherIdsStay(t *testing.T) {
	const n = 12
	for id := range n + 1 {
		for name, change := range map[string]func(q *pqueue.Queue[int]) int{
			"Push":           func(q *pqueue.Queue[int]) int { q.Push(id, -1); return id },
			"Push, the last": func(q *pqueue.Queue[int]) int { q.Push(id, 100); return id },
			"Change, first":  func(q *pqueue.Queue[int]) int { q.Change(id, -1); return id },
			"Change, last":   func(q *pqueue.Queue[int]) int { q.Change(id, 100); return id },
			"Remove":         func(q *pqueue.Queue[int]) int { q.Remove(id); return id },
			"Pop":            func(q *pqueue.Queue[int]) int { id, _, _ := q.Pop(); return id },
		} {
			b := made[int](t, n+1)
			for i := range n {
				b.push(t, i, i*5%7)
			}
			named := change(b.q)
			for other := range n {
				if p, ok := b.q.Priority(other); other != named && (!ok || p != other*5%7) {
					t.Errorf("%s of %d: Priority(%d) returns %d, %t", name, named, other, p, ok)
				}
			}
		}
	}
}

// P4.8, R1: each question, and each call that returns an error or false, leaves the queue as it was.
func TestQuestionsChangeNothing(t *testing.T) {
	questions := map[string]func(q *pqueue.Queue[int], id int){
		"Push of one that is there":    func(q *pqueue.Queue[int], id int) { q.Push(2*(id%3), -100) },
		"Push out of range":            func(q *pqueue.Queue[int], id int) { q.Push(far[id], -100) },
		"Change of one that is absent": func(q *pqueue.Queue[int], id int) { q.Change(2*(id%3)+1, -100) },
		"Change out of range":          func(q *pqueue.Queue[int], id int) { q.Change(far[id], -100) },
		"Remove of one that is absent": func(q *pqueue.Queue[int], id int) { q.Remove(2*(id%3) + 1) },
		"Remove out of range":          func(q *pqueue.Queue[int], id int) { q.Remove(far[id]) },
		"Peek":                         func(q *pqueue.Queue[int], _ int) { q.Peek() },
		"Priority":                     func(q *pqueue.Queue[int], id int) { q.Priority(id) },
		"Len":                          func(q *pqueue.Queue[int], _ int) { q.Len() },
		"All":                          func(q *pqueue.Queue[int], _ int) { pairs(q.All()) },
		"All, ended early": func(q *pqueue.Queue[int], _ int) {
			for range q.All() {
				break
			}
		},
		"Copy": func(q *pqueue.Queue[int], _ int) { q.Copy().Pop() },
	}
	for name, ask := range questions {
		b := made[int](t, 6)
		for _, id := range []int{4, 0, 2} {
			b.push(t, id, id*5%7)
		}
		for id := range far {
			ask(b.q, id)
			if got := pairs(b.q.All()); !slices.Equal(got, b.want.pairs()) {
				t.Errorf("%s: the queue has %v instead of %v", name, got, b.want.pairs())
			}
		}
		b.check(t)
	}
}

// invalid returns the queues that were not returned by New or Copy.
func invalid() map[string]*pqueue.Queue[int] {
	q, _ := pqueue.New[int](4)
	q.Push(1, 10)
	assigned := *q
	overwritten, _ := pqueue.New[int](4)
	*overwritten = *q
	return map[string]*pqueue.Queue[int]{"nil": nil, "a zero value": {}, "a copy by assignment": &assigned, "an overwritten queue": overwritten}
}

// R2, P4.2: ErrNil and zero values with queues that are not valid, also where another error would apply.
func TestInvalidQueues(t *testing.T) {
	for name, q := range invalid() {
		for _, id := range append(far, 0, 1, 2, 3, 4) {
			if err := q.Push(id, 5); err != api.ErrNil {
				t.Errorf("%s: Push(%d): %d", name, id, err)
			}
			if err := q.Change(id, 5); err != api.ErrNil {
				t.Errorf("%s: Change(%d): %d", name, id, err)
			}
			if p, ok := q.Remove(id); p != 0 || ok {
				t.Errorf("%s: Remove(%d): %d, %t", name, id, p, ok)
			}
			if p, ok := q.Priority(id); p != 0 || ok {
				t.Errorf("%s: Priority(%d): %d, %t", name, id, p, ok)
			}
		}
		if id, p, ok := q.Peek(); id != 0 || p != 0 || ok {
			t.Errorf("%s: Peek: %d, %d, %t", name, id, p, ok)
		}
		if id, p, ok := q.Pop(); id != 0 || p != 0 || ok {
			t.Errorf("%s: Pop: %d, %d, %t", name, id, p, ok)
		}
		if q.Len() != 0 || q.Copy() != nil {
			t.Errorf("%s: Len %d, Copy %v", name, q.Len(), q.Copy())
		}
		if got := pairs(q.All()); len(got) != 0 {
			t.Errorf("%s: All yields %v", name, got)
		}
	}
}

// R2: what is done to a copy by assignment is not seen in the queue.
func TestCopyByAssignmentChangesNothing(t *testing.T) {
	b := made[int](t, 5)
	for _, id := range []int{2, 1, 3} {
		b.push(t, id, 10-id)
	}
	assigned := *b.q
	assigned.Change(1, -5)
	assigned.Push(0, -6)
	assigned.Remove(2)
	assigned.Pop()
	b.check(t)
}

// R4, R8: a copy keeps its priorities when the queue is gone through and changed, also strings.
func TestStringsOfACopy(t *testing.T) {
	b := made[string](t, 64)
	for id := range 64 {
		b.push(t, id, strconv.Itoa(id*37%64))
	}
	c := b.copied()
	for range 64 {
		b.pop(t)
	}
	c.check(t)
	for id := range 64 {
		b.push(t, id, "new")
	}
	c.check(t)
	b.check(t)
}

// R8: a queue can be asked from several sides at the same time, since questions change nothing.
func TestQuestionsAtTheSameTime(t *testing.T) {
	b := made[int](t, 50)
	for id := range 50 {
		b.push(t, id, id*7%10)
	}
	list := b.want.pairs()
	var group sync.WaitGroup
	for range 4 {
		group.Go(func() {
			for range 20 {
				id, _, _ := b.q.Peek()
				if got := pairs(b.q.All()); !slices.Equal(got, list) || id != list[0].id || b.q.Len() != 50 {
					t.Errorf("All: %v, Peek %d, Len %d", got, id, b.q.Len())
				}
			}
		})
	}
	group.Wait()
	b.check(t)
}

// The examples of the chapter.
func TestExamples(t *testing.T) {
	q, err := pqueue.New[int](8)
	if err != api.OK {
		t.Fatal(err)
	}
	for _, x := range []struct {
		id, p int
		want  api.Errno
	}{{3, 10, api.OK}, {1, 10, api.OK}, {5, 4, api.OK}, {5, 1, api.ErrHave}, {8, 1, api.ErrRange}} {
		if err := q.Push(x.id, x.p); err != x.want {
			t.Errorf("Push(%d, %d): %d instead of %d", x.id, x.p, err, x.want)
		}
	}
	if id, p, ok := q.Peek(); id != 5 || p != 4 || !ok {
		t.Errorf("Peek: %d, %d, %t", id, p, ok)
	}
	if err := q.Change(3, 2); err != api.OK {
		t.Errorf("Change(3, 2): %d", err)
	}
	if id, p, ok := q.Peek(); id != 3 || p != 2 || !ok {
		t.Errorf("Peek: %d, %d, %t", id, p, ok)
	}
	if err := q.Change(0, 2); err != api.ErrNone {
		t.Errorf("Change(0, 2): %d", err)
	}
	if p, ok := q.Remove(5); p != 4 || !ok {
		t.Errorf("Remove(5): %d, %t", p, ok)
	}
	if p, ok := q.Remove(5); p != 0 || ok {
		t.Errorf("Remove(5) again: %d, %t", p, ok)
	}
	if got := pairs(q.All()); !slices.Equal(got, []pair[int]{{3, 2}, {1, 10}}) {
		t.Errorf("All: %v", got)
	}
	if got := popAll(q); !slices.Equal(got, []pair[int]{{3, 2}, {1, 10}}) {
		t.Errorf("Pop: %v", got)
	}
	if id, p, ok := q.Pop(); id != 0 || p != 0 || ok {
		t.Errorf("Pop: %d, %d, %t", id, p, ok)
	}
}

// P1: no call panics or runs on, and the queue stays what the chapter says, whatever the ids and priorities are.
func FuzzNoPanic(f *testing.F) {
	f.Add([]byte{}, 0, 0)
	f.Add([]byte{1, 9, 17, 2, 10, 18, 3}, 8, -1)
	f.Add([]byte{7, 1, 15, 7, 23, 2, 0, 7, 255, 31}, 1024, math.MaxInt)
	f.Add([]byte{200, 100, 50, 25, 12, 6, 3, 1, 7, 7, 7, 15, 15, 15}, 3, math.MinInt)
	f.Fuzz(func(t *testing.T, calls []byte, size, id int) {
		priorities := [8]float64{0, 1, -1, math.Inf(1), math.Inf(-1), 2, math.Copysign(0, -1), math.NaN()}
		q, err := pqueue.New[float64](size)
		if (err == api.OK) != (size >= 1 && size <= maxSize) || (q == nil) == (err == api.OK) {
			t.Fatalf("New(%d): %d", size, err)
		}
		want := reference[float64]{}
		for n, c := range calls {
			id, p := n*7%16, priorities[c%8]
			switch c / 8 % 8 {
			case 0, 1, 2:
				if q.Push(id, p) == api.OK {
					want[id] = p
				}
			case 3, 4:
				if q.Change(id, p) == api.OK {
					want[id] = p
				}
			case 5:
				q.Remove(id)
				delete(want, id)
			case 6:
				q = q.Copy()
			default:
				if id, _, ok := q.Pop(); ok {
					delete(want, id)
				}
			}
			q.Priority(id)
		}
		q.Push(id, 1)
		q.Change(id, 2)
		q.Priority(id)
		q.Remove(id)
		delete(want, id)
		if got := pairs(q.All()); !slices.EqualFunc(got, want.pairs(), samePair) || q.Len() != len(got) {
			t.Errorf("All: %v instead of %v, Len %d", got, want.pairs(), q.Len())
		}
	})
}
