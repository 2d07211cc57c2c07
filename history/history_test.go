package history_test

import (
	"errors"
	"iter"
	"math"
	"reflect"
	"runtime"
	"slices"
	"strconv"
	"sync"
	"testing"
	"weak"

	"drumlin/api"
	"drumlin/history"
)

// faces has the calls of the chapter: a change of one of their signatures does not compile.
type faces[T any] interface {
	Add(x T) api.Errno
	Mark()
	Marked() int
	Len() int
	At(i int) (T, api.Errno)
	Cut(n int) api.Errno
	Clear()
	All() iter.Seq2[int, T]
	Since() iter.Seq[T]
	Copy() *history.List[T]
}

var (
	_ func(int) (*history.List[int], api.Errno) = history.New[int]
	_ faces[int]                                = (*history.List[int])(nil)
	_ faces[func()]                             = (*history.List[func()])(nil)
)

const maxLimit = 100000

// far has numbers that are no index, and no length, of any list.
var far = []int{math.MinInt, math.MinInt + 1, -1 << 32, -100000, -2, -1, 100001, 1 << 32, math.MaxInt - 1, math.MaxInt}

// pair is an index and its element, as they are yielded.
type pair[T any] struct {
	i int
	x T
}

func pairs[T any](seq iter.Seq2[int, T]) []pair[T] {
	var out []pair[T]
	for i, x := range seq {
		out = append(out, pair[T]{i, x})
	}
	return out
}

func elements[T any](seq iter.Seq[T]) []T {
	var out []T
	for x := range seq {
		out = append(out, x)
	}
	return out
}

// noted is an element that says itself whether it is marked.
type noted[T comparable] struct {
	x      T
	marked bool
}

// both is a list, and by the chapter's definitions what it should have.
type both[T comparable] struct {
	l     *history.List[T]
	limit int
	want  []noted[T]
}

func made[T comparable](t *testing.T, limit int) *both[T] {
	t.Helper()
	l, err := history.New[T](limit)
	if l == nil || err != api.OK {
		t.Fatalf("New(%d): %d", limit, err)
	}
	return &both[T]{l: l, limit: limit}
}

func (b *both[T]) copied() *both[T] {
	return &both[T]{b.l.Copy(), b.limit, slices.Clone(b.want)}
}

// marked counts the marks.
func (b *both[T]) marked() int {
	n := 0
	for _, x := range b.want {
		if x.marked {
			n++
		}
	}
	return n
}

func (b *both[T]) pairs() []pair[T] {
	var out []pair[T]
	for i, x := range b.want {
		out = append(out, pair[T]{i, x.x})
	}
	return out
}

// since returns the elements that have no mark.
func (b *both[T]) since() []T {
	var out []T
	for _, x := range b.want {
		if !x.marked {
			out = append(out, x.x)
		}
	}
	return out
}

func (b *both[T]) add(t *testing.T, list ...T) {
	t.Helper()
	for _, x := range list {
		want := api.OK
		if len(b.want) >= b.limit {
			want = api.ErrFull
		} else {
			b.want = append(b.want, noted[T]{x, false})
		}
		if err := b.l.Add(x); err != want {
			t.Fatalf("Add(%v) to %d elements: %d instead of %d", x, len(b.want), err, want)
		}
	}
}

func (b *both[T]) mark() {
	b.l.Mark()
	for i := range b.want {
		b.want[i].marked = true
	}
}

func (b *both[T]) cut(t *testing.T, n int) {
	t.Helper()
	want := api.OK
	switch {
	case n < 0 || n > len(b.want) || n < b.marked():
		want = api.ErrRange
	default:
		b.want = slices.Clone(b.want[:n])
	}
	if err := b.l.Cut(n); err != want {
		t.Fatalf("Cut(%d) of %d elements, %d of them marked: %d instead of %d", n, len(b.want), b.marked(), err, want)
	}
}

func (b *both[T]) clear() {
	b.l.Clear()
	b.want = nil
}

// check asks all questions, for all indexes and some that do not exist.
func (b *both[T]) check(t *testing.T) {
	t.Helper()
	b.checkWhole(t)
	for i := range len(b.want) + 3 {
		b.checkAt(t, i)
	}
	for _, i := range far {
		b.checkAt(t, i)
	}
	// P7.10: the questions have not changed the list.
	b.checkWhole(t)
}

func (b *both[T]) checkWhole(t *testing.T) {
	t.Helper()
	if b.l.Len() != len(b.want) || b.l.Marked() != b.marked() {
		t.Fatalf("Len %d, Marked %d instead of %d, %d", b.l.Len(), b.l.Marked(), len(b.want), b.marked())
	}
	if got := pairs(b.l.All()); !slices.Equal(got, b.pairs()) {
		t.Fatalf("All: %v instead of %v", got, b.pairs())
	}
	if got := elements(b.l.Since()); !slices.Equal(got, b.since()) {
		t.Fatalf("Since: %v instead of %v", got, b.since())
	}
}

func (b *both[T]) checkAt(t *testing.T, i int) {
	t.Helper()
	var want T
	wanted := api.ErrRange
	if i >= 0 && i < len(b.want) {
		want, wanted = b.want[i].x, api.OK
	}
	if x, err := b.l.At(i); x != want || err != wanted {
		t.Fatalf("At(%d) of %d elements: %v, %d instead of %v, %d", i, len(b.want), x, err, want, wanted)
	}
}

// source makes numbers that look random, the same ones in each run.
type source uint64

func (s *source) below(n int) int {
	*s = *s*6364136223846793005 + 1442695040888963407
	return int(*s >> 33 % source(n))
}

// P7.1: the least and the greatest limit, and what is beyond them.
func TestNewLimits(t *testing.T) {
	for _, limit := range []int{0, 1, 2, 3, 1023, 1024, 65536, 99998, 99999, 100000} {
		l, err := history.New[int](limit)
		if l == nil || err != api.OK || l.Len() != 0 || l.Marked() != 0 {
			t.Errorf("New(%d): %v, %d", limit, l, err)
		}
	}
	for _, limit := range append(far, 100002, 131072, 200000, 1<<31, 1<<32+5) {
		if l, err := history.New[string](limit); l != nil || err != api.ErrArg {
			t.Errorf("New(%d): %v, %d", limit, l, err)
		}
	}
}

// P7.1: a new list is empty, and each New returns another one.
func TestNewIsEmpty(t *testing.T) {
	for _, limit := range []int{0, 1, 2, 3, 8, maxLimit} {
		b, other := made[int](t, limit), made[int](t, limit)
		b.check(t)
		b.mark()
		b.check(t)
		b.cut(t, 0)
		b.clear()
		b.check(t)
		b.add(t, 7)
		b.mark()
		b.add(t, 8, 9)
		b.check(t)
		other.check(t)
	}
}

// P7.2: Add up to the limit, and ErrFull beyond it, which changes nothing; marks make no difference.
func TestLimit(t *testing.T) {
	for limit := range 40 {
		for mark := range limit + 1 {
			b := made[int](t, limit)
			for i := range limit {
				if i == mark {
					b.mark()
				}
				b.add(t, 100+i)
			}
			for range 3 {
				b.add(t, -1)
				b.check(t)
			}
			b.mark()
			b.add(t, -1)
			b.check(t)
		}
	}
}

// P7.2: the greatest limit, with all its elements.
func TestGreatestLimit(t *testing.T) {
	b := made[int](t, maxLimit)
	b.want = make([]noted[int], 0, maxLimit)
	for i := range maxLimit {
		if i == 70000 {
			b.mark()
		}
		b.add(t, i*i)
	}
	b.add(t, -1)
	b.checkWhole(t)
	for _, i := range []int{0, 1, 69999, 70000, 99998, 99999, 100000, 100001} {
		b.checkAt(t, i)
	}
	c := b.copied()
	b.cut(t, 69999)
	b.cut(t, 100001)
	b.cut(t, 70000)
	b.add(t, -2)
	b.checkWhole(t)
	c.add(t, -3)
	c.mark()
	c.cut(t, 99999)
	c.cut(t, 100000)
	c.checkWhole(t)
	c.clear()
	c.add(t, -4)
	c.check(t)
}

// P7.1, P7.2, P7.5, P7.6: the limit stays with Cut, Clear and Copy, so that the same number of elements can be added again.
func TestLimitStays(t *testing.T) {
	for limit := range 12 {
		b := made[int](t, limit)
		fill := func(x int) {
			t.Helper()
			for range limit + 2 {
				b.add(t, x)
			}
			if b.l.Len() != limit {
				t.Errorf("%d elements with the limit %d", b.l.Len(), limit)
			}
			b.check(t)
		}
		fill(1)
		b.cut(t, limit/2)
		fill(2)
		b = b.copied()
		fill(3)
		b.cut(t, 0)
		b = b.copied()
		fill(4)
		b.mark()
		b.clear()
		fill(5)
		b.clear()
		b = b.copied().copied()
		fill(6)
	}
}

// P7.1 to P7.10: all sequences of five calls with a list of at most three elements, with all questions behind each call.
func TestAllSequences(t *testing.T) {
	const limit, depth = 3, 5
	next := 0
	var grow func(b *both[int], left int)
	grow = func(b *both[int], left int) {
		b.check(t)
		if left == 0 {
			return
		}
		added, marked, cleared := b.copied(), b.copied(), b.copied()
		next++
		added.add(t, next)
		grow(added, left-1)
		marked.mark()
		grow(marked, left-1)
		cleared.clear()
		grow(cleared, left-1)
		for n := -1; n <= limit+1; n++ {
			short := b.copied()
			short.cut(t, n)
			grow(short, left-1)
		}
		// What was done to the copies is not seen here.
		b.check(t)
	}
	for limit := range limit + 1 {
		grow(made[int](t, limit), depth)
	}
}

// P7.2 to P7.7: long sequences without copies, on lists that grow, are cut, and become empty again.
func TestLongSequences(t *testing.T) {
	s := source(1)
	for _, limit := range []int{1, 2, 5, 40, 300} {
		for _, marks := range []int{0, 1, 3} {
			b := made[int](t, limit)
			for i := range 20 * limit {
				switch c := s.below(20); {
				case c < marks:
					b.mark()
				case c == 5:
					b.cut(t, b.l.Len()-s.below(4))
				case c == 6:
					b.cut(t, s.below(limit+2))
				case c == 7 && s.below(10) == 0:
					b.clear()
				default:
					b.add(t, i)
				}
				if i%7 == 0 {
					b.check(t)
				}
			}
			b.check(t)
		}
	}
}

// P7.3: Mark marks all elements, also with some marked before, with none, and again; Add marks none.
func TestMark(t *testing.T) {
	for n := range 10 {
		for m := range 10 {
			b := made[int](t, 20)
			b.mark()
			for i := range n {
				b.add(t, i)
			}
			if b.l.Marked() != 0 || b.l.Len() != n {
				t.Errorf("%d elements, %d of them marked ahead of Mark", b.l.Len(), b.l.Marked())
			}
			b.mark()
			b.mark()
			if b.l.Marked() != n || b.l.Len() != n {
				t.Errorf("%d elements, %d of them marked behind Mark of %d", b.l.Len(), b.l.Marked(), n)
			}
			for i := range m {
				b.add(t, -i)
			}
			if b.l.Marked() != n || b.l.Len() != n+m {
				t.Errorf("%d elements, %d of them marked behind Add of %d to %d", b.l.Len(), b.l.Marked(), m, n)
			}
			b.check(t)
			b.mark()
			b.check(t)
		}
	}
}

// P7.5: each list of some marked and some other elements is cut to each length; what is added then comes behind the rest.
func TestCut(t *testing.T) {
	for n := range 9 {
		for mark := range n + 1 {
			for _, to := range append(far, 0, 1, 2, 3, 4, 5, 6, 7, 8, 9, 10) {
				b := made[int](t, 9)
				for i := range n {
					if i == mark {
						b.mark()
					}
					b.add(t, 10+i)
				}
				if mark == n {
					b.mark()
				}
				b.cut(t, to)
				if b.l.Marked() != mark {
					t.Errorf("%d of %d elements marked behind Cut(%d) instead of %d", b.l.Marked(), n, to, mark)
				}
				b.check(t)
				b.add(t, 20, 21)
				b.check(t)
				b.mark()
				b.cut(t, mark)
				b.check(t)
			}
		}
	}
}

// P7.6: behind Clear, a list is like a new one, also where it was marked, cut or full.
func TestClear(t *testing.T) {
	for n := range 6 {
		for mark := range n + 1 {
			b := made[string](t, 5)
			for i := range n {
				if i == mark {
					b.mark()
				}
				b.add(t, strconv.Itoa(i))
			}
			c := b.copied()
			for range 2 {
				b.clear()
				if b.l.Len() != 0 || b.l.Marked() != 0 {
					t.Errorf("Len %d, Marked %d behind Clear", b.l.Len(), b.l.Marked())
				}
				b.check(t)
				b.cut(t, 0)
				b.cut(t, 1)
			}
			for range 7 {
				b.add(t, "new")
				b.check(t)
			}
			b.cut(t, 0)
			b.check(t)
			c.check(t)
		}
	}
}

// P7.1, R8: what is done to a copy is not seen in the others, also when all append at the same place, where slices might share memory.
func TestCopy(t *testing.T) {
	for n := range 20 {
		for mark := range n + 1 {
			b := made[int](t, 24)
			for i := range n {
				if i == mark {
					b.mark()
				}
				b.add(t, i*i)
			}
			first, second, third := b.copied(), b.copied(), b.copied()
			fourth := first.copied()
			for i := range 4 {
				b.add(t, 100+i)
				first.add(t, 200+i)
				second.cut(t, mark)
				second.add(t, 300+i)
			}
			first.mark()
			third.clear()
			third.add(t, 400)
			for _, x := range []*both[int]{b, first, second, third, fourth} {
				x.check(t)
			}
			b.clear()
			fourth.check(t)
			fourth.cut(t, mark)
			first.check(t)
		}
	}
}

// P7.8: the elements that were marked once are a prefix of all later lists, whatever is added, marked and cut.
func TestMarkedStay(t *testing.T) {
	s := source(7)
	for range 100 {
		l, _ := history.New[int](60)
		var kept []int
		for i := range 150 {
			switch s.below(6) {
			case 0:
				l.Mark()
				kept = nil
				for _, x := range l.All() {
					kept = append(kept, x)
				}
			case 1:
				l.Cut(s.below(62) - 1)
			case 2:
				l.Cut(l.Marked())
			default:
				l.Add(i)
			}
			var all []int
			for _, x := range l.All() {
				all = append(all, x)
			}
			if l.Marked() != len(kept) || len(all) < len(kept) || !slices.Equal(all[:len(kept)], kept) {
				t.Fatalf("%v, %d of them marked, where %v were marked", all, l.Marked(), kept)
			}
		}
	}
}

// P7.9: the marked elements, followed by what Since yields, are what All yields.
func TestParts(t *testing.T) {
	s := source(5)
	l, _ := history.New[int](200)
	for i := range 400 {
		switch s.below(12) {
		case 0:
			l.Mark()
		case 1:
			l.Cut(l.Len() - s.below(5))
		default:
			l.Add(i)
		}
		var parts []pair[int]
		for i := range l.Marked() {
			x, err := l.At(i)
			if err != api.OK {
				t.Fatalf("At(%d): %d", i, err)
			}
			parts = append(parts, pair[int]{i, x})
		}
		for x := range l.Since() {
			parts = append(parts, pair[int]{len(parts), x})
		}
		if got := pairs(l.All()); !slices.Equal(got, parts) {
			t.Fatalf("All: %v, but the parts are %v", got, parts)
		}
	}
}

// P7.10, R1: each question, each Copy, and each call that returns an error, leaves the list as it was.
func TestQuestionsChangeNothing(t *testing.T) {
	questions := map[string]func(l *history.List[int], i int){
		"Add to a full list":          func(l *history.List[int], i int) { l.Add(i) },
		"Cut ahead of the mark":       func(l *history.List[int], i int) { l.Cut(i % 2) },
		"Cut behind the end":          func(l *history.List[int], i int) { l.Cut(6 + i) },
		"Cut to a length of no list":  func(l *history.List[int], i int) { l.Cut(far[i]) },
		"At of an index that is":      func(l *history.List[int], i int) { l.At(i % 5) },
		"At of an index that is not":  func(l *history.List[int], i int) { l.At(5 + i) },
		"At of an index of no list":   func(l *history.List[int], i int) { l.At(far[i]) },
		"Marked":                      func(l *history.List[int], _ int) { l.Marked() },
		"Len":                         func(l *history.List[int], _ int) { l.Len() },
		"All":                         func(l *history.List[int], _ int) { pairs(l.All()) },
		"Since":                       func(l *history.List[int], _ int) { elements(l.Since()) },
		"All, only made":              func(l *history.List[int], _ int) { l.All() },
		"Since, only made":            func(l *history.List[int], _ int) { l.Since() },
		"Copy":                        func(l *history.List[int], _ int) { l.Copy() },
		"Mark and Cut of a copy":      func(l *history.List[int], _ int) { c := l.Copy(); c.Mark(); c.Cut(0); c.Cut(5) },
		"Cut and Add of a copy":       func(l *history.List[int], _ int) { c := l.Copy(); c.Cut(2); c.Add(-1); c.Add(-2) },
		"Clear and Add of a copy":     func(l *history.List[int], _ int) { c := l.Copy(); c.Clear(); c.Add(-1); c.Add(-2) },
		"All and Since, ended early":  func(l *history.List[int], _ int) { firstPairs(l.All(), 1); firstElements(l.Since(), 1) },
		"All and Since, ended later":  func(l *history.List[int], _ int) { firstPairs(l.All(), 4); firstElements(l.Since(), 2) },
		"All and Since, to their end": func(l *history.List[int], _ int) { firstPairs(l.All(), 5); firstElements(l.Since(), 3) },
	}
	for name, ask := range questions {
		b := made[int](t, 5)
		b.add(t, 3, 1)
		b.mark()
		b.add(t, 4, 1, 5)
		for i := range far {
			ask(b.l, i)
			if got := pairs(b.l.All()); !slices.Equal(got, b.pairs()) || b.l.Marked() != 2 {
				t.Errorf("%s: the list has %v, %d of them marked", name, got, b.l.Marked())
			}
		}
		b.check(t)
	}
}

// firstPairs ends the loop with the n-th pair.
func firstPairs[T any](seq iter.Seq2[int, T], n int) []pair[T] {
	var out []pair[T]
	if n == 0 {
		return out
	}
	for i, x := range seq {
		out = append(out, pair[T]{i, x})
		if len(out) == n {
			break
		}
	}
	return out
}

// firstElements ends the loop with the n-th element.
func firstElements[T any](seq iter.Seq[T], n int) []T {
	var out []T
	if n == 0 {
		return out
	}
	for x := range seq {
		out = append(out, x)
		if len(out) == n {
			break
		}
	}
	return out
}

// P7.7, R7: a loop that ends early has seen the first elements; each loop begins anew.
func TestLoopsThatEndEarly(t *testing.T) {
	for mark := range 8 {
		b := made[int](t, 10)
		for i := range 7 {
			if i == mark {
				b.mark()
			}
			b.add(t, 7*i%5)
		}
		if mark == 7 {
			b.mark()
		}
		list, rest := b.pairs(), b.since()
		all, since := b.l.All(), b.l.Since()
		for stop := range len(list) + 2 {
			if got := firstPairs(all, stop); !slices.Equal(got, list[:min(stop, len(list))]) {
				t.Errorf("the first %d of All: %v", stop, got)
			}
			if got := firstElements(since, stop); !slices.Equal(got, rest[:min(stop, len(rest))]) {
				t.Errorf("the first %d of Since, with %d marked: %v", stop, mark, got)
			}
			if got := pairs(all); !slices.Equal(got, list) {
				t.Errorf("All again: %v", got)
			}
			if got := elements(since); !slices.Equal(got, rest) {
				t.Errorf("Since again, with %d marked: %v", mark, got)
			}
		}
		b.check(t)
	}
}

// P7.7, R7: an iterator yields what the list has when the loop begins, not what it had when the iterator was made.
func TestLoopsBehindChanges(t *testing.T) {
	b := made[int](t, 10)
	all, since := b.l.All(), b.l.Since()
	expect := func() {
		t.Helper()
		if got := pairs(all); !slices.Equal(got, b.pairs()) {
			t.Errorf("All: %v instead of %v", got, b.pairs())
		}
		if got := elements(since); !slices.Equal(got, b.since()) {
			t.Errorf("Since: %v instead of %v", got, b.since())
		}
	}
	expect()
	for round := range 3 {
		for i := range 8 {
			b.add(t, 10*round+i)
			expect()
			if i%3 == 1 {
				b.mark()
				expect()
			}
		}
		b.cut(t, 6)
		expect()
		b.cut(t, 5)
		expect()
		b.add(t, -1)
		expect()
		b.clear()
		expect()
	}
}

// P7.7, P7.10: loops within loops, and questions and copies within them.
func TestLoopsWithinLoops(t *testing.T) {
	b := made[int](t, 6)
	b.add(t, 4, 1)
	b.mark()
	b.add(t, 3, 1, 9)
	list, rest := b.pairs(), b.since()
	all, since := b.l.All(), b.l.Since()
	ask := func(i int) {
		b.check(t)
		c := b.copied()
		c.add(t, 50, 51)
		c.cut(t, 2)
		c.clear()
		c.add(t, i)
		if got := pairs(all); !slices.Equal(got, list) {
			t.Errorf("All within a loop: %v", got)
		}
		if got := elements(since); !slices.Equal(got, rest) {
			t.Errorf("Since within a loop: %v", got)
		}
	}
	var outer []pair[int]
	for i, x := range all {
		outer = append(outer, pair[int]{i, x})
		ask(i)
	}
	if !slices.Equal(outer, list) {
		t.Errorf("All around other loops: %v", outer)
	}
	var tail []int
	for x := range since {
		tail = append(tail, x)
		ask(x)
	}
	if !slices.Equal(tail, rest) {
		t.Errorf("Since around other loops: %v", tail)
	}
}

// P1: the chapter promises nothing of a loop during which the list is changed, but that it ends and does not panic.
func TestChangesWithinLoops(t *testing.T) {
	changes := map[string]func(l *history.List[int]){
		"Add":   func(l *history.List[int]) { l.Add(1) },
		"Mark":  func(l *history.List[int]) { l.Mark() },
		"Cut":   func(l *history.List[int]) { l.Cut(l.Marked()) },
		"Clear": func(l *history.List[int]) { l.Clear() },
	}
	for name, change := range changes {
		for mark := range 5 {
			b := made[int](t, 1000)
			for i := range 4 {
				if i == mark {
					b.mark()
				}
				b.add(t, i)
			}
			n := 0
			for range b.l.All() {
				change(b.l)
				n++
			}
			for range b.l.Since() {
				change(b.l)
				n++
			}
			if n > 1000 {
				t.Errorf("%s within loops: %d elements", name, n)
			}
		}
	}
}

// invalid returns the lists that were not returned by New or Copy.
func invalid() map[string]*history.List[int] {
	l, _ := history.New[int](4)
	l.Add(10)
	l.Mark()
	l.Add(11)
	assigned := *l
	overwritten, _ := history.New[int](4)
	*overwritten = *l
	return map[string]*history.List[int]{"nil": nil, "a zero value": {}, "a copy by assignment": &assigned, "an overwritten list": overwritten}
}

// R2, P7.2, P7.4, P7.5: ErrNil and zero values with lists that are not valid, also where another error would apply.
func TestInvalidLists(t *testing.T) {
	for name, l := range invalid() {
		for _, i := range append(far, 0, 1, 2, 3, 4) {
			if err := l.Add(i); err != api.ErrNil {
				t.Errorf("%s: Add(%d): %d", name, i, err)
			}
			if x, err := l.At(i); x != 0 || err != api.ErrNil {
				t.Errorf("%s: At(%d): %d, %d", name, i, x, err)
			}
			if err := l.Cut(i); err != api.ErrNil {
				t.Errorf("%s: Cut(%d): %d", name, i, err)
			}
			for _, do := range []func(){l.Mark, l.Clear, func() {}} {
				do()
				if l.Len() != 0 || l.Marked() != 0 || l.Copy() != nil {
					t.Errorf("%s: Len %d, Marked %d, Copy %v", name, l.Len(), l.Marked(), l.Copy())
				}
				if all, since := l.All(), l.Since(); all == nil || since == nil || len(pairs(all)) != 0 || len(elements(since)) != 0 {
					t.Errorf("%s: All and Since yield elements, or are nil", name)
				}
			}
		}
	}
}

// R2: no call changes a list that is not valid, which would be seen where it is assigned back to a list that is.
func TestInvalidListsStay(t *testing.T) {
	for name, l := range invalid() {
		if l == nil {
			continue
		}
		for call, do := range map[string]func(){
			"Add":   func() { l.Add(12) },
			"Mark":  func() { l.Mark() },
			"Cut":   func() { l.Cut(1) },
			"Clear": func() { l.Clear() },
			"Copy":  func() { l.Copy() },
		} {
			before := *l
			do()
			if !reflect.DeepEqual(*l, before) {
				t.Errorf("%s: %s has changed it from %v to %v", name, call, before, *l)
			}
		}
	}
}

// R2: what is done to a copy by assignment is not seen in the list.
func TestCopyByAssignmentChangesNothing(t *testing.T) {
	b := made[int](t, 5)
	b.add(t, 2, 1)
	b.mark()
	b.add(t, 3)
	assigned := *b.l
	assigned.Add(4)
	assigned.Cut(2)
	assigned.Add(5)
	assigned.Mark()
	b.check(t)
	assigned.Clear()
	assigned.Add(6)
	b.check(t)
	b.add(t, 7, 8)
	b.check(t)
}

// R4: an element is kept as it was given, whatever becomes of the variables of the caller.
func TestMemory(t *testing.T) {
	l, _ := history.New[[3]int](2)
	x := [3]int{1, 2, 3}
	l.Add(x)
	x[0] = 9
	got, _ := l.At(0)
	got[1] = 9
	for _, x := range l.All() {
		x[2] = 9
	}
	for x := range l.Since() {
		x[2] = 9
	}
	if got, err := l.At(0); got != [3]int{1, 2, 3} || err != api.OK {
		t.Errorf("At(0): %v, %d", got, err)
	}
}

// P7.1: a copy has the elements by assignment, so that both lists refer to what the elements refer to.
func TestCopyByAssignmentOfElements(t *testing.T) {
	type deep struct {
		p    *int
		list []int
	}
	n := 1
	l, _ := history.New[deep](3)
	l.Add(deep{&n, []int{1, 2}})
	c := l.Copy()
	a, _ := l.At(0)
	b, err := c.At(0)
	if err != api.OK || a.p != &n || b.p != &n || &a.list[0] != &b.list[0] || len(b.list) != 2 {
		t.Errorf("the list has %v, its copy %v, %d", a, b, err)
	}
	b.list[1] = 7
	for _, x := range l.All() {
		if !slices.Equal(x.list, []int{1, 7}) {
			t.Errorf("All yields %v", x)
		}
	}
}

// P7.2, P7.4: elements of any type, also of those that cannot be compared, and of those that need no memory.
func TestTypesOfElements(t *testing.T) {
	functions, _ := history.New[func() int](5)
	for i := range 5 {
		if err := functions.Add(func() int { return i }); err != api.OK {
			t.Error(i, err)
		}
	}
	if f, err := functions.At(5); f != nil || err != api.ErrRange {
		t.Error("At(5)", err)
	}
	for i, f := range functions.All() {
		if f() != i {
			t.Errorf("%d: %d", i, f())
		}
	}
	failures, _ := history.New[error](3)
	failure := errors.New("failure")
	failures.Add(nil)
	failures.Add(failure)
	if x, err := failures.At(0); x != nil || err != api.OK {
		t.Error(x, err)
	}
	if x, err := failures.At(1); x == nil || !errors.Is(x, failure) || err != api.OK {
		t.Error(x, err)
	}
	if x, err := failures.At(-1); x != nil || err != api.ErrRange {
		t.Error(x, err)
	}
	empty := made[struct{}](t, 2)
	empty.add(t, struct{}{})
	empty.mark()
	empty.add(t, struct{}{}, struct{}{})
	empty.check(t)
	empty.cut(t, 1)
	empty.check(t)
	nested, _ := history.New[*history.List[string]](1)
	inner := made[string](t, 2)
	inner.add(t, "", "é")
	nested.Add(inner.l)
	got, _ := nested.At(0)
	got.Mark()
	inner.want[0].marked, inner.want[1].marked = true, true
	inner.check(t)
}

// P7.2: equal elements, and zeros, are elements like all others.
func TestEqualElements(t *testing.T) {
	b := made[string](t, 6)
	b.add(t, "", "", "a")
	b.mark()
	b.add(t, "a", "", "", "a")
	b.check(t)
	b.cut(t, 4)
	b.add(t, "a")
	b.check(t)
}

// P7.4: At has the zero value together with an error, and OK with an element that is zero.
func TestZeros(t *testing.T) {
	l, _ := history.New[int](2)
	for i, want := range []api.Errno{api.ErrRange, api.OK, api.OK} {
		if x, err := l.At(max(i-1, 0)); x != 0 || err != want {
			t.Errorf("At with %d elements: %d, %d instead of %d", i, x, err, want)
		}
		l.Add(0)
	}
	l.Cut(0)
	if x, err := l.At(0); x != 0 || err != api.ErrRange {
		t.Errorf("At behind Cut: %d, %d", x, err)
	}
}

// A list keeps nothing that it has not to keep: elements that were removed are collected, those that stay are not.
func TestRemovedElementsAreGone(t *testing.T) {
	type large [256]byte
	const n = 100
	l, _ := history.New[*large](n)
	var weaks []weak.Pointer[large]
	for range n {
		x := new(large)
		weaks = append(weaks, weak.Make(x))
		l.Add(x)
	}
	alive := func(some []weak.Pointer[large]) int {
		runtime.GC()
		count := 0
		for _, w := range some {
			if w.Value() != nil {
				count++
			}
		}
		return count
	}
	l.Cut(n / 2)
	// The collector may find a few of them in memory that is not in use any more.
	if kept := alive(weaks[n/2:]); kept > n/4 {
		t.Errorf("%d elements are kept behind Cut", kept)
	}
	if kept := alive(weaks[:n/2]); kept != n/2 {
		t.Errorf("%d elements instead of %d are kept by the list", kept, n/2)
	}
	l.Clear()
	if kept := alive(weaks[:n/2]); kept > n/4 {
		t.Errorf("%d elements are kept behind Clear", kept)
	}
	runtime.KeepAlive(l)
}

// R8: lists that have come to the same elements, limit and mark in different ways behave alike, step by step.
func TestPastDoesNotMatter(t *testing.T) {
	const limit = 40
	straight, cut, cleared := made[int](t, limit), made[int](t, limit), made[int](t, limit)
	for i := range limit {
		cleared.add(t, -i)
	}
	cleared.mark()
	cleared.clear()
	for i := range 20 {
		cut.add(t, i, -1, -2)
		cut.cut(t, i+1)
		for _, b := range []*both[int]{straight, cleared} {
			b.add(t, i)
		}
		if i == 9 {
			straight.mark()
			cut.mark()
			cleared.mark()
		}
	}
	list := []*both[int]{straight, cut, cleared, straight.copied(), cut.copied()}
	s := source(9)
	for i := range 500 {
		kind, n := s.below(14), s.below(limit+2)
		for _, b := range list {
			switch kind {
			case 0:
				b.mark()
			case 1, 2:
				b.cut(t, n)
			case 3:
				b.cut(t, b.l.Len()-n%4)
			case 4:
				if n == 0 {
					b.clear()
				}
			default:
				b.add(t, i)
			}
			b.check(t)
		}
		for _, b := range list[1:] {
			if !slices.Equal(b.want, list[0].want) {
				t.Fatal("the lists differ")
			}
		}
	}
}

// P7.10: a list can be asked from several sides at the same time, since questions change nothing.
func TestQuestionsAtTheSameTime(t *testing.T) {
	b := made[int](t, 60)
	for i := range 50 {
		if i == 20 {
			b.mark()
		}
		b.add(t, i*7%10)
	}
	var group sync.WaitGroup
	for range 4 {
		group.Go(func() {
			for range 20 {
				c := b.l.Copy()
				c.Add(1)
				if got := pairs(b.l.All()); !slices.Equal(got, b.pairs()) || b.l.Len() != 50 || b.l.Marked() != 20 {
					t.Errorf("All: %v, Len %d, Marked %d", got, b.l.Len(), b.l.Marked())
				}
				if got := elements(b.l.Since()); !slices.Equal(got, b.since()) {
					t.Errorf("Since: %v", got)
				}
			}
		})
	}
	group.Wait()
	b.check(t)
}

// The examples of the chapter.
func TestExamples(t *testing.T) {
	l, err := history.New[string](3)
	if err != api.OK {
		t.Fatal(err)
	}
	expect := func(call string, err, want api.Errno) {
		t.Helper()
		if err != want {
			t.Errorf("%s: %d instead of %d", call, err, want)
		}
	}
	expect(`Add("a")`, l.Add("a"), api.OK)
	l.Mark()
	expect(`Add("b")`, l.Add("b"), api.OK)
	expect(`Add("c")`, l.Add("c"), api.OK)
	expect(`Add("d")`, l.Add("d"), api.ErrFull)
	if got := elements(l.Since()); l.Marked() != 1 || l.Len() != 3 || !slices.Equal(got, []string{"b", "c"}) {
		t.Errorf("Marked %d, Len %d, Since %v", l.Marked(), l.Len(), got)
	}
	expect("Cut(0)", l.Cut(0), api.ErrRange)
	expect("Cut(4)", l.Cut(4), api.ErrRange)
	expect("Cut(2)", l.Cut(2), api.OK)
	if l.Len() != 2 {
		t.Errorf("Len %d", l.Len())
	}
	l.Mark()
	expect("Cut(1)", l.Cut(1), api.ErrRange)
	x, err := l.At(1)
	expect("At(1)", err, api.OK)
	none, err := l.At(2)
	expect("At(2)", err, api.ErrRange)
	if x != "b" || none != "" {
		t.Errorf("At(1) %q, At(2) %q", x, none)
	}
	l.Clear()
	if l.Len() != 0 || l.Marked() != 0 {
		t.Errorf("Len %d, Marked %d behind Clear", l.Len(), l.Marked())
	}
	expect(`Add("x")`, l.Add("x"), api.OK)
	for _, limit := range []int{-1, 100001} {
		none, err := history.New[string](limit)
		if none != nil || err != api.ErrArg {
			t.Errorf("New(%d): %v, %d", limit, none, err)
		}
	}
}

// P1: no call panics or runs on, and the list stays what the chapter says, whatever the calls and numbers are.
func FuzzNoPanic(f *testing.F) {
	f.Add([]byte{}, 0, 0)
	f.Add([]byte{1, 9, 17, 2, 10, 18, 3}, 8, -1)
	f.Add([]byte{7, 1, 15, 7, 23, 2, 0, 7, 255, 31}, 100000, math.MaxInt)
	f.Add([]byte{200, 100, 50, 25, 12, 6, 3, 1, 7, 7, 7, 15, 15, 15}, 3, math.MinInt)
	f.Add([]byte{0, 0, 0, 4, 0, 0, 5, 13, 21, 29, 6, 0, 7, 0}, 5, 2)
	f.Fuzz(func(t *testing.T, calls []byte, limit, i int) {
		l, err := history.New[int](limit)
		if (err == api.OK) != (limit >= 0 && limit <= maxLimit) || (l == nil) == (err == api.OK) {
			t.Fatalf("New(%d): %d", limit, err)
		}
		if err != api.OK {
			l.Mark()
			l.Clear()
			if l.Add(i) != api.ErrNil || l.Cut(i) != api.ErrNil || l.Len() != 0 || l.Marked() != 0 || l.Copy() != nil {
				t.Error("a nil list is a list")
			}
			return
		}
		b := &both[int]{l: l, limit: limit}
		for n, c := range calls {
			switch c % 8 {
			case 4:
				b.mark()
			case 5:
				b.cut(t, int(c/8))
			case 6:
				b = b.copied()
			case 7:
				b.clear()
			default:
				b.add(t, n)
			}
		}
		b.check(t)
		b.cut(t, i)
		b.checkAt(t, i)
		b.check(t)
	})
}
