package image_test

import (
	"bytes"
	"math"
	"reflect"
	"slices"
	"sync"
	"testing"

	"drumlin/api"
	"drumlin/image"
)

// faces has the calls of the chapter: a change of one of their signatures does not compile.
type faces interface {
	Append(b []byte) api.Errno
	Sync()
	Crash(keep int) api.Errno
	Erase()
	Read(off, n int) ([]byte, api.Errno)
	Len() int
	Durable() int
	Room() int
	Size() int
	Copy() *image.Image
}

var (
	_ func(int) (*image.Image, api.Errno) = image.New
	_ faces                               = (*image.Image)(nil)
)

const maxSize = 8192

// below and beyond have numbers that are no size, and no offset or number of bytes, of any image. Some of them would be one if they lost their high bits.
var (
	below  = []int{math.MinInt, math.MinInt + 1, math.MinInt + 5, -1 << 32, -(1 << 32) + 3, -65536, -8193, -8192, -4, -2, -1}
	beyond = []int{8193, 8194, 16384, 65535, 65536, 65537, 1<<32 - 1, 1 << 32, 1<<32 + 1, 1 << 40, math.MaxInt - 5, math.MaxInt - 1, math.MaxInt}
)

// cell is a byte that says itself whether it is durable.
type cell struct {
	b       byte
	durable bool
}

// both is an image, and by the chapter's definitions what it should have.
type both struct {
	m    *image.Image
	size int
	want []cell
}

func made(t *testing.T, size int) *both {
	t.Helper()
	m, err := image.New(size)
	if m == nil || err != api.OK {
		t.Fatalf("New(%d): %d", size, err)
	}
	return &both{m: m, size: size}
}

// filled returns an image with so many durable bytes, and so many others.
func filled(t *testing.T, size, durable, unsynced int) *both {
	t.Helper()
	b := made(t, size)
	b.append(t, run(1, durable)...)
	b.sync()
	b.append(t, run(1+durable, unsynced)...)
	return b
}

// run returns n bytes that follow each other, from the first one on; those that are near each other differ.
func run(first, n int) []byte {
	out := make([]byte, n)
	for i := range out {
		out[i] = byte((first + i) % 251)
	}
	return out
}

func (b *both) copied() *both {
	return &both{b.m.Copy(), b.size, slices.Clone(b.want)}
}

func (b *both) bytes() []byte {
	var out []byte
	for _, c := range b.want {
		out = append(out, c.b)
	}
	return out
}

// durable counts the bytes that are durable.
func (b *both) durable() int {
	n := 0
	for _, c := range b.want {
		if c.durable {
			n++
		}
	}
	return n
}

func (b *both) append(t *testing.T, list ...byte) {
	t.Helper()
	want := api.ErrFull
	if len(b.want)+len(list) <= b.size {
		want = api.OK
	}
	if err := b.m.Append(list); err != want {
		t.Fatalf("Append of %d bytes to %d with the size %d: %d instead of %d", len(list), len(b.want), b.size, err, want)
	}
	if want != api.OK {
		return
	}
	for _, x := range list {
		b.want = append(b.want, cell{x, false})
	}
}

func (b *both) sync() {
	b.m.Sync()
	for i := range b.want {
		b.want[i].durable = true
	}
}

func (b *both) erase() {
	b.m.Erase()
	b.want = nil
}

func (b *both) crash(t *testing.T, keep int) {
	t.Helper()
	want := api.OK
	if keep < 0 {
		want = api.ErrArg
	}
	if err := b.m.Crash(keep); err != want {
		t.Fatalf("Crash(%d): %d instead of %d", keep, err, want)
	}
	if want != api.OK {
		return
	}
	var kept []cell
	for _, c := range b.want {
		if !c.durable {
			keep--
		}
		if keep >= 0 || c.durable {
			kept = append(kept, cell{c.b, true})
		}
	}
	b.want = kept
}

// check asks all questions; of a large image it reads at some places alone.
func (b *both) check(t *testing.T) {
	t.Helper()
	b.checkWhole(t)
	n := len(b.want)
	list := []int{-2, -1, 0, 1, n / 3, b.durable(), n - 1, n, n + 1, b.size, b.size + 1}
	if n < 12 {
		for i := range n + 3 {
			list = append(list, i)
		}
	}
	for _, off := range list {
		for _, k := range list {
			b.checkRead(t, off, k)
			b.checkRead(t, off, k-off)
		}
	}
	// P9.8: the questions have not changed the image.
	b.checkWhole(t)
}

func (b *both) checkWhole(t *testing.T) {
	t.Helper()
	n := len(b.want)
	if b.m.Len() != n || b.m.Durable() != b.durable() || b.m.Size() != b.size || b.m.Room() != b.size-n {
		t.Fatalf("Len %d, Durable %d, Size %d, Room %d with %d bytes, %d of them durable, and the size %d", b.m.Len(), b.m.Durable(), b.m.Size(), b.m.Room(), n, b.durable(), b.size)
	}
	if got, err := b.m.Read(0, n); err != api.OK || !bytes.Equal(got, b.bytes()) {
		t.Fatalf("Read(0, %d): %v, %d instead of %v", n, got, err, b.bytes())
	}
}

func (b *both) checkRead(t *testing.T, off, n int) {
	t.Helper()
	// A float holds the sum of all numbers there are; that it is not exact for great ones does not matter here.
	if off < 0 || n < 0 || float64(off)+float64(n) > float64(len(b.want)) {
		if got, err := b.m.Read(off, n); len(got) != 0 || err != api.ErrRange {
			t.Fatalf("Read(%d, %d) of %d bytes: %v, %d", off, n, len(b.want), got, err)
		}
		return
	}
	var want []byte
	for _, c := range b.want[off : off+n] {
		want = append(want, c.b)
	}
	if got, err := b.m.Read(off, n); err != api.OK || !bytes.Equal(got, want) {
		t.Fatalf("Read(%d, %d): %v, %d instead of %v", off, n, got, err, want)
	}
}

// whole returns all bytes of an image.
func whole(m *image.Image) []byte {
	got, _ := m.Read(0, m.Len())
	return got
}

// source makes numbers that look random, the same ones in each run.
type source uint64

func (s *source) below(n int) int {
	*s = *s*6364136223846793005 + 1442695040888963407
	return int(*s >> 33 % source(n))
}

// step does one call that is chosen by a number.
func (b *both) step(t *testing.T, kind, n int) {
	t.Helper()
	switch kind {
	case 0:
		b.erase()
	case 1, 2:
		b.sync()
	case 3, 4:
		b.crash(t, n-1)
	default:
		b.append(t, run(n*7, n)...)
	}
}

// P9.1: all sizes that there are, and what is beyond them.
func TestNewSizes(t *testing.T) {
	if maxSize != api.MaxSize {
		t.Fatal("the tests are for another limit")
	}
	for size := 1; size <= maxSize; size++ {
		m, err := image.New(size)
		if m == nil || err != api.OK || m.Size() != size || m.Room() != size || m.Len() != 0 || m.Durable() != 0 {
			t.Errorf("New(%d): %v, %d", size, m, err)
		}
	}
	for _, size := range slices.Concat(below, beyond, []int{0}) {
		if m, err := image.New(size); m != nil || err != api.ErrArg {
			t.Errorf("New(%d): %v, %d", size, m, err)
		}
	}
}

// P9.1: a new image has no bytes, whatever is done to it first, and each New returns another one.
func TestNewIsEmpty(t *testing.T) {
	for _, size := range []int{1, 2, 5, 64, 8191, 8192} {
		b, other := made(t, size), made(t, size)
		b.check(t)
		for _, do := range []func(){b.sync, b.erase, func() { b.crash(t, 0) }, func() { b.crash(t, 3) }, func() { b.append(t) }} {
			do()
			b.check(t)
		}
		b.append(t, run(1, size)...)
		b.sync()
		b.check(t)
		other.check(t)
		made(t, size).check(t)
	}
}

// P9.2: all lengths for all small images: what fits is appended whole, what does not fit not at all.
func TestAppend(t *testing.T) {
	for size := 1; size <= 7; size++ {
		for durable := range size + 1 {
			for unsynced := range size - durable + 1 {
				for n := range size + 3 {
					b := filled(t, size, durable, unsynced)
					b.append(t, run(100, n)...)
					b.check(t)
					b.append(t, 200)
					b.check(t)
					b.append(t)
					b.check(t)
				}
			}
		}
	}
}

// P9.2: an image of the greatest size takes all its bytes, at once or in parts, and none beyond.
func TestAppendAtLimit(t *testing.T) {
	for _, size := range []int{1, 63, 64, 255, 256, 257, 4096, 8191, 8192} {
		for _, part := range []int{1, 7, 64, 1000, size - 1, size} {
			b := made(t, size)
			if part < 1 || size/part > 1000 {
				continue
			}
			for i := 0; i < size; i += part {
				b.append(t, run(i, min(part, size-i))...)
				b.append(t, run(3, size-len(b.want)+1)...)
			}
			b.check(t)
			for _, n := range []int{0, 1, 2, size, 8192, 65536, 1 << 20} {
				b.append(t, make([]byte, n)...)
			}
			b.check(t)
		}
	}
}

// P9.2: lengths that would fit if they lost their high bits do not fit.
func TestLongAppend(t *testing.T) {
	for _, n := range []int{7, 256, 257, 8193, 65536, 65537, 1 << 24, 1<<24 + 2} {
		for _, b := range []*both{made(t, 6), filled(t, 6, 2, 1), filled(t, 6, 0, 6)} {
			b.append(t, make([]byte, n)...)
			b.check(t)
		}
	}
}

// P9.2: all bytes there are, and all of them zero, are kept as they are.
func TestAllBytes(t *testing.T) {
	b := made(t, 1024)
	for x := range 256 {
		b.append(t, byte(x))
	}
	for x := range 256 {
		b.append(t, byte(255-x), byte(x))
	}
	b.sync()
	b.append(t, make([]byte, 256)...)
	b.check(t)
	b.crash(t, 255)
	b.check(t)
}

// R3, P9.2: no bytes are appended the same way whether the slice is nil or empty; they also fit in a full image.
func TestAppendOfNone(t *testing.T) {
	for _, b := range []*both{made(t, 3), filled(t, 3, 1, 0), filled(t, 3, 1, 1), filled(t, 3, 3, 0), filled(t, 3, 0, 3)} {
		for _, none := range [][]byte{nil, {}, make([]byte, 0, 9), []byte("abc")[3:]} {
			if err := b.m.Append(none); err != api.OK {
				t.Errorf("Append of none: %d", err)
			}
			b.check(t)
		}
	}
}

// P9.3: Sync makes all bytes durable, those that come behind it are not.
func TestSync(t *testing.T) {
	for durable := range 6 {
		for unsynced := range 6 {
			b := filled(t, 12, durable, unsynced)
			b.check(t)
			b.sync()
			if b.m.Durable() != durable+unsynced {
				t.Errorf("Durable %d of %d", b.m.Durable(), durable+unsynced)
			}
			b.check(t)
			b.sync()
			b.check(t)
			b.append(t, 77, 78)
			b.check(t)
			b.crash(t, 1)
			b.check(t)
		}
	}
}

// P9.3: an image that was erased is as a new one, and takes as many bytes again.
func TestErase(t *testing.T) {
	for durable := range 6 {
		for unsynced := range 6 - durable {
			b := filled(t, 5, durable, unsynced)
			b.erase()
			b.check(t)
			b.erase()
			b.check(t)
			b.crash(t, 9)
			b.check(t)
			b.append(t, run(50, 6)...)
			b.append(t, run(60, 5)...)
			b.check(t)
			b.crash(t, 2)
			b.check(t)
		}
	}
}

// P9.4: all small images, with all numbers of bytes to keep.
func TestCrash(t *testing.T) {
	for durable := range 7 {
		for unsynced := range 7 {
			for _, keep := range slices.Concat(below, beyond, []int{0, 1, 2, 3, 4, 5, 6, 7, 8, 12, 13}) {
				b := filled(t, 12, durable, unsynced)
				b.crash(t, keep)
				b.check(t)
				b.append(t, 90, 91)
				b.check(t)
				b.crash(t, 1)
				b.check(t)
			}
		}
	}
}

// P9.4: a crash of an image of the greatest size, at all numbers around those of its bytes.
func TestCrashAtLimit(t *testing.T) {
	for _, durable := range []int{0, 1, 100, 4096, 8191, 8192} {
		for _, keep := range []int{0, 1, 4095, 4096, 4097, 8091, 8092, 8093, 8190, 8191, 8192, 8193, math.MaxInt} {
			b := filled(t, maxSize, durable, maxSize-durable)
			b.crash(t, keep)
			b.checkWhole(t)
			b.append(t, run(9, maxSize-len(b.want))...)
			b.checkWhole(t)
		}
	}
}

// P9.5: all offsets and lengths in small images, durable or not, and numbers that do not fit.
func TestRead(t *testing.T) {
	for durable := range 5 {
		for unsynced := range 5 {
			b := filled(t, 9, durable, unsynced)
			n := durable + unsynced
			for off := -3; off < 12; off++ {
				for k := -3; k < 12; k++ {
					b.checkRead(t, off, k)
				}
			}
			for _, x := range slices.Concat(below, beyond) {
				for _, y := range slices.Concat(below, beyond, []int{-n, 0, 1, n - 1, n, n + 1}) {
					b.checkRead(t, x, y)
					b.checkRead(t, y, x)
				}
			}
			b.checkWhole(t)
		}
	}
}

// P9.5, R5: offsets and lengths whose sum does not fit in an int, and would be a place of the image then.
func TestReadOfLargeSums(t *testing.T) {
	for _, b := range []*both{made(t, 5), filled(t, 5, 2, 3), filled(t, maxSize, 4000, 4192)} {
		for i := range 20 {
			for _, k := range []int{0, 1, 3, 5, 8192} {
				b.checkRead(t, math.MaxInt-i, i+1+k)
				b.checkRead(t, i+1+k, math.MaxInt-i)
				b.checkRead(t, math.MinInt+i, math.MinInt+k-i)
				b.checkRead(t, math.MinInt+i, math.MaxInt-i+k)
			}
		}
		b.checkRead(t, math.MaxInt, math.MaxInt)
		b.checkRead(t, math.MinInt, math.MinInt)
		b.check(t)
	}
}

// P9.5: an image of the greatest size, read in parts.
func TestReadInParts(t *testing.T) {
	b := filled(t, maxSize, 3000, 5192)
	for _, part := range []int{16, 100, 1000, 8191, 8192} {
		for off := 0; off < maxSize; off += part {
			b.checkRead(t, off, min(part, maxSize-off))
			b.checkRead(t, off, maxSize-off+1)
		}
	}
	b.check(t)
}

// P9.6: the numbers fit together behind each call.
func TestNumbers(t *testing.T) {
	s := source(7)
	for _, size := range []int{1, 2, 9, 40} {
		b := made(t, size)
		for range 400 {
			b.step(t, s.below(10), s.below(size/2+2))
			if m := b.m; m.Len()+m.Room() != m.Size() || m.Size() != size || m.Durable() > m.Len() || m.Durable() < 0 || m.Room() < 0 {
				t.Fatalf("Len %d, Room %d, Size %d, Durable %d", m.Len(), m.Room(), m.Size(), m.Durable())
			}
		}
	}
}

// P9.1, R8: what is done to a copy is not seen in the others, in whatever state it was made.
func TestCopy(t *testing.T) {
	for durable := range 4 {
		for unsynced := range 4 {
			for _, keep := range []int{-1, 0, 1} {
				b := filled(t, 8, durable, unsynced)
				// A crash leaves memory behind the bytes, in which two images must not append.
				b.crash(t, keep)
				grown, erased, synced, crashed := b.copied(), b.copied(), b.copied(), b.copied()
				grown.append(t, 100, 101)
				b.append(t, 110)
				erased.erase()
				erased.append(t, 120, 121)
				synced.sync()
				synced.append(t, 130)
				crashed.crash(t, 0)
				crashed.append(t, 140, 141)
				again := grown.copied()
				grown.erase()
				again.append(t, 150)
				for _, x := range []*both{b, grown, erased, synced, crashed, again} {
					x.check(t)
				}
			}
		}
	}
}

// P9.1 to P9.6: all sequences of some calls.
func TestAllSequences(t *testing.T) {
	calls := []func(b *both){
		func(b *both) { b.append(t, run(len(b.want)*3+5, 1)...) },
		func(b *both) { b.append(t, run(len(b.want)*5+60, 3)...) },
		func(b *both) { b.sync() },
		func(b *both) { b.erase() },
		func(b *both) { b.crash(t, 0) },
		func(b *both) { b.crash(t, 2) },
	}
	var grow func(b *both, left int)
	grow = func(b *both, left int) {
		b.checkWhole(t)
		if left == 0 {
			return
		}
		for _, call := range calls {
			c := b.copied()
			call(c)
			grow(c, left-1)
		}
		// What was done to the copies is not seen here.
		b.checkWhole(t)
	}
	grow(made(t, 6), 6)
	grow(filled(t, 5, 1, 1), 4)
	grow(filled(t, 3, 2, 1), 4)
}

// P9.1 to P9.6: long sequences of all calls, on several images of each size.
func TestLongSequences(t *testing.T) {
	s := source(1)
	for _, size := range []int{1, 2, 3, 10, 64, 100, 1000, 8192} {
		list := []*both{made(t, size), made(t, size), made(t, size)}
		for range 300 {
			k, kind := s.below(len(list)), s.below(12)
			if kind == 11 {
				list[k] = list[s.below(len(list))].copied()
			} else {
				list[k].step(t, kind, s.below(size/3+3))
			}
			for _, b := range list {
				b.checkWhole(t)
			}
		}
		for _, b := range list {
			b.check(t)
		}
	}
}

// P9.7: behind a crash there is a prefix of the bytes, which includes the durable ones; a second crash changes nothing.
func TestCrashKeepsPrefix(t *testing.T) {
	for durable := range 6 {
		for unsynced := range 6 {
			for keep := range 8 {
				b := filled(t, 10, durable, unsynced)
				before := whole(b.m)
				if err := b.m.Crash(keep); err != api.OK {
					t.Fatalf("Crash(%d): %d", keep, err)
				}
				after := whole(b.m)
				if !bytes.HasPrefix(before, after) || len(after) < durable || len(after) != durable+min(keep, unsynced) || b.m.Durable() != len(after) {
					t.Fatalf("Crash(%d) of %v, %d of them durable: %v, %d of them durable", keep, before, durable, after, b.m.Durable())
				}
				for again := range 8 {
					if err := b.m.Crash(again); err != api.OK || !bytes.Equal(whole(b.m), after) || b.m.Durable() != len(after) || b.m.Room() != 10-len(after) {
						t.Fatalf("a second crash, Crash(%d), leaves %v of %v", again, whole(b.m), after)
					}
				}
			}
		}
	}
}

// P9.8: bytes that are there stay as they are until Erase or Crash, and durable ones until Erase.
func TestAppendOnly(t *testing.T) {
	s := source(2)
	for _, size := range []int{2, 20, 500, maxSize} {
		b := made(t, size)
		for range 300 {
			before, durable := whole(b.m), b.m.Durable()
			kind := s.below(20)
			b.step(t, kind, s.below(size/8+2))
			after := whole(b.m)
			switch {
			case kind == 0 && len(after) != 0:
				t.Fatalf("Erase leaves %v", after)
			case kind == 3 || kind == 4:
				before = before[:durable]
			}
			if kind != 0 && (!bytes.HasPrefix(after, before) || b.m.Durable() < durable) {
				t.Fatalf("%v became %v", before, after)
			}
		}
	}
}

// P9.8, R1: each question, each Copy, and each call that returns an error, leaves the image as it was.
func TestQuestionsChangeNothing(t *testing.T) {
	questions := map[string]func(m *image.Image, i int){
		"Append of too many bytes":  func(m *image.Image, i int) { m.Append(make([]byte, 3+i)) },
		"Append of none":            func(m *image.Image, i int) { m.Append(nil); m.Append([]byte{}) },
		"Crash of a negative":       func(m *image.Image, i int) { m.Crash(below[i]) },
		"Read of what is there":     func(m *image.Image, i int) { m.Read(i%5, 5-i%5); m.Read(i%6, 0) },
		"Read of what is not there": func(m *image.Image, i int) { m.Read(i, 6-i%6); m.Read(6+i, 0) },
		"Read of a negative":        func(m *image.Image, i int) { m.Read(below[i], 3); m.Read(3, below[i]); m.Read(-1-i, -1-i) },
		"Read of what is far":       func(m *image.Image, i int) { m.Read(beyond[i], 1); m.Read(1, beyond[i]); m.Read(beyond[i], beyond[i]) },
		"Len, Durable, Room, Size":  func(m *image.Image, _ int) { m.Len(); m.Durable(); m.Room(); m.Size() },
		"Copy":                      func(m *image.Image, _ int) { m.Copy() },
		"Sync of a copy":            func(m *image.Image, _ int) { m.Copy().Sync() },
		"Append to a copy":          func(m *image.Image, i int) { c := m.Copy(); c.Append([]byte{9}); c.Append([]byte{byte(i)}) },
		"Crash of a copy":           func(m *image.Image, i int) { c := m.Copy(); c.Crash(i % 3); c.Append([]byte{9, 9}) },
		"Erase of a copy":           func(m *image.Image, _ int) { c := m.Copy(); c.Erase(); c.Append([]byte{9, 9, 9, 9, 9, 9}) },
	}
	for name, ask := range questions {
		b := filled(t, 7, 2, 3)
		for i := range below {
			ask(b.m, i)
			if got := whole(b.m); !bytes.Equal(got, b.bytes()) || b.m.Durable() != 2 || b.m.Room() != 2 || b.m.Size() != 7 {
				t.Errorf("%s: the image has %v, %d of them durable", name, got, b.m.Durable())
			}
		}
		b.check(t)
	}
}

// R4: Append does not change its bytes, takes none from behind their length, and keeps no reference to them.
func TestMemoryOfArguments(t *testing.T) {
	for _, size := range []int{4, 5, 6, 8, 100} {
		memory := []byte{1, 2, 3, 4, 5, 6, 7, 8}
		part := memory[2:6]
		b := made(t, size)
		b.append(t, part...)
		b.check(t)
		if !bytes.Equal(memory, []byte{1, 2, 3, 4, 5, 6, 7, 8}) {
			t.Errorf("Append has changed the memory of its argument: %v", memory)
		}
		for i := range memory {
			memory[i] = 99
		}
		b.check(t)
		b.append(t, 50, 51)
		b.sync()
		b.crash(t, 0)
		b.check(t)
		b.erase()
		b.append(t, 60)
		if !bytes.Equal(memory, bytes.Repeat([]byte{99}, 8)) {
			t.Errorf("later calls have changed the memory of an argument: %v", memory)
		}
		b.check(t)
	}
}

// spoil writes over all memory that a result gives access to, also behind its length.
func spoil(b []byte) {
	whole := b[:cap(b)]
	for i := range whole {
		whole[i] = 0xEE
	}
}

// R4: what Read returns is new memory: what is done to it is not seen in the image, nor in other results.
func TestMemoryOfResults(t *testing.T) {
	for durable := range 5 {
		for unsynced := range 5 {
			b := filled(t, 8, durable, unsynced)
			n := durable + unsynced
			for off := range n + 1 {
				for k := range n - off + 1 {
					got, _ := b.m.Read(off, k)
					other, _ := b.m.Read(off, k)
					kept := slices.Clone(other)
					spoil(got)
					_ = append(got, 0xEE)
					b.checkWhole(t)
					if !bytes.Equal(other, kept) {
						t.Fatalf("two results of Read(%d, %d) share memory", off, k)
					}
				}
			}
			b.append(t, run(200, 8-n)...)
			b.check(t)
		}
	}
}

// R4, P9.8: what Read has returned stays as it is, whatever is done to the image and its copies later.
func TestResultsStay(t *testing.T) {
	changes := map[string]func(m *image.Image){
		"Append": func(m *image.Image) { m.Append([]byte{70, 71}) },
		"Crash":  func(m *image.Image) { m.Crash(0); m.Append([]byte{70, 71, 72}) },
		"Erase":  func(m *image.Image) { m.Erase(); m.Append([]byte{70, 71, 72, 73, 74, 75}) },
	}
	for name, change := range changes {
		b := filled(t, 8, 2, 3)
		got, c := whole(b.m), b.copied()
		change(b.m)
		if !bytes.Equal(got, run(1, 5)) {
			t.Errorf("%s has changed what was read: %v", name, got)
		}
		c.check(t)
		changed := whole(b.m)
		change(c.m)
		if !bytes.Equal(got, run(1, 5)) || !bytes.Equal(whole(b.m), changed) {
			t.Errorf("%s of a copy: the image has %v, what was read %v", name, whole(b.m), got)
		}
	}
}

// P9.2: what was read of an image can be appended to it.
func TestAppendOfItsOwnBytes(t *testing.T) {
	b := filled(t, 40, 2, 3)
	for range 3 {
		b.append(t, whole(b.m)...)
		b.check(t)
	}
	b.append(t, 1)
	b.crash(t, 4)
	b.append(t, whole(b.m)...)
	b.check(t)
}

// R3, P1: with an error, and of no bytes, Read returns no bytes, whether nil or empty.
func TestReadOfNone(t *testing.T) {
	b := filled(t, 6, 2, 2)
	for off := range 5 {
		if got, err := b.m.Read(off, 0); len(got) != 0 || err != api.OK {
			t.Errorf("Read(%d, 0): %v, %d", off, got, err)
		}
	}
	for _, at := range [][2]int{{5, 0}, {4, 1}, {0, 5}, {-1, 0}, {0, -1}, {6, -2}} {
		if got, err := b.m.Read(at[0], at[1]); len(got) != 0 || err != api.ErrRange {
			t.Errorf("Read(%d, %d): %v, %d", at[0], at[1], got, err)
		}
	}
}

// invalid returns the images that were not returned by New or Copy.
func invalid() map[string]*image.Image {
	build := func() *image.Image {
		m, _ := image.New(5)
		m.Append([]byte{1, 2})
		m.Sync()
		m.Append([]byte{3})
		return m
	}
	m := build()
	assigned, zeroed, overwritten := *m, build(), build()
	*zeroed = image.Image{}
	*overwritten = *m
	return map[string]*image.Image{"nil": nil, "a zero value": {}, "a copy by assignment": &assigned, "an image without its contents": zeroed, "an overwritten image": overwritten}
}

// R2, P9.2 to P9.6: ErrNil and zero values with images that are not valid, also where another error would apply.
func TestInvalidImages(t *testing.T) {
	for name, m := range invalid() {
		for _, i := range slices.Concat(below, beyond, []int{0, 1, 2, 3, 4}) {
			if err := m.Crash(i); err != api.ErrNil {
				t.Errorf("%s: Crash(%d): %d", name, i, err)
			}
			for _, n := range []int{i, 0, 1, -1} {
				if got, err := m.Read(i, n); len(got) != 0 || err != api.ErrNil {
					t.Errorf("%s: Read(%d, %d): %v, %d", name, i, n, got, err)
				}
			}
		}
		for _, n := range []int{0, 1, 2, 6, 8193} {
			if err := m.Append(make([]byte, n)); err != api.ErrNil {
				t.Errorf("%s: Append of %d bytes: %d", name, n, err)
			}
		}
		for _, do := range []func(){func() {}, m.Sync, m.Erase} {
			do()
			if m.Len() != 0 || m.Durable() != 0 || m.Room() != 0 || m.Size() != 0 || m.Copy() != nil {
				t.Errorf("%s: Len %d, Durable %d, Room %d, Size %d, Copy %v", name, m.Len(), m.Durable(), m.Room(), m.Size(), m.Copy())
			}
		}
	}
}

// R2: no call changes an image that is not valid, which would be seen where it is assigned back to one that is.
func TestInvalidImagesStay(t *testing.T) {
	for name, m := range invalid() {
		if m == nil {
			continue
		}
		for call, do := range map[string]func(){
			"Append": func() { m.Append([]byte{4}) },
			"Sync":   func() { m.Sync() },
			"Crash":  func() { m.Crash(0) },
			"Erase":  func() { m.Erase() },
			"Read":   func() { m.Read(0, 1) },
			"Copy":   func() { m.Copy() },
		} {
			before := *m
			do()
			if !reflect.DeepEqual(*m, before) {
				t.Errorf("%s: %s has changed it from %v to %v", name, call, before, *m)
			}
		}
	}
}

// R2: what is done to a copy by assignment is not seen in the image.
func TestCopyByAssignmentChangesNothing(t *testing.T) {
	b := filled(t, 6, 2, 2)
	assigned := *b.m
	assigned.Append([]byte{50})
	assigned.Crash(0)
	assigned.Append([]byte{51, 52})
	assigned.Sync()
	b.check(t)
	assigned.Erase()
	assigned.Append([]byte{53})
	b.check(t)
	b.append(t, 54)
	b.check(t)
}

// R8: images that have come to the same bytes in different ways behave alike, step by step.
func TestPastDoesNotMatter(t *testing.T) {
	const size = 30
	straight, crashed, erased := made(t, size), made(t, size), made(t, size)
	erased.append(t, run(90, size)...)
	erased.sync()
	erased.erase()
	for i := range 10 {
		straight.append(t, byte(i))
		erased.append(t, byte(i))
		crashed.append(t, byte(i), 98, 99)
		crashed.crash(t, 1)
	}
	straight.sync()
	erased.crash(t, 10)
	list := []*both{straight, crashed, erased, straight.copied(), crashed.copied(), erased.copied()}
	s := source(9)
	for range 500 {
		kind, n := s.below(12), s.below(size/2)
		for _, b := range list {
			b.step(t, kind, n)
			b.checkWhole(t)
			b.checkRead(t, n, n/2)
			if !slices.Equal(b.want, list[0].want) {
				t.Fatal("the images differ")
			}
		}
	}
}

// P9.8: an image can be asked from several sides at the same time, since questions change nothing.
func TestQuestionsAtTheSameTime(t *testing.T) {
	b := filled(t, 200, 60, 50)
	b.crash(t, 20)
	b.append(t, 1, 2, 3)
	want := b.bytes()
	var group sync.WaitGroup
	for i := range 4 {
		group.Go(func() {
			for range 100 {
				c := b.m.Copy()
				c.Append([]byte{byte(i)})
				c.Crash(i)
				spoil(whole(c))
				if got := whole(b.m); !bytes.Equal(got, want) || b.m.Len() != 83 || b.m.Durable() != 80 || b.m.Room() != 117 {
					t.Errorf("Read: %v, Len %d, Durable %d", got, b.m.Len(), b.m.Durable())
				}
			}
		})
	}
	group.Wait()
	b.check(t)
}

// sample is an image of the chapter's examples.
type sample struct {
	t *testing.T
	m *image.Image
}

func (s *sample) expect(call string, err, want api.Errno) {
	s.t.Helper()
	if err != want {
		s.t.Errorf("%s: %d instead of %d", call, err, want)
	}
}

func (s *sample) numbers(n, durable, room int) {
	s.t.Helper()
	if s.m.Len() != n || s.m.Durable() != durable || s.m.Room() != room {
		s.t.Errorf("Len %d, Durable %d, Room %d instead of %d, %d, %d", s.m.Len(), s.m.Durable(), s.m.Room(), n, durable, room)
	}
}

func (s *sample) read(off, n int, err api.Errno, want ...byte) {
	s.t.Helper()
	if got, e := s.m.Read(off, n); e != err || !bytes.Equal(got, want) {
		s.t.Errorf("Read(%d, %d): %v, %d instead of %v, %d", off, n, got, e, want, err)
	}
}

// The examples of the chapter.
func TestExamples(t *testing.T) {
	m, err := image.New(6)
	s := &sample{t, m}
	s.expect("New(6)", err, api.OK)
	s.expect("Append(1 2)", m.Append([]byte{1, 2}), api.OK)
	m.Sync()
	s.expect("Append(3 4 5)", m.Append([]byte{3, 4, 5}), api.OK)
	s.numbers(5, 2, 1)
	s.expect("Append(6 7)", m.Append([]byte{6, 7}), api.ErrFull)
	s.read(1, 3, api.OK, 2, 3, 4)
	s.read(3, 3, api.ErrRange)
	s.read(5, 0, api.OK)
	s.expect("Crash(1)", m.Crash(1), api.OK)
	s.numbers(3, 3, 3)
	s.read(0, 3, api.OK, 1, 2, 3)
	s.expect("Append(8)", m.Append([]byte{8}), api.OK)
	s.expect("Crash(-1)", m.Crash(-1), api.ErrArg)
	s.expect("Crash(0)", m.Crash(0), api.OK)
	s.numbers(3, 3, 3)
	m.Erase()
	s.numbers(0, 0, 6)
	s.expect("Append of 6 bytes", m.Append(make([]byte, 6)), api.OK)
	s.expect("Append of none", m.Append(nil), api.OK)
	for _, size := range []int{0, 8193} {
		none, err := image.New(size)
		s.expect("New", err, api.ErrArg)
		if none != nil {
			t.Errorf("New(%d): %v", size, none)
		}
	}
}

// P1: no call panics or runs on, and the image stays what the chapter says, whatever the calls and numbers are.
func FuzzNoPanic(f *testing.F) {
	f.Add([]byte{}, 0, 0, 0)
	f.Add([]byte{0, 8, 16, 5, 88, 3, 24, 4, 6, 7, 0}, 8, -1, 3)
	f.Add([]byte{255, 5, 250, 252, 135, 3, 11, 5, 7}, 8192, math.MaxInt, math.MaxInt)
	f.Add([]byte{200, 100, 50, 25, 12, 6, 3, 1, 5, 5}, 33, math.MinInt, math.MinInt)
	f.Add([]byte{64, 4, 72, 3, 80, 7, 65, 5, 7}, 40, math.MaxInt, 2)
	f.Fuzz(func(t *testing.T, calls []byte, size, i, j int) {
		m, err := image.New(size)
		if (err == api.OK) != (size >= 1 && size <= maxSize) || (m == nil) == (err == api.OK) {
			t.Fatalf("New(%d): %d", size, err)
		}
		if err != api.OK {
			m.Sync()
			m.Erase()
			got, err := m.Read(i, j)
			if m.Append(calls) != api.ErrNil || m.Crash(i) != api.ErrNil || len(got) != 0 || err != api.ErrNil || m.Len() != 0 || m.Copy() != nil {
				t.Error("a nil image is an image")
			}
			return
		}
		b := &both{m: m, size: size}
		for k, c := range calls {
			switch n := int(c / 8); c % 8 {
			case 3:
				b.crash(t, n-1)
			case 4:
				b.append(t, calls[k:]...)
			case 5:
				b.sync()
			case 6:
				b = b.copied()
			case 7:
				b.erase()
			default:
				b.append(t, run(k, n)...)
			}
		}
		b.check(t)
		b.checkRead(t, i, j)
		b.crash(t, j)
		b.checkRead(t, j, i)
		b.check(t)
	})
}
