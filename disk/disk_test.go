package disk_test

import (
	"bytes"
	"iter"
	"math"
	"reflect"
	"slices"
	"sync"
	"testing"

	"drumlin/api"
	"drumlin/disk"
)

// faces has the calls of the chapter: a change of one of their signatures does not compile.
type faces interface {
	Append(slot int, b []byte) api.Errno
	Sync(slot int) api.Errno
	Erase(slot int) api.Errno
	Read(slot, off, n int) ([]byte, api.Errno)
	Len(slot int) (int, api.Errno)
	Durable(slot int) (int, api.Errno)
	Room(slot int) (int, api.Errno)
	Crash(keep []int) api.Errno
	Slots() int
	Used() iter.Seq[int]
	Copy() *disk.Disk
}

var (
	_ func([]int) (*disk.Disk, api.Errno) = disk.New
	_ faces                               = (*disk.Disk)(nil)
)

const (
	maxSlots = 34
	maxSize  = 8192
)

// below and beyond have numbers that are no slot, no size, and no offset or number of bytes of any slot. Some of them would be one if they lost their high bits.
var (
	below  = []int{math.MinInt, math.MinInt + 1, math.MinInt + 5, -1 << 32, -(1 << 32) + 3, -65536, -8192, -256, -64, -34, -2, -1}
	beyond = []int{8193, 8194, 16384, 65535, 65536, 65537, 1<<32 - 1, 1 << 32, 1<<32 + 1, 1 << 40, math.MaxInt - 5, math.MaxInt - 1, math.MaxInt}
)

// cell is a byte that says itself whether it is durable.
type cell struct {
	b       byte
	durable bool
}

// both is a disk, and by the chapter's definitions what it should have: for each slot its size and its bytes.
type both struct {
	d     *disk.Disk
	sizes []int
	want  [][]cell
}

func made(t *testing.T, sizes ...int) *both {
	t.Helper()
	d, err := disk.New(sizes)
	if d == nil || err != api.OK {
		t.Fatalf("New(%v): %d", sizes, err)
	}
	return &both{d, slices.Clone(sizes), make([][]cell, len(sizes))}
}

// filled returns a disk whose slots have 9 bytes of space each; the slot i has i % 4 durable bytes, and i % 3 others.
func filled(t *testing.T, slots int) *both {
	t.Helper()
	b := made(t, slices.Repeat([]int{9}, slots)...)
	for i := range slots {
		b.append(t, i, run(10*i, i%4)...)
		b.sync(t, i)
		b.append(t, i, run(10*i+5, i%3)...)
	}
	return b
}

// run returns n bytes that follow each other, from the first one on; those that are near each other differ.
func run(first, n int) []byte {
	out := make([]byte, n)
	for i := range out {
		out[i] = byte((first + i) % 251)
	}
	return out
}

func (b *both) copied() *both {
	c := &both{b.d.Copy(), b.sizes, nil}
	for _, list := range b.want {
		c.want = append(c.want, slices.Clone(list))
	}
	return c
}

func (b *both) exists(slot int) bool {
	return slot >= 0 && slot < len(b.sizes)
}

func (b *both) bytes(slot int) []byte {
	var out []byte
	for _, c := range b.want[slot] {
		out = append(out, c.b)
	}
	return out
}

// durable counts the bytes of a slot that are durable.
func (b *both) durable(slot int) int {
	n := 0
	for _, c := range b.want[slot] {
		if c.durable {
			n++
		}
	}
	return n
}

func (b *both) used() []int {
	var out []int
	for i, list := range b.want {
		if len(list) != 0 {
			out = append(out, i)
		}
	}
	return out
}

func (b *both) append(t *testing.T, slot int, list ...byte) {
	t.Helper()
	want := api.OK
	if !b.exists(slot) {
		want = api.ErrRange
	} else if len(b.want[slot])+len(list) > b.sizes[slot] {
		want = api.ErrFull
	}
	if err := b.d.Append(slot, list); err != want {
		t.Fatalf("Append(%d) of %d bytes: %d instead of %d", slot, len(list), err, want)
	}
	if want != api.OK {
		return
	}
	for _, x := range list {
		b.want[slot] = append(b.want[slot], cell{x, false})
	}
}

func (b *both) sync(t *testing.T, slot int) {
	t.Helper()
	if err := b.d.Sync(slot); (err == api.OK) != b.exists(slot) || err != api.OK && err != api.ErrRange {
		t.Fatalf("Sync(%d): %d", slot, err)
	}
	if b.exists(slot) {
		for i := range b.want[slot] {
			b.want[slot][i].durable = true
		}
	}
}

func (b *both) erase(t *testing.T, slot int) {
	t.Helper()
	if err := b.d.Erase(slot); (err == api.OK) != b.exists(slot) || err != api.OK && err != api.ErrRange {
		t.Fatalf("Erase(%d): %d", slot, err)
	}
	if b.exists(slot) {
		b.want[slot] = nil
	}
}

func (b *both) crash(t *testing.T, keep ...int) {
	t.Helper()
	want := api.OK
	if len(keep) < 1 || len(keep) > maxSlots || slices.ContainsFunc(keep, func(n int) bool { return n < 0 }) {
		want = api.ErrArg
	}
	if err := b.d.Crash(keep); err != want {
		t.Fatalf("Crash(%v): %d instead of %d", keep, err, want)
	}
	if want != api.OK {
		return
	}
	for i, list := range b.want {
		b.want[i] = lost(list, keep[i%len(keep)])
	}
}

// lost returns what a crash leaves of the bytes of a slot.
func lost(list []cell, keep int) []cell {
	var kept []cell
	for _, c := range list {
		if !c.durable && keep == 0 {
			break
		}
		if !c.durable {
			keep--
		}
		kept = append(kept, cell{c.b, true})
	}
	return kept
}

// check asks all questions, of all slots and of some that do not exist.
func (b *both) check(t *testing.T) {
	t.Helper()
	b.checkWhole(t)
	for _, i := range slices.Concat(below, beyond, []int{len(b.sizes), len(b.sizes) + 1}) {
		b.checkNoSlot(t, i)
	}
	for i, list := range b.want {
		n := len(list)
		places := []int{-2, -1, 0, 1, n / 3, b.durable(i), n - 1, n, n + 1, b.sizes[i], b.sizes[i] + 1}
		for _, off := range places {
			for _, k := range places {
				b.checkRead(t, i, off, k)
				b.checkRead(t, i, off, k-off)
			}
		}
	}
	// P10.9: the questions have not changed the disk.
	b.checkWhole(t)
}

// checkWhole asks for the numbers and for the bytes of all slots.
func (b *both) checkWhole(t *testing.T) {
	t.Helper()
	if b.d.Slots() != len(b.sizes) {
		t.Fatalf("Slots: %d instead of %d", b.d.Slots(), len(b.sizes))
	}
	if got := slots(b.d.Used()); !slices.Equal(got, b.used()) {
		t.Fatalf("Used: %v instead of %v", got, b.used())
	}
	for i, list := range b.want {
		expect(t, "Len", i, b.d.Len, len(list))
		expect(t, "Durable", i, b.d.Durable, b.durable(i))
		expect(t, "Room", i, b.d.Room, b.sizes[i]-len(list))
		if got, err := b.d.Read(i, 0, len(list)); err != api.OK || !bytes.Equal(got, b.bytes(i)) {
			t.Fatalf("Read(%d, 0, %d): %v, %d instead of %v", i, len(list), got, err, b.bytes(i))
		}
	}
}

func expect(t *testing.T, call string, slot int, ask func(int) (int, api.Errno), want int) {
	t.Helper()
	if n, err := ask(slot); n != want || err != api.OK {
		t.Fatalf("%s(%d): %d, %d instead of %d", call, slot, n, err, want)
	}
}

// checkNoSlot asks for a slot that does not exist.
func (b *both) checkNoSlot(t *testing.T, slot int) {
	t.Helper()
	for call, ask := range map[string]func(int) (int, api.Errno){"Len": b.d.Len, "Durable": b.d.Durable, "Room": b.d.Room} {
		if n, err := ask(slot); n != 0 || err != api.ErrRange {
			t.Fatalf("%s(%d): %d, %d", call, slot, n, err)
		}
	}
	for _, at := range [][2]int{{0, 0}, {0, 1}, {-1, 0}, {slot, slot}} {
		if got, err := b.d.Read(slot, at[0], at[1]); len(got) != 0 || err != api.ErrRange {
			t.Fatalf("Read(%d, %d, %d): %v, %d", slot, at[0], at[1], got, err)
		}
	}
}

func (b *both) checkRead(t *testing.T, slot, off, n int) {
	t.Helper()
	// A float holds the sum of all numbers there are; that it is not exact for great ones does not matter here.
	if !b.exists(slot) || off < 0 || n < 0 || float64(off)+float64(n) > float64(len(b.want[slot])) {
		if got, err := b.d.Read(slot, off, n); len(got) != 0 || err != api.ErrRange {
			t.Fatalf("Read(%d, %d, %d): %v, %d", slot, off, n, got, err)
		}
		return
	}
	want := b.bytes(slot)[off : off+n]
	if got, err := b.d.Read(slot, off, n); err != api.OK || !bytes.Equal(got, want) {
		t.Fatalf("Read(%d, %d, %d): %v, %d instead of %v", slot, off, n, got, err, want)
	}
}

func slots(seq iter.Seq[int]) []int {
	var out []int
	for i := range seq {
		out = append(out, i)
	}
	return out
}

// first ends the loop with the n-th slot.
func first(seq iter.Seq[int], n int) []int {
	var out []int
	if n == 0 {
		return out
	}
	for i := range seq {
		out = append(out, i)
		if len(out) == n {
			break
		}
	}
	return out
}

// whole returns all bytes of a slot.
func whole(d *disk.Disk, slot int) []byte {
	n, _ := d.Len(slot)
	got, _ := d.Read(slot, 0, n)
	return got
}

// source makes numbers that look random, the same ones in each run.
type source uint64

func (s *source) below(n int) int {
	*s = *s*6364136223846793005 + 1442695040888963407
	return int(*s >> 33 % source(n))
}

// step does one call that is chosen by a number, at a slot that may not exist.
func (b *both) step(t *testing.T, kind, slot, n int) {
	t.Helper()
	switch kind {
	case 0:
		b.erase(t, slot)
	case 1, 2:
		b.sync(t, slot)
	case 3:
		b.crash(t, n-1, slot, n/2)
	default:
		b.append(t, slot, run(n*7+slot, n)...)
	}
}

// P10.1: all numbers of slots that there are, and those beyond.
func TestNumbersOfSlots(t *testing.T) {
	if maxSlots != api.MaxSlots+2 || maxSize != api.MaxSize {
		t.Fatal("the tests are for other limits")
	}
	for n := range 100 {
		for _, size := range []int{1, 7, 8192} {
			d, err := disk.New(slices.Repeat([]int{size}, n))
			if n >= 1 && n <= maxSlots {
				if d == nil || err != api.OK || d.Slots() != n || len(slots(d.Used())) != 0 {
					t.Errorf("New of %d sizes: %d", n, err)
				}
			} else if d != nil || err != api.ErrArg {
				t.Errorf("New of %d sizes: %v, %d", n, d, err)
			}
		}
	}
	for _, n := range []int{256, 257, 65536, 65537, 1<<16 + 34} {
		if d, err := disk.New(slices.Repeat([]int{1}, n)); d != nil || err != api.ErrArg {
			t.Errorf("New of %d sizes: %v, %d", n, d, err)
		}
	}
}

// R3, P10.1: no sizes are refused the same way whether the slice is nil or empty.
func TestNoSizes(t *testing.T) {
	for _, none := range [][]int{nil, {}, make([]int, 0, 5), []int{4, 8}[2:]} {
		if d, err := disk.New(none); d != nil || err != api.ErrArg {
			t.Errorf("New of none: %v, %d", d, err)
		}
	}
}

// P10.1: each slot has the size that was named for it; one that there is not is refused at whatever place.
func TestSizes(t *testing.T) {
	for size := 1; size <= maxSize; size++ {
		other := maxSize + 1 - size
		d, err := disk.New([]int{size, other})
		if d == nil || err != api.OK {
			t.Fatalf("New(%d, %d): %d", size, other, err)
		}
		expect(t, "Room", 0, d.Room, size)
		expect(t, "Room", 1, d.Room, other)
	}
	for _, wrong := range slices.Concat(below, beyond, []int{0}) {
		for _, n := range []int{1, 2, 3, 33, 34} {
			for i := range n {
				sizes := slices.Repeat([]int{8}, n)
				sizes[i] = wrong
				if d, err := disk.New(sizes); d != nil || err != api.ErrArg {
					t.Errorf("New(%v): %v, %d", sizes, d, err)
				}
			}
		}
	}
}

// P10.1: all slots of a new disk are empty, and each New returns another one.
func TestNewIsEmpty(t *testing.T) {
	for _, sizes := range [][]int{{1}, {8192}, {4, 8}, {64, 1, 64, 8192, 5}, slices.Repeat([]int{8192}, 34)} {
		b, other := made(t, sizes...), made(t, sizes...)
		b.check(t)
		for i, size := range sizes {
			b.append(t, i, run(i, size)...)
			b.sync(t, i)
		}
		b.checkWhole(t)
		other.check(t)
		made(t, sizes...).check(t)
	}
}

// P10.2: all lengths for all small slots: what fits is appended whole, what does not fit not at all.
func TestAppend(t *testing.T) {
	for size := 1; size <= 5; size++ {
		for durable := range size + 1 {
			for unsynced := range size - durable + 1 {
				for n := range size + 3 {
					b := made(t, 3, size, 8)
					b.append(t, 1, run(1, durable)...)
					b.sync(t, 1)
					b.append(t, 1, run(40, unsynced)...)
					b.append(t, 1, run(100, n)...)
					b.checkWhole(t)
					b.append(t, 1)
					b.append(t, 1, 200)
					b.check(t)
				}
			}
		}
	}
}

// P10.2: the slots of the greatest disk take all their bytes, at once or in parts, and none beyond.
func TestAppendAtLimit(t *testing.T) {
	b := made(t, slices.Repeat([]int{maxSize}, maxSlots)...)
	for i := range maxSlots {
		part := 300*i + 90
		for n := 0; n < maxSize; n += part {
			b.append(t, i, run(n+i, min(part, maxSize-n))...)
			b.append(t, i, run(3, maxSize-len(b.want[i])+1)...)
		}
	}
	b.checkWhole(t)
	for i := range maxSlots {
		for _, n := range []int{0, 1, maxSize, 65536} {
			b.append(t, i, make([]byte, n)...)
		}
	}
	b.checkWhole(t)
	b.crash(t, 0, 1, 8191, 8192, 8193)
	b.checkWhole(t)
}

// R3, P10.2: no bytes are appended the same way whether the slice is nil or empty; they also fit in a full slot, and the slot has no bytes then.
func TestAppendOfNone(t *testing.T) {
	b := made(t, 2, 2)
	b.append(t, 1, 5, 6)
	for _, none := range [][]byte{nil, {}, make([]byte, 0, 9), []byte("abc")[3:]} {
		for i := range 2 {
			if err := b.d.Append(i, none); err != api.OK {
				t.Errorf("Append(%d) of none: %d", i, err)
			}
		}
		if err := b.d.Append(2, none); err != api.ErrRange {
			t.Errorf("Append(2) of none: %d", err)
		}
		b.check(t)
	}
}

// P10.3: all bytes of a slot are durable behind Sync, those that come later are not; behind Erase there are none, and there is room again.
func TestSyncAndErase(t *testing.T) {
	for i := range 12 {
		b := filled(t, 12)
		b.sync(t, i)
		b.checkWhole(t)
		b.append(t, i, 77, 78)
		b.check(t)
		b.erase(t, i)
		b.checkWhole(t)
		b.erase(t, i)
		b.sync(t, i)
		b.check(t)
		b.append(t, i, run(50, 10)...)
		b.append(t, i, run(60, 9)...)
		b.checkWhole(t)
		b.crash(t, 2)
		b.check(t)
	}
}

// P10.2 to P10.4, R6: a slot that does not exist is ErrRange, ahead of all that is wrong with the other arguments.
func TestSlotsThatDoNotExist(t *testing.T) {
	for _, n := range []int{1, 2, 3, 33, 34} {
		b := filled(t, n)
		for _, i := range slices.Concat(below, beyond, []int{n, n + 1, n + 32, n + 34, 64, 256, 257}) {
			b.checkNoSlot(t, i)
			b.sync(t, i)
			b.erase(t, i)
			for _, k := range []int{0, 1, 9, 10, 8193} {
				b.append(t, i, make([]byte, k)...)
			}
		}
		b.check(t)
	}
}

// P10.4: all offsets and lengths in small slots, and numbers that do not fit.
func TestRead(t *testing.T) {
	b := filled(t, 12)
	for i, list := range b.want {
		n := len(list)
		for off := -3; off < 12; off++ {
			for k := -3; k < 12; k++ {
				b.checkRead(t, i, off, k)
			}
		}
		for _, x := range slices.Concat(below, beyond) {
			for _, y := range slices.Concat(below, beyond, []int{-n, 0, 1, n - 1, n, n + 1}) {
				b.checkRead(t, i, x, y)
				b.checkRead(t, i, y, x)
			}
		}
	}
	b.check(t)
}

// P10.4, R5: offsets and lengths whose sum does not fit in an int, and would be a place of the slot then.
func TestReadOfLargeSums(t *testing.T) {
	b := made(t, 8, 8192)
	b.append(t, 0, run(1, 5)...)
	b.append(t, 1, run(9, 8192)...)
	for i := range 2 {
		for x := range 20 {
			for _, k := range []int{0, 1, 3, 5, 8192} {
				b.checkRead(t, i, math.MaxInt-x, x+1+k)
				b.checkRead(t, i, x+1+k, math.MaxInt-x)
				b.checkRead(t, i, math.MinInt+x, math.MinInt+k-x)
				b.checkRead(t, i, math.MinInt+x, math.MaxInt-x+k)
			}
		}
	}
	b.check(t)
}

// P10.5: one slot, with all numbers of bytes to keep, as the only number and as one of several.
func TestCrashOfOneSlot(t *testing.T) {
	for durable := range 5 {
		for unsynced := range 5 {
			for _, keep := range slices.Concat(below, beyond, []int{0, 1, 2, 3, 4, 5, 8, 9}) {
				for _, list := range [][]int{{keep}, {keep, 1}, {keep, 0, 7}} {
					b := made(t, 9)
					b.append(t, 0, run(1, durable)...)
					b.sync(t, 0)
					b.append(t, 0, run(40, unsynced)...)
					b.crash(t, list...)
					b.check(t)
					b.append(t, 0, 90)
					b.crash(t, 0)
					b.checkWhole(t)
				}
			}
		}
	}
}

// P10.5: all numbers of slots with all numbers of numbers: the slot i keeps as many bytes as the number i modulo their number says.
func TestCrashModulo(t *testing.T) {
	for n := 1; n <= maxSlots; n++ {
		b := made(t, slices.Repeat([]int{40}, n)...)
		for i := range n {
			b.append(t, i, run(i, 3)...)
			b.sync(t, i)
			b.append(t, i, run(i+3, 36)...)
		}
		for k := range maxSlots + 4 {
			keep := make([]int, k)
			for i := range keep {
				keep[i] = (i*5 + k) % 37
			}
			c := b.copied()
			c.crash(t, keep...)
			c.checkWhole(t)
		}
		b.checkWhole(t)
	}
}

// P10.5: a number below 0 is refused at whatever place, also where no slot has its index.
func TestWrongCrash(t *testing.T) {
	for _, n := range []int{1, 2, 5, 34} {
		b := filled(t, n)
		for k := 1; k <= maxSlots; k++ {
			for i := range k {
				keep := make([]int, k)
				keep[i] = below[(i+k)%len(below)]
				b.crash(t, keep...)
			}
		}
		for _, k := range []int{0, 35, 36, 64, 68, 256, 257, 65537} {
			b.crash(t, make([]int, k)...)
			b.crash(t, slices.Repeat([]int{-1}, k)...)
		}
		b.check(t)
	}
}

// R3, P10.5: no numbers are refused the same way whether the slice is nil or empty.
func TestCrashOfNoNumbers(t *testing.T) {
	b := filled(t, 5)
	for _, none := range [][]int{nil, {}, make([]int, 0, 5), []int{4, 8}[2:]} {
		if err := b.d.Crash(none); err != api.ErrArg {
			t.Errorf("Crash of no numbers: %d", err)
		}
		b.check(t)
	}
}

// P10.6: all sets of slots that have bytes, durable or not.
func TestUsed(t *testing.T) {
	for mask := range 1 << 8 {
		b := made(t, slices.Repeat([]int{2}, 8)...)
		for i := range 8 {
			if mask>>i&1 == 1 {
				b.append(t, 7-i, 5)
			} else {
				b.append(t, 7-i)
			}
			if mask>>i&2 == 2 {
				b.sync(t, 7-i)
			}
		}
		b.checkWhole(t)
		b.crash(t, 1, 0, 0)
		b.checkWhole(t)
		b.erase(t, mask%8)
		b.checkWhole(t)
	}
	b := made(t, slices.Repeat([]int{2}, maxSlots)...)
	for i := range maxSlots {
		b.append(t, i*11%maxSlots, byte(i))
		b.checkWhole(t)
	}
}

// P10.6, R7: a loop that ends early has seen the first slots; each loop begins anew.
func TestLoopsThatEndEarly(t *testing.T) {
	for _, n := range []int{1, 2, 5, 34} {
		b := filled(t, n)
		list := b.used()
		used := b.d.Used()
		for stop := range len(list) + 2 {
			if got := first(used, stop); !slices.Equal(got, list[:min(stop, len(list))]) {
				t.Errorf("the first %d of %v: %v", stop, list, got)
			}
			if got := slots(used); !slices.Equal(got, list) {
				t.Errorf("Used again: %v instead of %v", got, list)
			}
		}
		b.check(t)
	}
}

// P10.6, R7: an iterator yields what the disk has when the loop begins, not what it had when the iterator was made.
func TestLoopsBehindChanges(t *testing.T) {
	b := made(t, slices.Repeat([]int{5}, 10)...)
	used := b.d.Used()
	expect := func() {
		t.Helper()
		if got := slots(used); !slices.Equal(got, b.used()) {
			t.Errorf("Used: %v instead of %v", got, b.used())
		}
	}
	expect()
	for i := range 10 {
		b.append(t, i*7%10, byte(i))
		expect()
	}
	b.erase(t, 0)
	expect()
	b.sync(t, 5)
	expect()
	b.crash(t, 0, 1)
	expect()
	b.append(t, 2, 1)
	expect()
}

// P10.6, P10.9: loops within loops, and questions and copies within them.
func TestLoopsWithinLoops(t *testing.T) {
	b := filled(t, 14)
	list := b.used()
	used := b.d.Used()
	var outer []int
	for i := range used {
		outer = append(outer, i)
		b.checkWhole(t)
		c := b.copied()
		c.erase(t, i)
		c.crash(t, 0)
		c.append(t, 0, 1)
		c.checkWhole(t)
		if got := slots(used); !slices.Equal(got, list) {
			t.Errorf("Used within a loop: %v", got)
		}
		if got := first(used, 2); !slices.Equal(got, list[:2]) {
			t.Errorf("the first two within a loop: %v", got)
		}
	}
	if !slices.Equal(outer, list) {
		t.Errorf("Used around other loops: %v", outer)
	}
}

// P1: the chapter promises nothing of a loop during which the disk is changed, but that it ends and does not panic.
func TestChangesWithinLoops(t *testing.T) {
	changes := map[string]func(d *disk.Disk, i int){
		"Append": func(d *disk.Disk, i int) { d.Append((i+1)%34, []byte{1}) },
		"Erase":  func(d *disk.Disk, i int) { d.Erase(i); d.Erase((i + 1) % 34) },
		"Crash":  func(d *disk.Disk, _ int) { d.Crash([]int{0}) },
		"all":    func(d *disk.Disk, _ int) { *d = disk.Disk{} },
	}
	for name, change := range changes {
		b := filled(t, 34)
		n := 0
		for i := range b.d.Used() {
			change(b.d, i)
			n++
		}
		if n > maxSlots {
			t.Errorf("%s within a loop: %d slots", name, n)
		}
	}
}

// P10.7: all calls with a slot leave all other slots as they are; a crash reaches all of them.
func TestSlotsStayApart(t *testing.T) {
	calls := []func(b *both, i int){
		func(b *both, i int) { b.append(t, i, 200, 201) },
		func(b *both, i int) { b.append(t, i, make([]byte, 10)...) },
		func(b *both, i int) { b.sync(t, i) },
		func(b *both, i int) { b.erase(t, i) },
	}
	for _, n := range []int{1, 2, 12, 34} {
		for i := range n {
			for _, call := range calls {
				b := filled(t, n)
				call(b, i)
				b.checkWhole(t)
				b.append(t, (i+1)%n, 210)
				b.crash(t, 1)
				b.checkWhole(t)
			}
		}
	}
}

// P10.8: the bytes of a slot are those that were appended since it was erased last, without those that were lost; what was durable once stays until then.
func TestDurableBytesStay(t *testing.T) {
	s := source(5)
	b := made(t, 200, 300, 400)
	durable := make([][]byte, 3)
	for range 600 {
		i, n := s.below(3), s.below(20)
		switch s.below(6) {
		case 0:
			if len(b.want[i]) > b.sizes[i]-20 {
				b.erase(t, i)
				durable[i] = nil
			}
		case 1:
			b.sync(t, i)
			durable[i] = whole(b.d, i)
		case 2:
			b.crash(t, n%4, n/4)
			for k := range 3 {
				durable[k] = append(durable[k], whole(b.d, k)[len(durable[k]):]...)
			}
		default:
			b.append(t, i, run(n+i, n)...)
		}
		for k, list := range durable {
			got, err := b.d.Read(k, 0, len(list))
			if n, _ := b.d.Durable(k); err != api.OK || !bytes.Equal(got, list) || n != len(list) {
				t.Fatalf("slot %d: %v, %d instead of %v; %d are durable", k, got, err, list, n)
			}
		}
	}
	b.check(t)
}

// P10.1, R8: what is done to a copy is not seen in the others.
func TestCopy(t *testing.T) {
	for _, n := range []int{1, 2, 12, 34} {
		b := filled(t, n)
		// A crash leaves memory behind the bytes, in which two disks must not append.
		b.crash(t, 1, 0)
		grown, erased, synced, crashed := b.copied(), b.copied(), b.copied(), b.copied()
		for i := range n {
			grown.append(t, i, 100, 101)
			b.append(t, i, 110)
			erased.erase(t, i)
			erased.append(t, i, 120, 121)
			synced.append(t, i, 130)
			synced.sync(t, i)
			crashed.append(t, i, 140, 141)
		}
		crashed.crash(t, 1, 0)
		again := grown.copied()
		grown.erase(t, 0)
		again.append(t, n-1, 150)
		for _, x := range []*both{b, grown, erased, synced, crashed, again} {
			x.check(t)
		}
	}
}

// P10.1 to P10.6: all sequences of some calls.
func TestAllSequences(t *testing.T) {
	calls := []func(b *both){
		func(b *both) { b.append(t, 0, run(len(b.want[0])*3+5, 1)...) },
		func(b *both) { b.append(t, 1, run(len(b.want[1])*5+60, 2)...) },
		func(b *both) { b.sync(t, 0) },
		func(b *both) { b.sync(t, 1) },
		func(b *both) { b.erase(t, 1) },
		func(b *both) { b.crash(t, 0, 1) },
	}
	var grow func(b *both, left int)
	grow = func(b *both, left int) {
		b.checkWhole(t)
		if left == 0 {
			return
		}
		for _, call := range calls {
			c := b.copied()
			call(c)
			grow(c, left-1)
		}
		// What was done to the copies is not seen here.
		b.checkWhole(t)
	}
	grow(made(t, 2, 5), 6)
	grow(filled(t, 3), 4)
}

// P10.1 to P10.6: long sequences of all calls, on several disks of the same sizes.
func TestLongSequences(t *testing.T) {
	s := source(1)
	for _, sizes := range [][]int{{1}, {9, 2}, {40, 64, 7, 100}, slices.Repeat([]int{64, 30}, 17), {8192, 1, 8192}} {
		list := []*both{made(t, sizes...), made(t, sizes...), made(t, sizes...)}
		for range 400 {
			k, kind := s.below(len(list)), s.below(12)
			if kind == 11 {
				list[k] = list[s.below(len(list))].copied()
			} else {
				slot := s.below(len(sizes) + 1)
				list[k].step(t, kind, slot, s.below(slices.Max(sizes)/3+3))
			}
			list[k].checkWhole(t)
		}
		for _, b := range list {
			b.check(t)
		}
	}
}

// P10.9: calls that are refused, and questions, change nothing.
func TestQuestionsChangeNothing(t *testing.T) {
	questions := map[string]func(d *disk.Disk, i int){
		"Append that does not fit":  func(d *disk.Disk, i int) { d.Append(2, make([]byte, 9+i)); d.Append(0, make([]byte, 10)) },
		"Append where no slot is":   func(d *disk.Disk, i int) { d.Append(below[i], []byte{1}); d.Append(beyond[i], []byte{1}) },
		"Sync where no slot is":     func(d *disk.Disk, i int) { d.Sync(below[i]); d.Sync(beyond[i]); d.Sync(6) },
		"Erase where no slot is":    func(d *disk.Disk, i int) { d.Erase(below[i]); d.Erase(beyond[i]); d.Erase(6) },
		"Crash of wrong numbers":    func(d *disk.Disk, i int) { d.Crash([]int{0, below[i]}); d.Crash([]int{0, 0, 0, 0, 0, 0, 0, below[i]}) },
		"Crash of too many numbers": func(d *disk.Disk, i int) { d.Crash(make([]int, 35+i)); d.Crash(nil) },
		"Read":                      func(d *disk.Disk, i int) { d.Read(i%6, 0, 1); d.Read(2, 0, 4); d.Read(5, 1, 2) },
		"Read of wrong places":      func(d *disk.Disk, i int) { d.Read(2, below[i], 1); d.Read(2, 1, beyond[i]); d.Read(beyond[i], 0, 1) },
		"Len, Durable, Room":        func(d *disk.Disk, i int) { d.Len(i % 6); d.Durable(i % 6); d.Room(i % 6); d.Len(below[i]) },
		"Slots and Used":            func(d *disk.Disk, i int) { d.Slots(); slots(d.Used()); first(d.Used(), i) },
		"Copy":                      func(d *disk.Disk, _ int) { d.Copy() },
		"Append to a copy":          func(d *disk.Disk, i int) { d.Copy().Append(i%6, []byte{9}) },
		"Sync of a copy":            func(d *disk.Disk, i int) { d.Copy().Sync(i % 6) },
		"Erase of a copy":           func(d *disk.Disk, i int) { d.Copy().Erase(i % 6) },
		"Crash of a copy":           func(d *disk.Disk, i int) { c := d.Copy(); c.Crash([]int{0}); c.Append(i%6, []byte{9, 9}) },
		"New":                       func(_ *disk.Disk, _ int) { d, _ := disk.New([]int{9, 9, 9}); d.Append(2, []byte{1}) },
	}
	for name, ask := range questions {
		b := filled(t, 6)
		for i := range below {
			ask(b.d, i)
			b.checkWhole(t)
		}
		b.check(t)
		if t.Failed() {
			t.Fatal(name)
		}
	}
}

// R4: New and Crash do not change their numbers, read none behind their length, and keep no reference to them.
func TestMemoryOfNumbers(t *testing.T) {
	sizes := []int{-5, 4, 8, 6, -7, 0}
	b := made(t, sizes[1:4]...)
	for i := range sizes {
		sizes[i] = 1
	}
	b.check(t)
	for i := range 3 {
		b.append(t, i, run(i, 4)...)
	}
	keep := []int{-1, 2, 3, -5, -6}
	b.crash(t, keep[1:3]...)
	b.check(t)
	if !slices.Equal(keep, []int{-1, 2, 3, -5, -6}) || !slices.Equal(sizes, []int{1, 1, 1, 1, 1, 1}) {
		t.Errorf("Crash has changed the memory of its argument: %v, or of another: %v", keep, sizes)
	}
	for i := range keep {
		keep[i] = 0
	}
	b.append(t, 1, 9)
	b.check(t)
}

// R4: Append does not change its bytes, takes none from behind their length, and keeps no reference to them; two slots do not share them.
func TestMemoryOfBytes(t *testing.T) {
	for _, size := range []int{4, 5, 6, 8, 100} {
		memory := []byte{1, 2, 3, 4, 5, 6, 7, 8}
		part := memory[2:6]
		b := made(t, size, size)
		b.append(t, 0, part...)
		b.append(t, 1, part...)
		b.check(t)
		if !bytes.Equal(memory, []byte{1, 2, 3, 4, 5, 6, 7, 8}) {
			t.Errorf("Append has changed the memory of its argument: %v", memory)
		}
		for i := range memory {
			memory[i] = 99
		}
		b.append(t, 0, 50)
		b.crash(t, 0, 2)
		b.check(t)
		b.append(t, 0, 51)
		if !bytes.Equal(memory, bytes.Repeat([]byte{99}, 8)) {
			t.Errorf("later calls have changed the memory of an argument: %v", memory)
		}
		b.check(t)
	}
}

// spoil writes over all memory that a result gives access to, also behind its length.
func spoil(b []byte) {
	whole := b[:cap(b)]
	for i := range whole {
		whole[i] = 0xEE
	}
}

// R4: what Read returns is new memory: what is done to it is not seen in the disk, nor in other results.
func TestMemoryOfResults(t *testing.T) {
	b := filled(t, 12)
	for i, list := range b.want {
		for off := range len(list) + 1 {
			for k := range len(list) - off + 1 {
				got, _ := b.d.Read(i, off, k)
				other, _ := b.d.Read(i, off, k)
				kept := slices.Clone(other)
				spoil(got)
				_ = append(got, 0xEE)
				b.checkWhole(t)
				if !bytes.Equal(other, kept) {
					t.Fatalf("two results of Read(%d, %d, %d) share memory", i, off, k)
				}
			}
		}
	}
	b.check(t)
}

// R4: what Read has returned stays as it is, whatever is done to the disk later.
func TestResultsStay(t *testing.T) {
	changes := map[string]func(d *disk.Disk){
		"Append": func(d *disk.Disk) { d.Append(5, []byte{70, 71}) },
		"Crash":  func(d *disk.Disk) { d.Crash([]int{0}); d.Append(5, []byte{70, 71, 72}) },
		"Erase":  func(d *disk.Disk) { d.Erase(5); d.Append(5, []byte{70, 71, 72, 73, 74, 75}) },
	}
	for name, change := range changes {
		b := filled(t, 6)
		got, want, c := whole(b.d, 5), b.bytes(5), b.copied()
		change(b.d)
		if !bytes.Equal(got, want) {
			t.Errorf("%s has changed what was read: %v", name, got)
		}
		c.check(t)
	}
}

// invalid returns the disks that were not returned by New or Copy.
func invalid() map[string]*disk.Disk {
	build := func() *disk.Disk {
		d, _ := disk.New([]int{5, 8})
		d.Append(0, []byte{1, 2})
		d.Sync(0)
		d.Append(1, []byte{3})
		return d
	}
	d := build()
	assigned, zeroed, overwritten := *d, build(), build()
	*zeroed = disk.Disk{}
	*overwritten = *d
	return map[string]*disk.Disk{"nil": nil, "a zero value": {}, "a copy by assignment": &assigned, "a disk without its contents": zeroed, "an overwritten disk": overwritten}
}

// R2, P10.1 to P10.6: ErrNil and zero values with disks that are not valid, also where another error would apply.
func TestInvalidDisks(t *testing.T) {
	for name, d := range invalid() {
		for _, i := range slices.Concat(below, beyond, []int{0, 1, 2, 3}) {
			for call, ask := range map[string]func(int) (int, api.Errno){"Len": d.Len, "Durable": d.Durable, "Room": d.Room} {
				if n, err := ask(i); n != 0 || err != api.ErrNil {
					t.Errorf("%s: %s(%d): %d, %d", name, call, i, n, err)
				}
			}
			for _, n := range []int{i, 0, 1, -1} {
				if got, err := d.Read(i, 0, n); len(got) != 0 || err != api.ErrNil {
					t.Errorf("%s: Read(%d, 0, %d): %v, %d", name, i, n, got, err)
				}
			}
			if d.Append(i, nil) != api.ErrNil || d.Append(i, make([]byte, 9)) != api.ErrNil || d.Sync(i) != api.ErrNil || d.Erase(i) != api.ErrNil {
				t.Errorf("%s: Append, Sync or Erase(%d) is not ErrNil", name, i)
			}
		}
		for _, keep := range [][]int{nil, {}, {0}, {-1}, {3, 4, 5}, make([]int, 34), make([]int, 35)} {
			if err := d.Crash(keep); err != api.ErrNil {
				t.Errorf("%s: Crash(%v): %d", name, keep, err)
			}
		}
		if d.Slots() != 0 || len(slots(d.Used())) != 0 || d.Copy() != nil {
			t.Errorf("%s: Slots %d, Used %v, Copy %v", name, d.Slots(), slots(d.Used()), d.Copy())
		}
	}
}

// R2: no call changes a disk that is not valid, nor the one from which it was assigned.
func TestInvalidDisksStay(t *testing.T) {
	for name, d := range invalid() {
		if d == nil {
			continue
		}
		for call, do := range map[string]func(){
			"Append": func() { d.Append(0, []byte{4}) },
			"Sync":   func() { d.Sync(1) },
			"Crash":  func() { d.Crash([]int{0}) },
			"Erase":  func() { d.Erase(0) },
			"Read":   func() { d.Read(0, 0, 1) },
			"Used":   func() { slots(d.Used()) },
			"Copy":   func() { d.Copy() },
		} {
			before := *d
			do()
			if !reflect.DeepEqual(*d, before) {
				t.Errorf("%s: %s has changed it from %v to %v", name, call, before, *d)
			}
		}
	}
}

// R2: what is done to a copy by assignment is not seen in the disk.
func TestCopyByAssignmentChangesNothing(t *testing.T) {
	b := filled(t, 6)
	assigned := *b.d
	for i := range 6 {
		assigned.Append(i, []byte{50})
		assigned.Crash([]int{0})
		assigned.Sync(i)
		b.check(t)
		assigned.Erase(i)
		assigned.Append(i, []byte{53})
		b.append(t, i, 54)
		b.check(t)
	}
}

// R8: disks that have come to the same bytes in different ways behave alike, step by step.
func TestPastDoesNotMatter(t *testing.T) {
	sizes := []int{30, 20, 10}
	straight, crashed, erased := made(t, sizes...), made(t, sizes...), made(t, sizes...)
	for i, size := range sizes {
		erased.append(t, i, run(90, size)...)
		erased.sync(t, i)
		erased.erase(t, i)
		crashed.append(t, 2-i, 5, 6, 7, 98, 99)
		straight.append(t, i, 5, 6, 7)
		straight.sync(t, i)
		erased.append(t, i, 5, 6, 7)
	}
	crashed.crash(t, 3)
	erased.crash(t, 9, 8)
	list := []*both{straight, crashed, erased, straight.copied(), crashed.copied(), erased.copied()}
	s := source(9)
	for range 500 {
		kind, slot, n := s.below(12), s.below(4), s.below(12)
		for _, b := range list {
			b.step(t, kind, slot, n)
			b.checkWhole(t)
			if !reflect.DeepEqual(b.want, list[0].want) {
				t.Fatal("the disks differ")
			}
		}
	}
}

// P10.9: a disk can be asked from several sides at the same time, since questions change nothing.
func TestQuestionsAtTheSameTime(t *testing.T) {
	b := filled(t, 12)
	want, used := b.bytes(5), b.used()
	var group sync.WaitGroup
	for i := range 4 {
		group.Go(func() {
			for range 50 {
				c := b.d.Copy()
				c.Append(5, []byte{byte(i)})
				c.Crash([]int{i})
				c.Erase(i)
				spoil(whole(c, 5))
				if got := whole(b.d, 5); !bytes.Equal(got, want) || !slices.Equal(slots(b.d.Used()), used) || b.d.Slots() != 12 {
					t.Errorf("Read: %v, Used %v", got, slots(b.d.Used()))
				}
			}
		})
	}
	group.Wait()
	b.check(t)
}

// sample is the disk of the chapter's examples.
type sample struct {
	t *testing.T
	d *disk.Disk
}

func (s *sample) expect(call string, err, want api.Errno) {
	s.t.Helper()
	if err != want {
		s.t.Errorf("%s: %d instead of %d", call, err, want)
	}
}

func (s *sample) numbers(slot, n, durable, room int) {
	s.t.Helper()
	expect(s.t, "Len", slot, s.d.Len, n)
	expect(s.t, "Durable", slot, s.d.Durable, durable)
	expect(s.t, "Room", slot, s.d.Room, room)
}

func (s *sample) read(slot, off, n int, want string, err api.Errno) {
	s.t.Helper()
	if got, e := s.d.Read(slot, off, n); e != err || string(got) != want {
		s.t.Errorf("Read(%d, %d, %d): %q, %d instead of %q, %d", slot, off, n, got, e, want, err)
	}
}

// The examples of the chapter.
func TestExamples(t *testing.T) {
	d, err := disk.New([]int{4, 8})
	s := &sample{t, d}
	s.expect("New", err, api.OK)
	s.expect("Append(0, abc)", d.Append(0, []byte("abc")), api.OK)
	s.expect("Append(0, de)", d.Append(0, []byte("de")), api.ErrFull)
	s.expect("Append(1, xyz)", d.Append(1, []byte("xyz")), api.OK)
	s.expect("Append(2, no bytes)", d.Append(2, nil), api.ErrRange)
	s.expect("Sync(0)", d.Sync(0), api.OK)
	s.expect("Append(0, d)", d.Append(0, []byte("d")), api.OK)
	s.numbers(0, 4, 3, 0)
	s.read(0, 1, 3, "bcd", api.OK)
	s.read(0, 4, 0, "", api.OK)
	s.read(0, 3, 2, "", api.ErrRange)
	s.read(1, -1, 1, "", api.ErrRange)
	s.expect("Crash of no numbers", d.Crash(nil), api.ErrArg)
	s.expect("Crash of 35 numbers", d.Crash(make([]int, 35)), api.ErrArg)
	s.expect("Crash(0, -1)", d.Crash([]int{0, -1}), api.ErrArg)
	s.expect("Crash(0, 2, 5)", d.Crash([]int{0, 2, 5}), api.OK)
	s.numbers(0, 3, 3, 1)
	s.read(1, 0, 2, "xy", api.OK)
	s.numbers(1, 2, 2, 6)
	s.expect("Erase(0)", d.Erase(0), api.OK)
	if got := slots(d.Used()); !slices.Equal(got, []int{1}) || d.Slots() != 2 {
		t.Errorf("Used %v, Slots %d", got, d.Slots())
	}
}

// P1: no call panics or runs on, and the disk stays what the chapter says, whatever the calls and numbers are.
func FuzzNoPanic(f *testing.F) {
	f.Add([]byte{}, 0, 0, 0, 0)
	f.Add([]byte{0, 8, 16, 5, 88, 3, 24, 4, 6, 7, 0}, 8, -1, 3, 34)
	f.Add([]byte{255, 5, 250, 252, 135, 3, 11, 5, 7}, 8192, math.MaxInt, math.MaxInt, 2)
	f.Add([]byte{200, 100, 50, 25, 12, 6, 3, 1, 5, 5}, 33, math.MinInt, math.MinInt, 35)
	f.Add([]byte{64, 4, 72, 3, 80, 7, 65, 5, 7}, 40, math.MaxInt, 2, 5)
	f.Fuzz(func(t *testing.T, calls []byte, size, i, j, n int) {
		sizes := slices.Repeat([]int{size}, min(max(n, 0), 100))
		d, err := disk.New(sizes)
		if (err == api.OK) != (size >= 1 && size <= maxSize && n >= 1 && n <= maxSlots) || (d == nil) == (err == api.OK) {
			t.Fatalf("New of %d times %d: %d", n, size, err)
		}
		if err != api.OK {
			got, err := d.Read(i, j, n)
			if d.Append(i, calls) != api.ErrNil || d.Crash(sizes) != api.ErrNil || len(got) != 0 || err != api.ErrNil || d.Slots() != 0 || d.Copy() != nil {
				t.Error("a nil disk is a disk")
			}
			return
		}
		b := &both{d, sizes, make([][]cell, n)}
		for k, c := range calls {
			slot := int(c/8) % (n + 1)
			switch c % 8 {
			case 3:
				b.crash(t, k, int(c))
			case 4:
				b.append(t, slot, calls[k:]...)
			case 5:
				b.sync(t, slot)
			case 6:
				b = b.copied()
			case 7:
				b.erase(t, slot)
			default:
				b.append(t, slot, run(k, int(c)%50)...)
			}
		}
		b.checkWhole(t)
		b.checkRead(t, i, j, 1)
		b.checkRead(t, 0, i, j)
		b.crash(t, i, j)
		b.checkRead(t, n-1, j, i)
		b.checkWhole(t)
	})
}
