package crc_test

import (
	"bytes"
	"hash/crc32"
	"math"
	"sync"
	"testing"
	"time"

	"drumlin/api"
	"drumlin/crc"
)

// The signatures of the chapter: a change of one of them does not compile.
var (
	_ func([]byte) uint32                           = crc.Sum
	_ func(uint32, []byte) uint32                   = crc.Update
	_ func(uint32, uint32, int) (uint32, api.Errno) = crc.Combine
	_ func([]byte, uint32) bool                     = crc.Valid
	_ func() [256]uint32                            = crc.Table
)

// feed is the chapter's definition, step by step.
func feed(x uint32, b ...byte) uint32 {
	for _, c := range b {
		x ^= uint32(c)
		for range 8 {
			if x%2 == 1 {
				x = x/2 ^ 0xEDB88320
			} else {
				x /= 2
			}
		}
	}
	return x
}

func checksum(b []byte) uint32 {
	return feed(0xFFFFFFFF, b...) ^ 0xFFFFFFFF
}

// sample returns n bytes that look random, others for each seed, and the same each time.
func sample(n int, seed uint32) []byte {
	out := make([]byte, n)
	x := seed*2654435761 + 1
	for i := range out {
		x = 1664525*x + 1013904223
		out[i] = byte(x >> 24)
	}
	return out
}

// numbers has all single bits, those next to them, and some others.
func numbers() []uint32 {
	out := []uint32{0, math.MaxUint32, 0xEDB88320, 0xCBF43926, 0x01020304, 0x80000001, 0xDEADBEEF}
	for i := range 32 {
		p := uint32(1) << i
		out = append(out, p, p-1, ^p, p*2654435761)
	}
	return out
}

// texts has byte strings of many lengths: of nothing, of equal bytes, and of different ones.
func texts() [][]byte {
	out := [][]byte{nil, {}, []byte("123456789"), bytes.Repeat([]byte{0xFF}, 4)}
	for n := range 70 {
		out = append(out, sample(n, uint32(n)), make([]byte, n), bytes.Repeat([]byte{0xFF}, n))
	}
	for _, n := range []int{127, 128, 255, 256, 257, 511, 512, 1000, 8192} {
		out = append(out, sample(n, uint32(n)), make([]byte, n))
	}
	return out
}

// P2.1: all strings of no, one and two bytes, and longer ones.
func TestSum(t *testing.T) {
	list := texts()
	for c := range 256 {
		list = append(list, []byte{byte(c)})
		for d := range 256 {
			list = append(list, []byte{byte(c), byte(d)})
		}
	}
	for _, b := range list {
		if crc.Sum(b) != checksum(b) {
			t.Errorf("Sum(%x): %08X instead of %08X", b, crc.Sum(b), checksum(b))
		}
	}
	long := sample(1<<20, 7)
	if crc.Sum(long) != crc32.ChecksumIEEE(long) {
		t.Errorf("Sum of many bytes: %08X", crc.Sum(long))
	}
}

// P2.1: the checksum is valid, and no number beside it, nor one of which a part is the same.
func TestValid(t *testing.T) {
	for _, b := range texts() {
		sum := checksum(b)
		if !crc.Valid(b, sum) {
			t.Errorf("Valid(%x, %08X): false", b, sum)
		}
		for i := range 32 {
			if crc.Valid(b, sum^1<<i) {
				t.Errorf("Valid(%x, %08X): true", b, sum^1<<i)
			}
		}
		for _, n := range numbers() {
			if crc.Valid(b, n) != (n == sum) {
				t.Errorf("Valid(%x, %08X): %t", b, n, n != sum)
			}
		}
	}
}

// P2.1: a checksum is not that of other bytes.
func TestValidOfOtherBytes(t *testing.T) {
	b := sample(60, 3)
	sum := crc.Sum(b)
	for _, other := range [][]byte{nil, b[1:], b[:59], append(bytes.Clone(b), 0), append([]byte{0}, b...)} {
		if crc.Valid(other, sum) {
			t.Errorf("the checksum of %x is valid for %x", b, other)
		}
	}
}

// P2.2: any number is continued, be it the checksum of known bytes or not.
func TestUpdate(t *testing.T) {
	for _, sum := range numbers() {
		for _, b := range texts() {
			want := feed(sum^0xFFFFFFFF, b...) ^ 0xFFFFFFFF
			if got := crc.Update(sum, b); got != want {
				t.Errorf("Update(%08X, %x): %08X instead of %08X", sum, b, got, want)
			}
		}
		for c := range 256 {
			if got := crc.Update(sum, []byte{byte(c)}); got != ^feed(^sum, byte(c)) {
				t.Errorf("Update(%08X, %02X): %08X", sum, c, got)
			}
		}
	}
}

// P2.2: of no bytes, the number stays.
func TestUpdateWithNothing(t *testing.T) {
	for _, sum := range numbers() {
		if crc.Update(sum, nil) != sum || crc.Update(sum, []byte{}) != sum {
			t.Errorf("Update(%08X, no bytes): %08X", sum, crc.Update(sum, nil))
		}
	}
}

// P2.3: zero bytes are fed into a, and b is xored to it, whatever the two numbers are.
func TestCombine(t *testing.T) {
	list := numbers()
	for i, a := range list {
		shifted := a
		for n := range 300 {
			b := list[(i+n)%len(list)]
			if got, err := crc.Combine(a, b, n); got != shifted^b || err != api.OK {
				t.Errorf("Combine(%08X, %08X, %d): %08X, %d instead of %08X", a, b, n, got, err, shifted^b)
			}
			shifted = feed(shifted, 0)
		}
	}
	a, zeros := uint32(0x12345678), make([]byte, 100000)
	if got, err := crc.Combine(a, 0, len(zeros)); got != feed(a, zeros...) || err != api.OK {
		t.Errorf("Combine for %d bytes: %08X, %d", len(zeros), got, err)
	}
}

// P2.3, R1: ErrArg for every n below 0, and no number with it.
func TestCombineErrors(t *testing.T) {
	for _, n := range []int{-1, -2, -5, -8, -255, -256, -1 << 31, -1<<32 + 1, math.MinInt + 1, math.MinInt} {
		for _, a := range numbers() {
			if got, err := crc.Combine(a, 0xCBF43926, n); got != 0 || err != api.ErrArg {
				t.Errorf("Combine(%08X, CBF43926, %d): %08X, %d", a, n, got, err)
			}
		}
	}
}

// product multiplies polynomials modulo that of the checksum; the bit 31 is the constant term. It is a reference that has nothing to do with matrices.
func product(x, y uint32) uint32 {
	out := uint32(0)
	for bit := uint32(1 << 31); bit != 0; bit >>= 1 {
		if x&bit != 0 {
			out ^= y
		}
		carry := y & 1
		y >>= 1
		if carry == 1 {
			y ^= 0xEDB88320
		}
	}
	return out
}

// shifted multiplies x by the power 8 n of the variable.
func shifted(x uint32, n int) uint32 {
	power := uint32(1 << 23)
	for ; n > 0; n /= 2 {
		if n%2 == 1 {
			x = product(x, power)
		}
		power = product(power, power)
	}
	return x
}

// greatNumbers has those whose shift takes all bits of n.
func greatNumbers() []int {
	out := []int{math.MaxInt, math.MaxInt - 1, math.MaxInt / 2, math.MaxInt/3 + 1, 0x123456789ABCDEF, 3<<32 + 5, math.MaxUint32, math.MaxUint32 - 1, math.MaxUint32 + 1}
	for i := range 63 {
		out = append(out, 1<<i, 1<<i-1, 1<<i+1)
	}
	return out
}

// P2.3: the greatest numbers, each soon.
func TestCombineOfGreatNumbers(t *testing.T) {
	done := make(chan bool)
	go func() {
		defer close(done)
		for _, n := range greatNumbers() {
			for _, a := range []uint32{0, 1, 0x80000000, 0xCBF43926, uint32(n)*2654435761 + 1} {
				if got, err := crc.Combine(a, 0x5A5A0001, n); got != shifted(a, n)^0x5A5A0001 || err != api.OK {
					t.Errorf("Combine(%08X, 5A5A0001, %d): %08X, %d", a, n, got, err)
				}
			}
		}
	}()
	select {
	case <-done:
	case <-time.After(time.Minute):
		t.Fatal("Combine does not return soon")
	}
}

// P2.3: as all numbers but 0 are one cycle of shifts, the same ones come again after 2^32 - 1 bytes.
func TestCombineComesAround(t *testing.T) {
	const cycle = math.MaxUint32
	for _, times := range []int{1, 2, 12345, math.MaxInt / cycle} {
		for n := range 40 {
			x, err := crc.Combine(0xCBF43926, 0, times*cycle+n)
			want := feed(0xCBF43926, make([]byte, n)...)
			if x != want || err != api.OK {
				t.Errorf("%d times around and %d bytes: %08X, %d instead of %08X", times, n, x, err, want)
			}
		}
	}
}

// P2.4: each element, by the definition and by the library's table.
func TestTable(t *testing.T) {
	table := crc.Table()
	for i, x := range table {
		if x != feed(0, byte(i)) || x != crc32.IEEETable[i] {
			t.Errorf("Table()[%d]: %08X", i, x)
		}
	}
}

// P2.4, R4: each Table is a new one, from which the checksum does not follow.
func TestTableIsNew(t *testing.T) {
	table := crc.Table()
	clear(table[:])
	if crc.Table()[128] != 0xEDB88320 || crc.Sum([]byte("123456789")) != 0xCBF43926 {
		t.Error("a Table that was changed is still in use")
	}
}

// piece is the checksum of some bytes, and how many they are.
type piece struct {
	sum  uint32
	size int
}

// join is what Combine makes of two pieces.
func join(t *testing.T, x, y piece) piece {
	t.Helper()
	sum, err := crc.Combine(x.sum, y.sum, y.size)
	if err != api.OK {
		t.Fatal(err)
	}
	return piece{sum, x.size + y.size}
}

// groupings returns the results of all the ways to put brackets around the pieces.
func groupings(t *testing.T, pieces []piece) []piece {
	if len(pieces) == 1 {
		return pieces
	}
	var out []piece
	for cut := 1; cut < len(pieces); cut++ {
		for _, x := range groupings(t, pieces[:cut]) {
			for _, y := range groupings(t, pieces[cut:]) {
				out = append(out, join(t, x, y))
			}
		}
	}
	return out
}

// P2.5: several byte strings, empty ones among them, in all groupings, and one after the other.
func TestParts(t *testing.T) {
	for _, sizes := range [][]int{{4, 5}, {0, 0}, {0, 9}, {9, 0}, {1, 1, 1, 1, 1, 1}, {3, 0, 7, 0}, {0, 1000, 1, 33, 256, 2}, {513, 16, 8192}, {64}} {
		var all []byte
		var pieces []piece
		sum := crc.Sum(nil)
		for i, n := range sizes {
			part := sample(n, uint32(i+n))
			all = append(all, part...)
			pieces = append(pieces, piece{crc.Sum(part), n})
			sum = crc.Update(sum, part)
		}
		want := piece{checksum(all), len(all)}
		if sum != want.sum {
			t.Errorf("Update with parts of %d bytes: %08X instead of %08X", sizes, sum, want.sum)
		}
		for _, x := range groupings(t, pieces) {
			if x != want {
				t.Errorf("Combine of parts of %d bytes: %v instead of %v", sizes, x, want)
			}
		}
	}
}

// P2.5: one byte string, cut at each place.
func TestCuts(t *testing.T) {
	all := sample(400, 11)
	want := checksum(all)
	for i := range len(all) + 1 {
		first, second := all[:i], all[i:]
		if got := crc.Update(crc.Sum(first), second); got != want {
			t.Errorf("Update at %d: %08X instead of %08X", i, got, want)
		}
		if got, err := crc.Combine(crc.Sum(first), crc.Sum(second), len(second)); got != want || err != api.OK {
			t.Errorf("Combine at %d: %08X, %d instead of %08X", i, got, err, want)
		}
	}
}

// flipped returns b with the bits of pattern changed, from a bit of b on; the lowest bit of a byte comes first. The others would be behind the end of b.
func flipped(b []byte, from int, pattern uint32) []byte {
	out := bytes.Clone(b)
	for i := range 32 {
		if pattern>>i&1 == 1 && from+i < 8*len(out) {
			out[(from+i)/8] ^= 1 << ((from + i) % 8)
		}
	}
	return out
}

// P2.6: changes of one and two bits, and of many, at each place of short and long strings.
func TestChanges(t *testing.T) {
	patterns := numbers()
	for i := range 32 {
		patterns = append(patterns, 1|1<<i, 1|uint32(i)*0x9E3779B9)
	}
	for _, n := range []int{1, 2, 3, 4, 5, 9, 40} {
		b := sample(n, uint32(n))
		sum := crc.Sum(b)
		for from := range 8 * n {
			for _, pattern := range patterns {
				other := flipped(b, from, pattern)
				if bytes.Equal(other, b) {
					continue
				}
				if crc.Sum(other) == sum || crc.Valid(other, sum) {
					t.Errorf("%x and %x have the checksum %08X", b, other, sum)
				}
			}
		}
	}
}

// rank counts the numbers of which none is the xor of others.
func rank(list []uint32) int {
	n := 0
	for len(list) > 0 {
		x := list[0]
		var rest []uint32
		for _, y := range list[1:] {
			rest = append(rest, min(y, x^y))
		}
		list = rest
		if x != 0 {
			n++
		}
	}
	return n
}

// P2.6: all patterns of 32 bits at once: as the checksum is linear (P2.7), none of them leaves it if the 32 single bits change it independently.
func TestAllChanges(t *testing.T) {
	for _, n := range []int{4, 5, 8, 36, 512} {
		b := sample(n, 5)
		for from := 0; from <= 8*n-32; from += 1 + n/8 {
			var changes []uint32
			for i := range 32 {
				changes = append(changes, crc.Sum(b)^crc.Sum(flipped(b, from, 1<<i)))
			}
			if rank(changes) != 32 {
				t.Errorf("of %d bytes: a change of bits from %d on is not seen", n, from)
			}
		}
	}
}

// P2.7: three byte strings of the same length, and the xor of them.
func TestLinear(t *testing.T) {
	for n := range 200 {
		x, y, z := sample(n, 1), sample(n, 2), sample(n, 3)
		if n%5 == 0 {
			clear(z)
		}
		all := make([]byte, n)
		for i := range all {
			all[i] = x[i] ^ y[i] ^ z[i]
		}
		if got := crc.Sum(x) ^ crc.Sum(y) ^ crc.Sum(z); got != crc.Sum(all) {
			t.Errorf("%x, %x, %x: %08X instead of %08X", x, y, z, got, crc.Sum(all))
		}
	}
}

// P2.7: different numbers stay different: the shifts of the single bits are independent, and those of sums the sums.
func TestShiftsStayDifferent(t *testing.T) {
	shift := func(x uint32, n int) uint32 {
		y, err := crc.Combine(x, 0, n)
		if err != api.OK {
			t.Fatal(n, err)
		}
		return y
	}
	for _, n := range append(greatNumbers(), 0, 1, 2, 3, 4, 5, 100) {
		var bits []uint32
		for i := range 32 {
			bits = append(bits, shift(1<<i, n))
		}
		if rank(bits) != 32 {
			t.Errorf("two numbers are the same when they are shifted by %d bytes", n)
		}
		seen := map[uint32]uint32{}
		for _, x := range []uint32{0, 1, 0xFFFF, 0x10001, 0xCBF43926, 0xCBF43927, 0x7FFFFFFF, math.MaxUint32} {
			y := shift(x, n)
			if other, ok := seen[y]; ok && other != x {
				t.Errorf("%08X and %08X become %08X when they are shifted by %d bytes", x, other, y, n)
			}
			seen[y] = x
			if y != shift(x&0xFFFF, n)^shift(x&^0xFFFF, n) {
				t.Errorf("the shift of %08X by %d bytes is not that of its parts", x, n)
			}
		}
	}
}

// R3: a nil slice is the same as an empty one.
func TestNilSlices(t *testing.T) {
	if crc.Sum(nil) != 0 || crc.Sum([]byte{}) != 0 {
		t.Error("Sum of no bytes")
	}
	for _, sum := range append(numbers(), 0) {
		if crc.Update(sum, nil) != crc.Update(sum, []byte{}) || crc.Valid(nil, sum) != crc.Valid([]byte{}, sum) || crc.Valid(nil, sum) != (sum == 0) {
			t.Errorf("no bytes and %08X", sum)
		}
	}
}

// R4: b keeps its bytes, and those behind its length are neither changed nor counted.
func TestMemory(t *testing.T) {
	back := sample(64, 9)
	before := bytes.Clone(back)
	b := back[8:17:48]
	sum, next := crc.Sum(b), crc.Update(77, b)
	if !crc.Valid(b, sum) || !bytes.Equal(back, before) {
		t.Errorf("%x instead of %x", back, before)
	}
	for i := range back {
		if i < 8 || i >= 17 {
			back[i] ^= 0xFF
		}
	}
	if crc.Sum(b) != sum || crc.Update(77, b) != next || !crc.Valid(b, sum) {
		t.Error("bytes outside of b are counted")
	}
}

// R8: equal calls return equal results, whatever the capacities, what came before, and also at the same time.
func TestDeterminism(t *testing.T) {
	want := outcome(0)
	got := make([][5]uint32, 8)
	var group sync.WaitGroup
	for i := range got {
		group.Go(func() { got[i] = outcome(i) })
	}
	group.Wait()
	for i, x := range got {
		if x != want {
			t.Errorf("call %d: %08X instead of %08X", i, x, want)
		}
	}
}

// outcome calls each function, with a slice that has spare bytes behind its length.
func outcome(spare int) [5]uint32 {
	b := append(sample(50, 4), bytes.Repeat([]byte{byte(spare)}, spare)...)[:50]
	crc.Update(uint32(spare), b[:spare])
	sum := crc.Sum(b)
	long, err := crc.Combine(sum, crc.Update(sum, b), math.MaxInt)
	valid := uint32(0)
	if crc.Valid(b, sum) {
		valid = 1
	}
	return [5]uint32{sum, long, uint32(err), valid, crc.Table()[77]}
}

// The examples of the chapter.
func TestExamples(t *testing.T) {
	for _, x := range []struct {
		b    string
		want uint32
	}{{"", 0}, {"123456789", 0xCBF43926}, {"\x00", 0xD202EF8D}, {"\xff\xff\xff\xff", 0xFFFFFFFF}} {
		if got := crc.Sum([]byte(x.b)); got != x.want {
			t.Errorf("Sum(%q): %08X", x.b, got)
		}
	}
	first, second := crc.Sum([]byte("1234")), crc.Sum([]byte("56789"))
	if got := crc.Update(first, []byte("56789")); got != 0xCBF43926 {
		t.Errorf("Update: %08X", got)
	}
	for _, x := range []struct {
		a, b uint32
		n    int
		want uint32
		err  api.Errno
	}{{first, second, 5, 0xCBF43926, api.OK}, {first, second, -1, 0, api.ErrArg}, {5, 7, 0, 2, api.OK}} {
		if got, err := crc.Combine(x.a, x.b, x.n); got != x.want || err != x.err {
			t.Errorf("Combine(%08X, %08X, %d): %08X, %d", x.a, x.b, x.n, got, err)
		}
	}
	table := crc.Table()
	if table[0] != 0 || table[1] != 0x77073096 || table[128] != 0xEDB88320 || table[255] != 0x2D02EF8D {
		t.Errorf("Table: %08X, %08X, %08X, %08X", table[0], table[1], table[128], table[255])
	}
	if !crc.Valid([]byte("123456789"), 0xCBF43926) || crc.Valid([]byte("123456789"), 0xCBF43927) {
		t.Error("Valid")
	}
}

// P1: no call panics, with extreme arguments in all combinations.
func FuzzNoPanic(f *testing.F) {
	for _, text := range []string{"", "\x00", "123456789", "\xff\xff\xff\xff"} {
		for _, sum := range []uint32{0, 1, 0xCBF43926, math.MaxUint32} {
			for _, n := range []int{math.MinInt, -1, 0, 1, 9, math.MaxInt} {
				f.Add([]byte(text), sum, n)
			}
		}
	}
	f.Fuzz(func(t *testing.T, b []byte, sum uint32, n int) {
		if crc.Sum(b) != crc32.ChecksumIEEE(b) || crc.Valid(b, sum) != (sum == crc32.ChecksumIEEE(b)) {
			t.Error("Sum, Valid")
		}
		if crc.Update(sum, b) != crc32.Update(sum, crc32.IEEETable, b) {
			t.Error("Update")
		}
		want, wantErr := shifted(sum, n)^crc.Sum(b), api.OK
		if n < 0 {
			want, wantErr = 0, api.ErrArg
		}
		if got, err := crc.Combine(sum, crc.Sum(b), n); got != want || err != wantErr {
			t.Error("Combine", n, got, err)
		}
	})
}
