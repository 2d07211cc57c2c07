package codec_test

import (
	"bytes"
	"encoding/binary"
	"encoding/hex"
	"math"
	"math/big"
	"strconv"
	"strings"
	"sync"
	"testing"

	"drumlin/api"
	"drumlin/codec"
)

// The signatures of the chapter: a change of one of them does not compile.
var (
	_ func([]byte, uint64, int) ([]byte, api.Errno) = codec.Append
	_ func([]byte, int, int) (uint64, api.Errno)    = codec.Uint
	_ func(uint64, int) bool                        = codec.Fits
	_ func([]byte) string                           = codec.Hex
	_ func(string) ([]byte, api.Errno)              = codec.ParseHex
	_ func(uint64) string                           = codec.Digits
	_ func(string) (uint64, api.Errno)              = codec.ParseDigits
)

var goodWidths = []int{1, 2, 4, 8}

// badWidths has those whose shifts or multiples would wrap around to what a good one has.
func badWidths() []int {
	out := []int{math.MinInt, math.MinInt + 1, -8, -4, -2, -1, 0, 3, 5, 6, 7, 9, 16, 32, 64, math.MaxInt, 1 << 32, 1<<32 + 1, 1<<61 + 1, 1<<8 + 1}
	for w := 10; w < 300; w++ {
		out = append(out, w)
	}
	return out
}

// numbers has those next to the powers of two, and some in between.
func numbers() []uint64 {
	out := []uint64{0x0102030405060708, 0xfedcba9876543210, 0x8000000080000000, 513}
	for shift := range 64 {
		p := uint64(1) << shift
		out = append(out, p-1, p, p+1, -p, p|0x5a)
	}
	return out
}

// encoding is the reference: the little-endian bytes, cut to the width.
func encoding(n uint64, width int) []byte {
	return binary.LittleEndian.AppendUint64(nil, n)[:width]
}

func fits(n uint64, width int) bool {
	return new(big.Int).SetUint64(n).Cmp(new(big.Int).Lsh(big.NewInt(1), uint(8*width))) < 0
}

// P1.1: the bytes of b, followed by the encoding; ErrOver exactly for what does not fit.
func TestAppendAndFits(t *testing.T) {
	for _, b := range [][]byte{nil, {}, {7}, {1, 2, 3, 4, 5, 6, 7, 8, 9}, bytes.Repeat([]byte{0xa5}, 5000)} {
		for _, width := range goodWidths {
			for _, n := range numbers() {
				want, wantErr := append(bytes.Clone(b), encoding(n, width)...), api.OK
				if !fits(n, width) {
					want, wantErr = nil, api.ErrOver
				}
				got, err := codec.Append(b, n, width)
				if err != wantErr || !bytes.Equal(got, want) {
					t.Errorf("Append of %d bytes, %d, %d: %x, %d", len(b), n, width, got, err)
				}
				if codec.Fits(n, width) != fits(n, width) {
					t.Errorf("Fits(%d, %d)", n, width)
				}
			}
		}
	}
}

// P1.1: the greatest number of each width, and the next one.
func TestAppendAtTheLimits(t *testing.T) {
	for _, x := range []struct {
		n     uint64
		width int
		want  string
		err   api.Errno
	}{
		{0, 1, "00", api.OK}, {1<<8 - 1, 1, "ff", api.OK}, {1 << 8, 1, "", api.ErrOver},
		{0, 2, "0000", api.OK}, {1<<16 - 1, 2, "ffff", api.OK}, {1 << 16, 2, "", api.ErrOver},
		{0, 4, "00000000", api.OK}, {1<<32 - 1, 4, "ffffffff", api.OK}, {1 << 32, 4, "", api.ErrOver},
		{0, 8, "0000000000000000", api.OK}, {math.MaxUint64, 8, "ffffffffffffffff", api.OK},
		{math.MaxUint64, 4, "", api.ErrOver}, {math.MaxUint64, 1, "", api.ErrOver},
	} {
		got, err := codec.Append(nil, x.n, x.width)
		if hex.EncodeToString(got) != x.want || err != x.err {
			t.Errorf("Append(nil, %d, %d): %x, %d", x.n, x.width, got, err)
		}
	}
}

// P1.1, R1: ErrArg comes before ErrOver, and no bytes come with either.
func TestAppendAndFitsOfBadWidths(t *testing.T) {
	for _, width := range badWidths() {
		for _, n := range []uint64{0, 1, 255, math.MaxUint64} {
			for _, b := range [][]byte{nil, {7, 8}} {
				if got, err := codec.Append(b, n, width); len(got) != 0 || err != api.ErrArg {
					t.Errorf("Append(%x, %d, %d): %x, %d", b, n, width, got, err)
				}
			}
			if codec.Fits(n, width) {
				t.Errorf("Fits(%d, %d)", n, width)
			}
		}
	}
}

// P1.2: every offset of a slice, and those around its end.
func TestUint(t *testing.T) {
	b := []byte{0x01, 0x82, 0x00, 0xff, 0x40, 0x05, 0x96, 0x07, 0xe8, 0x00, 0x80}
	for _, width := range goodWidths {
		for length := range len(b) + 1 {
			for at := range length + 10 {
				want, wantErr := uint64(0), api.ErrTorn
				if at+width <= length {
					whole := make([]byte, 8)
					copy(whole, b[at:at+width])
					want, wantErr = binary.LittleEndian.Uint64(whole), api.OK
				}
				// The bytes behind the length are there, but do not count (R4).
				if got, err := codec.Uint(b[:length], at, width); got != want || err != wantErr {
					t.Errorf("Uint of %d bytes at %d, %d: %d, %d", length, at, width, got, err)
				}
			}
		}
	}
}

// P1.2, R5, R6: ErrArg, then ErrRange, then ErrTorn; offsets whose sum with the width overflows.
func TestUintErrors(t *testing.T) {
	for _, b := range [][]byte{nil, {7}, make([]byte, 100)} {
		for _, width := range badWidths() {
			for _, at := range []int{math.MinInt, -1, 0, 1, 1000, math.MaxInt} {
				if n, err := codec.Uint(b, at, width); n != 0 || err != api.ErrArg {
					t.Errorf("Uint of %d bytes at %d, %d: %d, %d", len(b), at, width, n, err)
				}
			}
		}
		for _, width := range goodWidths {
			for _, at := range []int{math.MinInt, math.MinInt + 7, -1 << 32, -8, -1} {
				if n, err := codec.Uint(b, at, width); n != 0 || err != api.ErrRange {
					t.Errorf("Uint of %d bytes at %d, %d: %d, %d", len(b), at, width, n, err)
				}
			}
			for _, at := range []int{len(b), len(b) - width + 1, 1000, 1 << 32, math.MaxInt - 8, math.MaxInt - 1, math.MaxInt} {
				if at < 0 {
					continue
				}
				if n, err := codec.Uint(b, at, width); n != 0 || err != api.ErrTorn {
					t.Errorf("Uint of %d bytes at %d, %d: %d, %d", len(b), at, width, n, err)
				}
			}
		}
	}
}

// P1.3: every byte has its own two digits, the more significant one first.
func TestHexOfEachByte(t *testing.T) {
	all := []byte{}
	for c := range 256 {
		b := []byte{byte(c)}
		all = append(all, byte(c))
		want := hex.EncodeToString(b)
		if codec.Hex(b) != want {
			t.Errorf("Hex(%x): %q", b, codec.Hex(b))
		}
		if got, err := codec.ParseHex(want); !bytes.Equal(got, b) || err != api.OK {
			t.Errorf("ParseHex(%q): %x, %d", want, got, err)
		}
	}
	long := bytes.Repeat(all, 300)
	if codec.Hex(long) != hex.EncodeToString(long) {
		t.Error("Hex of many bytes")
	}
	if got, err := codec.ParseHex(hex.EncodeToString(long)); !bytes.Equal(got, long) || err != api.OK {
		t.Error("ParseHex of many bytes", err)
	}
}

// P1.3, R3: the empty string is that of no bytes.
func TestHexOfNothing(t *testing.T) {
	if codec.Hex(nil) != "" || codec.Hex([]byte{}) != "" {
		t.Error("Hex of no bytes")
	}
	if got, err := codec.ParseHex(""); len(got) != 0 || err != api.OK {
		t.Errorf("ParseHex of an empty string: %x, %d", got, err)
	}
}

// P1.3: all strings of one and two bytes: only those of two digits are hexadecimal.
func TestParseHexOfShortStrings(t *testing.T) {
	const digits = "0123456789abcdef"
	for c := range 256 {
		if got, err := codec.ParseHex(string([]byte{byte(c)})); len(got) != 0 || err != api.ErrForm {
			t.Errorf("ParseHex of the byte %d: %x, %d", c, got, err)
		}
		for d := range 256 {
			s := string([]byte{byte(c), byte(d)})
			high, low := strings.IndexByte(digits, byte(c)), strings.IndexByte(digits, byte(d))
			got, err := codec.ParseHex(s)
			if high >= 0 && low >= 0 {
				if len(got) != 1 || int(got[0]) != 16*high+low || err != api.OK {
					t.Errorf("ParseHex(%q): %x, %d", s, got, err)
				}
			} else if len(got) != 0 || err != api.ErrForm {
				t.Errorf("ParseHex(%q): %x, %d", s, got, err)
			}
		}
	}
}

// P1.3, R1: a wrong byte anywhere, or half a pair at the end; nothing of what came before it is returned.
func TestParseHexErrors(t *testing.T) {
	for _, s := range []string{"0fa", "0FA0", "0g", "0x0f", "00 11", " 0fa0", "0fa0 ", "0fa0\n", "-1", "+0", "0fa00", "\u0660\u0660", "\xff\xff", "00\x00\x00"} {
		if got, err := codec.ParseHex(s); len(got) != 0 || err != api.ErrForm {
			t.Errorf("ParseHex(%q): %x, %d", s, got, err)
		}
	}
	good := "00112233445566778899aabbccddeeff"
	for i := range good {
		s := good[:i] + "G" + good[i+1:]
		if got, err := codec.ParseHex(s); len(got) != 0 || err != api.ErrForm {
			t.Errorf("ParseHex(%q): %x, %d", s, got, err)
		}
	}
}

// P1.4, P1.5: numbers next to the powers of two and ten, there and back.
func TestDigits(t *testing.T) {
	list := numbers()
	for p := uint64(1); ; p *= 10 {
		list = append(list, p-1, p, p+1, 9*p)
		if p == 1e19 {
			break
		}
	}
	for n := range uint64(1100) {
		list = append(list, n)
	}
	for _, n := range list {
		want := new(big.Int).SetUint64(n).String()
		if codec.Digits(n) != want {
			t.Errorf("Digits(%d): %q", n, codec.Digits(n))
		}
		if got, err := codec.ParseDigits(want); got != n || err != api.OK {
			t.Errorf("ParseDigits(%q): %d, %d", want, got, err)
		}
	}
}

// P1.4: the numbers around 2^64, and those whose product or sum wraps around to a small one.
func TestParseDigitsAtTheLimit(t *testing.T) {
	limit := new(big.Int).Lsh(big.NewInt(1), 64)
	for d := int64(-300); d <= 300; d++ {
		n := new(big.Int).Add(limit, big.NewInt(d))
		got, err := codec.ParseDigits(n.String())
		if d < 0 && (got != n.Uint64() || err != api.OK) || d >= 0 && (got != 0 || err != api.ErrOver) {
			t.Errorf("ParseDigits(%q): %d, %d", n, got, err)
		}
	}
	for i := int64(1); i <= 2000; i++ {
		n := new(big.Int).Mul(limit, big.NewInt(i))
		for _, s := range []string{n.String(), n.String() + "0", n.Add(n, big.NewInt(7)).String()} {
			if got, err := codec.ParseDigits(s); got != 0 || err != api.ErrOver {
				t.Errorf("ParseDigits(%q): %d, %d", s, got, err)
			}
		}
	}
	for _, s := range []string{"20000000000000000000", "99999999999999999999", "100000000000000000000", "1" + strings.Repeat("0", 64), strings.Repeat("9", 100000)} {
		if got, err := codec.ParseDigits(s); got != 0 || err != api.ErrOver {
			t.Errorf("ParseDigits of %d digits: %d, %d", len(s), got, err)
		}
	}
}

// P1.4: all strings of one and two bytes.
func TestParseDigitsOfShortStrings(t *testing.T) {
	check := func(s string) {
		want, wantErr := uint64(0), api.ErrForm
		if n, err := strconv.Atoi(s); err == nil && strconv.Itoa(n) == s && s[0] != '-' {
			want, wantErr = uint64(n), api.OK
		}
		if got, err := codec.ParseDigits(s); got != want || err != wantErr {
			t.Errorf("ParseDigits(%q): %d, %d", s, got, err)
		}
	}
	for c := range 256 {
		check(string([]byte{byte(c)}))
		for d := range 256 {
			check(string([]byte{byte(c), byte(d)}))
		}
	}
}

// P1.4, R1, R5: ErrForm comes before ErrOver, and no number comes with either.
func TestParseDigitsErrors(t *testing.T) {
	for _, s := range []string{
		"", "00", "01", "007", "+1", "-1", "-0", "1 ", " 1", "1\n", "1_000", "1,000", "1.0", "1e3", "0x10", "0b1", "\u0661", "\xff", "1\x00",
		"00000000000000000000", "018446744073709551615", "018446744073709551616",
		"99999999999999999999x", "x99999999999999999999", "99999999999999999999 ", "18446744073709551616-", strings.Repeat("9", 1000) + "x", "0" + strings.Repeat("9", 1000),
	} {
		if got, err := codec.ParseDigits(s); got != 0 || err != api.ErrForm {
			t.Errorf("ParseDigits(%q): %d, %d", s, got, err)
		}
	}
	good := "12345678901234567890"
	for i := range good {
		for _, wrong := range []string{"/", ":", "a", " "} {
			s := good[:i] + wrong + good[i+1:]
			if got, err := codec.ParseDigits(s); got != 0 || err != api.ErrForm {
				t.Errorf("ParseDigits(%q): %d, %d", s, got, err)
			}
		}
	}
}

// P1.5: what Append has appended is decoded at the length of b.
func TestIntegersRoundTrip(t *testing.T) {
	for _, b := range [][]byte{nil, {9}, {1, 2, 3}, make([]byte, 777)} {
		for _, width := range goodWidths {
			for _, n := range numbers() {
				if !codec.Fits(n, width) {
					continue
				}
				long, err := codec.Append(b, n, width)
				if err != api.OK {
					t.Fatal(n, width, err)
				}
				if got, err := codec.Uint(long, len(b), width); got != n || err != api.OK {
					t.Errorf("Uint of what Append(%d bytes, %d, %d) returned: %d, %d", len(b), n, width, got, err)
				}
			}
		}
	}
}

// P1.5: each string that is decoded is the one that is returned for the result.
func TestStringsRoundTrip(t *testing.T) {
	const letters = "0189afgAF+- "
	texts := []string{""}
	for first := 0; len(texts[first]) < 4; first++ {
		for i := range letters {
			texts = append(texts, texts[first]+letters[i:i+1])
		}
	}
	hexes, decimals := 0, 0
	for _, s := range texts {
		if b, err := codec.ParseHex(s); err == api.OK {
			hexes++
			if codec.Hex(b) != s {
				t.Errorf("ParseHex(%q) is the bytes of %q", s, codec.Hex(b))
			}
		}
		if n, err := codec.ParseDigits(s); err == api.OK {
			decimals++
			if codec.Digits(n) != s {
				t.Errorf("ParseDigits(%q) is the number of %q", s, codec.Digits(n))
			}
		}
	}
	// 6 of the letters are digits: 6^0 + 6^2 + 6^4 hexadecimal strings; and 4 are decimal: 4 + 3 (4 + 16 + 64) strings.
	if hexes != 1+36+1296 || decimals != 4+3*84 {
		t.Error(hexes, decimals)
	}
}

// P1.6, R4: b keeps its bytes, also those behind its length, and results are new memory.
func TestAppendMemory(t *testing.T) {
	for _, n := range []uint64{0, 0xffffffffffffffff, 0x0102030405060708} {
		for _, width := range goodWidths {
			back := bytes.Repeat([]byte{0xee}, 64)
			before := bytes.Clone(back)
			b := back[8:16:48]
			n := n & (math.MaxUint64 >> (64 - 8*width))
			first, err := codec.Append(b, n, width)
			second, err2 := codec.Append(b, n, width)
			if err != api.OK || err2 != api.OK || !bytes.Equal(back, before) {
				t.Fatalf("Append(.., %d, %d) changed its argument, or failed: %d", n, width, err)
			}
			want := bytes.Clone(first)
			for i := range back {
				back[i] = 0x11
			}
			if !bytes.Equal(first, want) || !bytes.Equal(second, want) {
				t.Errorf("a result of Append(.., %d, %d) has memory of its argument", n, width)
			}
			scribble(first)
			if !bytes.Equal(second, want) {
				t.Errorf("two results of Append(.., %d, %d) share memory", n, width)
			}
			for _, c := range back {
				if c != 0x11 {
					t.Fatalf("the argument of Append(.., %d, %d) has memory of a result", n, width)
				}
			}
		}
	}
}

// scribble writes into all the memory that a result gives its caller.
func scribble(b []byte) {
	b = b[:cap(b)]
	for i := range b {
		b[i] = 0x99
	}
}

// P1.6, R1: also together with an error nothing has changed.
func TestAppendMemoryWithErrors(t *testing.T) {
	back := []byte{1, 2, 3, 4, 5, 6, 7, 8}
	before := bytes.Clone(back)
	codec.Append(back[:2], 256, 1)
	codec.Append(back[:2], 1, 3)
	if !bytes.Equal(back, before) {
		t.Errorf("%x", back)
	}
}

// P1.6: the functions that read change nothing, and strings and bytes share no memory.
func TestReadersMemory(t *testing.T) {
	back := []byte{1, 2, 3, 4, 5, 6, 7, 8, 9, 10, 11, 12}
	before := bytes.Clone(back)
	for _, width := range goodWidths {
		codec.Uint(back[:9], 1, width)
		codec.Uint(back[:9], 8, width)
	}
	s := codec.Hex(back[:4])
	if s != "01020304" || !bytes.Equal(back, before) {
		t.Errorf("%q, %x", s, back)
	}
	scribble(back)
	if s != "01020304" {
		t.Errorf("the string has the memory of the bytes: %q", s)
	}
	first, _ := codec.ParseHex(s)
	second, _ := codec.ParseHex(s)
	scribble(first)
	if s != "01020304" || !bytes.Equal(second, []byte{1, 2, 3, 4}) {
		t.Errorf("%q, %x", s, second)
	}
}

// R3: a nil slice is the same as an empty one.
func TestNilSlices(t *testing.T) {
	for _, width := range append([]int{0, 3, -1}, goodWidths...) {
		a, errA := codec.Append(nil, 200, width)
		b, errB := codec.Append([]byte{}, 200, width)
		if !bytes.Equal(a, b) || errA != errB {
			t.Error(width, a, errA, b, errB)
		}
		for _, at := range []int{-1, 0, 1} {
			m, errM := codec.Uint(nil, at, width)
			n, errN := codec.Uint([]byte{}, at, width)
			if m != n || errM != errN {
				t.Error(width, at, errM, errN)
			}
		}
	}
}

// R8: equal calls return equal results, whatever the capacities, and also at the same time.
func TestDeterminism(t *testing.T) {
	want := outcome(0)
	got := make([]string, 8)
	var group sync.WaitGroup
	for i := range got {
		group.Go(func() { got[i] = outcome(i) })
	}
	group.Wait()
	for i, s := range got {
		if s != want {
			t.Errorf("call %d: %s instead of %s", i, s, want)
		}
	}
}

// outcome calls each function, with a slice that has spare bytes behind its length.
func outcome(spare int) string {
	b := bytes.Repeat([]byte{byte(spare)}, 4+spare)[:4]
	copy(b, "\x01\x02\x80\xff")
	long, err := codec.Append(b, 513, 2)
	n, err2 := codec.Uint(b, 0, 4)
	bytesOf, err3 := codec.ParseHex(codec.Hex(b))
	number, err4 := codec.ParseDigits(codec.Digits(n))
	_, err5 := codec.Uint(b, 1, 4)
	out := codec.Hex(long) + codec.Hex(bytesOf) + strconv.FormatUint(number, 10)
	for _, e := range []api.Errno{err, err2, err3, err4, err5} {
		out += " " + strconv.Itoa(int(e))
	}
	return out
}

// The examples of the chapter.
func TestExamples(t *testing.T) {
	integers := []struct {
		b     []byte
		n     uint64
		width int
		want  []byte
		err   api.Errno
	}{{[]byte{7}, 513, 2, []byte{7, 1, 2}, api.OK}, {nil, 256, 1, nil, api.ErrOver}, {nil, 0, 3, nil, api.ErrArg}}
	for _, x := range integers {
		if got, err := codec.Append(x.b, x.n, x.width); !bytes.Equal(got, x.want) || err != x.err {
			t.Errorf("Append(%x, %d, %d): %x, %d", x.b, x.n, x.width, got, err)
		}
	}
	for _, x := range []struct {
		b         []byte
		at, width int
		want      uint64
		err       api.Errno
	}{{[]byte{7, 1, 2}, 1, 2, 513, api.OK}, {[]byte{7, 1, 2}, 2, 2, 0, api.ErrTorn}, {[]byte{7}, -1, 1, 0, api.ErrRange}, {[]byte{7}, 0, 0, 0, api.ErrArg}} {
		if got, err := codec.Uint(x.b, x.at, x.width); got != x.want || err != x.err {
			t.Errorf("Uint(%x, %d, %d): %d, %d", x.b, x.at, x.width, got, err)
		}
	}
	if s := codec.Hex([]byte{0x0f, 0xa0}); s != "0fa0" {
		t.Errorf("Hex: %q", s)
	}
	if b, err := codec.ParseHex("0fa0"); !bytes.Equal(b, []byte{0x0f, 0xa0}) || err != api.OK {
		t.Errorf("ParseHex: %x, %d", b, err)
	}
	if s := codec.Digits(0); s != "0" {
		t.Errorf("Digits: %q", s)
	}
	for _, x := range []struct {
		s    string
		want uint64
		err  api.Errno
	}{{"18446744073709551615", math.MaxUint64, api.OK}, {"18446744073709551616", 0, api.ErrOver}, {"", 0, api.ErrForm}, {"01", 0, api.ErrForm}, {"+1", 0, api.ErrForm}, {"1 ", 0, api.ErrForm}, {"99999999999999999999x", 0, api.ErrForm}} {
		if got, err := codec.ParseDigits(x.s); got != x.want || err != x.err {
			t.Errorf("ParseDigits(%q): %d, %d", x.s, got, err)
		}
	}
}

// P1: no call panics, with extreme arguments in all combinations.
func FuzzNoPanic(f *testing.F) {
	for _, text := range []string{"", "0", "0fa0", "0g", "18446744073709551616", "99999999999999999999x", "\xff\x00"} {
		for _, n := range []uint64{0, 256, math.MaxUint64} {
			for _, at := range []int{math.MinInt, -1, 0, 1, math.MaxInt} {
				for _, width := range []int{math.MinInt, -1, 0, 1, 2, 3, 4, 8, 9, math.MaxInt} {
					f.Add(text, n, at, width)
				}
			}
		}
	}
	f.Fuzz(func(t *testing.T, text string, n uint64, at, width int) {
		b := []byte(text)
		long, err := codec.Append(b, n, width)
		if err == api.OK && !codec.Fits(n, width) || err != api.OK && (codec.Fits(n, width) || len(long) != 0) {
			t.Error("Append", err)
		}
		if n, err := codec.Uint(b, at, width); err != api.OK && n != 0 {
			t.Error("Uint", n, err)
		}
		if got, err := codec.ParseHex(codec.Hex(b)); !bytes.Equal(got, b) || err != api.OK {
			t.Error("Hex", err)
		}
		if got, err := codec.ParseHex(text); err == api.OK && codec.Hex(got) != text || err != api.OK && len(got) != 0 {
			t.Error("ParseHex", err)
		}
		if got, err := codec.ParseDigits(text); err == api.OK && codec.Digits(got) != text || err != api.OK && got != 0 {
			t.Error("ParseDigits", err)
		}
		if got, err := codec.ParseDigits(codec.Digits(n)); got != n || err != api.OK {
			t.Error("Digits", err)
		}
	})
}
