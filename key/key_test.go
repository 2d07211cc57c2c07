package key_test

import (
	"bytes"
	"math"
	"math/big"
	"slices"
	"strconv"
	"strings"
	"sync"
	"testing"

	"drumlin/api"
	"drumlin/key"
)

// The signatures of the chapter: a change of one of them does not compile.
var (
	_ func(string) api.Errno        = key.Check
	_ func(string, int) api.Errno   = key.Fits
	_ func(string, string) int      = key.Order
	_ func(string, string) int      = key.Common
	_ func(string) (string, bool)   = key.Next
	_ func(int) (string, api.Errno) = key.Name
)

// alphabet has the key characters in the order that the chapter states.
const alphabet = "-" + "." + "0123456789" + "_" + "abcdefghijklmnopqrstuvwxyz"

// most is written out, so that another limit would be noticed.
const most = 32

// isKey is the definition: 1 to 32 key characters.
func isKey(s string) bool {
	return s != "" && len(s) <= most && strings.Trim(s, alphabet) == ""
}

// check is the reference of Check.
func check(s string) api.Errno {
	switch {
	case isKey(s):
		return api.OK
	case s == "" || strings.Trim(s, alphabet) != "":
		return api.ErrArg
	default:
		return api.ErrLarge
	}
}

// source is a source of numbers that look random, the same each time.
type source uint64

func (s *source) below(n int) int {
	*s = *s*6364136223846793005 + 1442695040888963407
	return int(uint64(*s>>33) % uint64(n))
}

// text returns a string of n key characters.
func (s *source) text(n int) string {
	b := make([]byte, n)
	for i := range b {
		b[i] = alphabet[s.below(len(alphabet))]
	}
	return string(b)
}

// keys has keys of all lengths: of equal characters, of those that are last ones of the alphabet at their end, and of different ones.
func keys() []string {
	var out []string
	s := source(1)
	for n := 1; n <= most; n++ {
		for i := range len(alphabet) {
			out = append(out, strings.Repeat(alphabet[i:i+1], n), strings.Repeat("z", n-1)+alphabet[i:i+1], alphabet[i:i+1]+strings.Repeat("z", n-1))
		}
		for tail := range n {
			out = append(out, s.text(n-tail)+strings.Repeat("z", tail), s.text(n-tail)+strings.Repeat("-", tail))
		}
		for range 20 {
			out = append(out, s.text(n))
		}
	}
	return out
}

// others has strings that are no keys, of bytes that are no characters among them.
func others() []string {
	out := []string{"", " ", "\x00", "A", "Z", "a b", " a", "a ", "a\n", "\ta", "a/b", "a:b", "a,b", "a`b", "a{b", "a^b", "K9", "a\x00", "é", "ä", "ａ", "٣", "\u0161", "\u212a", "\u017f", "\U00010061", "\xff", "a\xff", "\xe1", "a\xc3", "\xc1\xa1", "\xed\xa0\x80", "\xf4\x90\x80\x80", "\ufffd", "k\u0130", "\u2024", "–", "＿", "a\u0300", "\ufeffa"}
	for n := most + 1; n < 70; n++ {
		out = append(out, strings.Repeat("a", n), strings.Repeat("z", n), strings.Repeat("-", n), strings.Repeat("a", n-1)+"A", "A"+strings.Repeat("a", n-1))
	}
	return append(out, strings.Repeat("a", 256), strings.Repeat("a", 257), strings.Repeat("a", 1<<16+1), strings.Repeat("a", 1<<16)+"A", strings.Repeat("\xff", 1000))
}

// P5.1: all strings of one, two and three bytes.
func TestCheckOfShortStrings(t *testing.T) {
	var isCharacter [256]bool
	for i := range len(alphabet) {
		isCharacter[alphabet[i]] = true
	}
	expect := func(b []byte, ok bool) {
		want := api.ErrArg
		if ok {
			want = api.OK
		}
		if err := key.Check(string(b)); err != want {
			t.Errorf("Check(%q): %d instead of %d", b, err, want)
		}
	}
	for c := range 256 {
		expect([]byte{byte(c)}, isCharacter[c])
		for d := range 256 {
			expect([]byte{byte(c), byte(d)}, isCharacter[c] && isCharacter[d])
			for e := 0; e < 256; e += 5 {
				expect([]byte{byte(c), byte(d), byte(e)}, isCharacter[c] && isCharacter[d] && isCharacter[e])
			}
		}
	}
}

// P5.1: no character beyond a byte is a key character, though its lowest byte may look like one.
func TestCheckOfCharacters(t *testing.T) {
	for r := rune(128); r <= 0x10ffff; r++ {
		if err := key.Check(string(r)); err != api.ErrArg {
			t.Fatalf("Check(%q): %d", string(r), err)
		}
	}
}

// P5.1: each byte at each place, in keys of all lengths, and in strings that are too long: ErrArg comes before ErrLarge.
func TestCheckOfEachPlace(t *testing.T) {
	for n := 1; n <= most+4; n++ {
		for place := range n {
			for c := range 256 {
				b := bytes.Repeat([]byte{'m'}, n)
				b[place] = byte(c)
				s := string(b)
				if err := key.Check(s); err != check(s) {
					t.Errorf("Check(%q): %d instead of %d", s, err, check(s))
				}
			}
		}
	}
}

// P5.1: the lengths around MaxKey, and long ones.
func TestCheckOfLengths(t *testing.T) {
	for n, want := range map[int]api.Errno{0: api.ErrArg, 1: api.OK, 2: api.OK, 31: api.OK, 32: api.OK, 33: api.ErrLarge, 34: api.ErrLarge, 64: api.ErrLarge, 256: api.ErrLarge, 288: api.ErrLarge, 1 << 16: api.ErrLarge, 1 << 20: api.ErrLarge} {
		for _, c := range []string{"a", "z", "-", "_", "0"} {
			if err := key.Check(strings.Repeat(c, n)); err != want {
				t.Errorf("Check of %d times %q: %d instead of %d", n, c, err, want)
			}
		}
		if err := key.Check(strings.Repeat("a", n) + "A"); err != api.ErrArg {
			t.Errorf("Check of %d times a, and A: %d", n, err)
		}
	}
}

// P5.1: keys and other strings, also with the greatest number of bytes from below its least value to above its greatest one.
func TestFits(t *testing.T) {
	for _, s := range slices.Concat(keys(), others()) {
		if err := key.Check(s); err != check(s) {
			t.Errorf("Check(%.99q): %d instead of %d", s, err, check(s))
		}
		for n := -2; n <= most+2; n++ {
			want := check(s)
			if n < 1 || n > most {
				want = api.ErrArg
			} else if want == api.OK && len(s) > n {
				want = api.ErrLarge
			}
			if err := key.Fits(s, n); err != want {
				t.Errorf("Fits(%.99q, %d): %d instead of %d", s, n, err, want)
			}
		}
	}
}

// P5.1, R5: far numbers of bytes are ErrArg, ahead of the errors of Check.
func TestFitsOfFarNumbers(t *testing.T) {
	for _, s := range []string{"", "a", "A", strings.Repeat("a", most), strings.Repeat("a", most+1)} {
		for _, n := range []int{math.MinInt, math.MinInt + 1, -1 << 32, -most, -1, 0, most + 1, 256, 256 + most, 1<<16 + 1, 1<<32 + 1, math.MaxInt} {
			if err := key.Fits(s, n); err != api.ErrArg {
				t.Errorf("Fits(%q, %d): %d", s, n, err)
			}
		}
	}
}

// allStrings has strings of bytes of all kinds: those of which one is a part of another one, and those that differ only in a later byte.
func allStrings() []string {
	out := []string{""}
	for from, length := 0, 1; length <= 3; length++ {
		to := len(out)
		for _, s := range out[from:to] {
			for _, c := range []string{"\x00", "-", "9", "_", "a", "\x7f", "\x80", "\xff"} {
				out = append(out, s+c)
			}
		}
		from = to
	}
	return out
}

// order is the definition: the first byte that differs says which is less, or else the length.
func order(a, b string) int {
	for i := 0; i < len(a) && i < len(b); i++ {
		if a[i] != b[i] {
			return sign(int(a[i]) - int(b[i]))
		}
	}
	return sign(len(a) - len(b))
}

func sign(n int) int {
	switch {
	case n < 0:
		return -1
	case n > 0:
		return 1
	}
	return 0
}

// common is the definition: the greatest length at which the prefixes are equal.
func common(a, b string) int {
	longest := 0
	for n := range min(len(a), len(b)) + 1 {
		if a[:n] == b[:n] {
			longest = n
		}
	}
	return longest
}

func expectPair(t *testing.T, a, b string) {
	t.Helper()
	if got := key.Order(a, b); got != order(a, b) {
		t.Errorf("Order(%.99q, %.99q): %d instead of %d", a, b, got, order(a, b))
	}
	if got := key.Common(a, b); got != common(a, b) {
		t.Errorf("Common(%.99q, %.99q): %d instead of %d", a, b, got, common(a, b))
	}
}

// P5.2: all strings, also those that are no keys; prefixes are counted in bytes, also within a character.
func TestOrderAndCommon(t *testing.T) {
	list := slices.Concat(allStrings(), []string{"é", "è", "\u20ac", "\u20ad", "\U0001f600", "\xc3", "\xe2\x82"})
	for _, a := range list {
		for _, b := range list {
			expectPair(t, a, b)
		}
	}
	s := source(2)
	list = slices.Concat(keys(), others())
	for range 20_000 {
		expectPair(t, list[s.below(len(list))], list[s.below(len(list))])
	}
}

// P5.2: each pair of bytes, alone and behind others.
func TestOrderOfBytes(t *testing.T) {
	for c := range 256 {
		for d := range 256 {
			a, b := string([]byte{byte(c)}), string([]byte{byte(d)})
			expectPair(t, a, b)
			expectPair(t, "ab"+a+"x", "ab"+b)
		}
	}
	for i := range len(alphabet) - 1 {
		if key.Order(alphabet[i:i+1], alphabet[i+1:i+2]) != -1 {
			t.Errorf("%q is not ahead of %q", alphabet[i], alphabet[i+1])
		}
	}
}

// P5.2: strings that are long, and alike up to any place.
func TestOrderAndCommonOfLongStrings(t *testing.T) {
	for _, n := range []int{1, 31, 32, 33, 255, 256, 257, 1 << 16, 1 << 20} {
		a := strings.Repeat("a", n)
		for _, place := range []int{0, n / 2, n - 1} {
			b := a[:place] + "b" + a[place+1:]
			if key.Common(a, b) != place || key.Order(a, b) != -1 || key.Order(b, a) != 1 {
				t.Errorf("%d bytes that differ at %d: Common %d, Order %d, %d", n, place, key.Common(a, b), key.Order(a, b), key.Order(b, a))
			}
			if key.Common(a, a[:place]) != place || key.Order(a, a[:place]) != 1 || key.Order(a[:place], a) != -1 {
				t.Errorf("%d bytes and their first %d: Common %d, Order %d", n, place, key.Common(a, a[:place]), key.Order(a, a[:place]))
			}
		}
		if same := strings.Clone(a); key.Common(a, same) != n || key.Order(a, same) != 0 {
			t.Errorf("%d equal bytes: Common %d, Order %d", n, key.Common(a, same), key.Order(a, same))
		}
	}
}

// P5.6: exactly one of three holds for each pair, and the strings differ at Common.
func TestOrderIsTotal(t *testing.T) {
	list := slices.Concat(allStrings(), []string{"é", "è", "k10", "k9"})
	for _, a := range list {
		for _, b := range list {
			holding := 0
			for _, holds := range []bool{key.Order(a, b) < 0, a == b, key.Order(b, a) < 0} {
				if holds {
					holding++
				}
			}
			if holding != 1 {
				t.Errorf("%d of the three hold for %q and %q", holding, a, b)
			}
			n := key.Common(a, b)
			if n < 0 || n > len(a) || n > len(b) || a[:n] != b[:n] {
				t.Errorf("Common(%q, %q): %d", a, b, n)
			} else if n < len(a) && n < len(b) && a[n] == b[n] {
				t.Errorf("Common(%q, %q): %d, where they do not differ", a, b, n)
			}
		}
	}
}

// P5.6: what is less than something less is less.
func TestOrderIsTransitive(t *testing.T) {
	var list []string
	s := source(3)
	all := slices.Concat(allStrings(), keys())
	for range 120 {
		list = append(list, all[s.below(len(all))])
	}
	for _, a := range list {
		for _, b := range list {
			for _, c := range list {
				if key.Order(a, b) < 0 && key.Order(b, c) < 0 && key.Order(a, c) >= 0 {
					t.Errorf("%q, %q, %q", a, b, c)
				}
			}
		}
	}
}

// counts returns how many strings of at most n key characters there are, for each n up to 31: also the empty one.
func counts() []*big.Int {
	out := []*big.Int{big.NewInt(1)}
	for range most - 1 {
		next := new(big.Int).Mul(out[len(out)-1], big.NewInt(int64(len(alphabet))))
		out = append(out, next.Add(next, big.NewInt(1)))
	}
	return out
}

// rank returns how many keys are less than s or equal to it: it numbers the keys from 1 on, in their order. With each character of s the keys are counted that have the same ones ahead of it and a less one there, and the one that ends with it.
func rank(s string, counts []*big.Int) *big.Int {
	out := new(big.Int)
	for i := range len(s) {
		less := big.NewInt(int64(strings.IndexByte(alphabet, s[i])))
		out.Add(out, less.Mul(less, counts[most-1-i]))
		out.Add(out, big.NewInt(1))
	}
	return out
}

// P5.3, P5.5: the number of the next key is the next one; so it is greater, and there is none between.
func TestNext(t *testing.T) {
	counts := counts()
	greatest := strings.Repeat("z", most)
	for _, s := range keys() {
		next, ok := key.Next(s)
		if s == greatest {
			if next != "" || ok {
				t.Errorf("Next(%q): %q, %t", s, next, ok)
			}
			continue
		}
		want := rank(s, counts)
		want.Add(want, big.NewInt(1))
		if !ok || !isKey(next) || next <= s || rank(next, counts).Cmp(want) != 0 {
			t.Errorf("Next(%q): %q, %t", s, next, ok)
		}
	}
}

// P5.3: chains of successors, in which the characters at the end come to all their values; each key is met once.
func TestNextAgainAndAgain(t *testing.T) {
	counts := counts()
	for _, s := range []string{"-", "a", "z", strings.Repeat("-", 30), strings.Repeat("a", 29) + "9z", strings.Repeat("-", most), strings.Repeat("m", 30) + "8", "0" + strings.Repeat("z", 31), "_" + strings.Repeat("z", 29) + "y"} {
		first := rank(s, counts)
		at := s
		for i := int64(1); i <= 5000; i++ {
			next, ok := key.Next(at)
			if !ok || !isKey(next) {
				t.Fatalf("Next(%q): %q, %t", at, next, ok)
			}
			if got := rank(next, counts); got.Sub(got, first).Cmp(big.NewInt(i)) != 0 {
				t.Fatalf("Next(%q): %q", at, next)
			}
			if next <= at {
				t.Fatalf("Next(%q): %q", at, next)
			}
			at = next
		}
	}
}

// P5.3: the last keys of all, up to the greatest one, which has none behind it.
func TestNextAtTheEnd(t *testing.T) {
	s := strings.Repeat("z", most-1) + "-"
	for i := 1; i < len(alphabet); i++ {
		next, ok := key.Next(s)
		if want := strings.Repeat("z", most-1) + alphabet[i:i+1]; next != want || !ok {
			t.Fatalf("Next(%q): %q, %t", s, next, ok)
		}
		s = next
	}
	if next, ok := key.Next(s); next != "" || ok {
		t.Errorf("Next(%q): %q, %t", s, next, ok)
	}
}

// P5.3: each length that ends with last characters: they are dropped if nothing can be appended.
func TestNextOfLastCharacters(t *testing.T) {
	for n := 1; n < most; n++ {
		if next, ok := key.Next(strings.Repeat("z", n)); next != strings.Repeat("z", n)+"-" || !ok {
			t.Errorf("Next of %d times z: %q, %t", n, next, ok)
		}
		for i := range len(alphabet) - 1 {
			s := strings.Repeat("a", n-1) + alphabet[i:i+1] + strings.Repeat("z", most-n)
			want := strings.Repeat("a", n-1) + alphabet[i+1:i+2]
			if next, ok := key.Next(s); next != want || !ok {
				t.Errorf("Next(%q): %q, %t", s, next, ok)
			}
		}
	}
}

// P5.3: no string that is no key has a next one, not even one whose first bytes are a key.
func TestNextOfOthers(t *testing.T) {
	for _, s := range others() {
		if next, ok := key.Next(s); next != "" || ok {
			t.Errorf("Next(%.99q): %q, %t", s, next, ok)
		}
	}
	for c := range 256 {
		s := string([]byte{'a', byte(c)})
		if next, ok := key.Next(s); ok != isKey(s) || !ok && next != "" {
			t.Errorf("Next(%q): %q, %t", s, next, ok)
		}
	}
}

// P5.4: all numbers that have names, which are keys.
func TestName(t *testing.T) {
	for n := range 1_000_000 {
		s, err := key.Name(n)
		if err != api.OK || s != "k"+strconv.Itoa(n) {
			t.Fatalf("Name(%d): %q, %d", n, s, err)
		}
		if n%97 == 0 && (!isKey(s) || key.Check(s) != api.OK) {
			t.Fatalf("Name(%d) is no key: %q", n, s)
		}
	}
}

// P5.4, R6: numbers without names.
func TestNameOfOtherNumbers(t *testing.T) {
	for _, n := range []int{math.MinInt, math.MinInt + 1, -1 << 32, -1_000_000, -10, -1, 1_000_000, 1_000_001, 9_999_999, 1<<32 + 5, 1 << 40, math.MaxInt - 1, math.MaxInt} {
		if s, err := key.Name(n); s != "" || err != api.ErrRange {
			t.Errorf("Name(%d): %q, %d", n, s, err)
		}
	}
}

// R8: equal calls return equal results, also at the same time.
func TestDeterminism(t *testing.T) {
	want := outcome()
	got := make([]string, 8)
	var group sync.WaitGroup
	for i := range got {
		group.Go(func() { got[i] = outcome() })
	}
	group.Wait()
	for i, s := range got {
		if s != want {
			t.Errorf("call %d: %s instead of %s", i, s, want)
		}
	}
}

// outcome calls each function with keys and other strings.
func outcome() string {
	var out strings.Builder
	write := func(n int) { out.WriteString(strconv.Itoa(n) + " ") }
	list := slices.Concat(keys()[2000:2100], others())
	for i, s := range list {
		write(int(key.Check(s)))
		write(int(key.Fits(s, i%40)))
		write(key.Order(s, list[i/2]))
		write(key.Common(s, list[i/2]))
		next, ok := key.Next(s)
		out.WriteString(next + strconv.FormatBool(ok))
		name, err := key.Name(i * 12_345)
		out.WriteString(name)
		write(int(err))
	}
	return out.String()
}

// The examples of the chapter.
func TestExamples(t *testing.T) {
	a32, z32 := strings.Repeat("a", 32), strings.Repeat("z", 32)
	for s, want := range map[string]api.Errno{"a.b-c_9": api.OK, "": api.ErrArg, "A": api.ErrArg, "a b": api.ErrArg, a32 + "a": api.ErrLarge, a32 + "A": api.ErrArg} {
		if err := key.Check(s); err != want {
			t.Errorf("Check(%q): %d instead of %d", s, err, want)
		}
	}
	for _, x := range []struct {
		s    string
		most int
		want api.Errno
	}{{"abc", 3, api.OK}, {"abc", 2, api.ErrLarge}, {"abc", 0, api.ErrArg}, {"", 2, api.ErrArg}} {
		if err := key.Fits(x.s, x.most); err != x.want {
			t.Errorf("Fits(%q, %d): %d instead of %d", x.s, x.most, err, x.want)
		}
	}
	for _, x := range []struct {
		a, b string
		want int
	}{{"a", "a-", -1}, {"k10", "k9", -1}, {"_", "9", 1}} {
		if got := key.Order(x.a, x.b); got != x.want {
			t.Errorf("Order(%q, %q): %d instead of %d", x.a, x.b, got, x.want)
		}
	}
	if key.Common("k10", "k12") != 2 || key.Common("", "a") != 0 {
		t.Errorf("Common: %d, %d", key.Common("k10", "k12"), key.Common("", "a"))
	}
	for s, want := range map[string]string{"a": "a-", a32: a32[:31] + "b", a32[:31] + "z": a32[:30] + "b", z32: ""} {
		if next, ok := key.Next(s); next != want || ok != (want != "") {
			t.Errorf("Next(%q): %q, %t", s, next, ok)
		}
	}
	for n, want := range map[int]string{0: "k0", 999_999: "k999999", 1_000_000: ""} {
		if s, err := key.Name(n); s != want || (err == api.OK) != (want != "") || err != api.OK && err != api.ErrRange {
			t.Errorf("Name(%d): %q, %d", n, s, err)
		}
	}
}

// P1: no call panics, and the results are those of the chapter, whatever the arguments are.
func FuzzNoPanic(f *testing.F) {
	list := append(others()[:80], "a", "k9", "a.b-c_9", strings.Repeat("a", most), strings.Repeat("z", most), strings.Repeat("a", most-1)+"z")
	for i, s := range list {
		for _, n := range []int{math.MinInt, -1, 0, 1, most, most + 1, 999_999, 1_000_000, math.MaxInt} {
			f.Add(s, list[(i*7+1)%len(list)], n)
		}
	}
	counts := counts()
	f.Fuzz(func(t *testing.T, a, b string, n int) {
		expectPair(t, a, b)
		if err := key.Check(a); err != check(a) {
			t.Errorf("Check(%q): %d", a, err)
		}
		fits := key.Fits(a, n)
		if (fits == api.OK) != (n >= 1 && n <= most && isKey(a) && len(a) <= n) {
			t.Errorf("Fits(%q, %d): %d", a, n, fits)
		}
		next, ok := key.Next(a)
		if ok != (isKey(a) && a != strings.Repeat("z", most)) || !ok && next != "" {
			t.Errorf("Next(%q): %q, %t", a, next, ok)
		} else if ok && new(big.Int).Sub(rank(next, counts), rank(a, counts)).Cmp(big.NewInt(1)) != 0 {
			t.Errorf("Next(%q): %q", a, next)
		}
		if s, err := key.Name(n); (err == api.OK) != (n >= 0 && n < 1_000_000) || err != api.OK && s != "" {
			t.Errorf("Name(%d): %q, %d", n, s, err)
		}
	})
}
