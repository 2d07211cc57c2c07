package value_test

import (
	"bytes"
	"encoding/hex"
	"fmt"
	"math"
	"slices"
	"strconv"
	"strings"
	"sync"
	"testing"
	"unsafe"

	"drumlin/api"
	"drumlin/value"
)

// The signatures of the chapter: a change of one of them does not compile.
var (
	_ func(string, int) api.Errno           = value.Check
	_ func(string) (string, api.Errno)      = value.Text
	_ func(string) (string, api.Errno)      = value.Parse
	_ func(string, int) (string, api.Errno) = value.Repeat
	_ func(string) string                   = value.Short
)

// most is written out, so that another limit would be noticed.
const most = 512

const digits = "0123456789abcdef"

// form is the definition of the string form.
func form(s string) string {
	if s == "" {
		return "-"
	}
	return hex.EncodeToString([]byte(s))
}

// text is the reference of Text.
func text(s string) (string, api.Errno) {
	if len(s) > most {
		return "", api.ErrLarge
	}
	return form(s), api.OK
}

// isForm reports whether s looks like a string form, of however many bytes.
func isForm(s string) bool {
	return s == "-" || len(s) >= 2 && len(s)%2 == 0 && strings.Trim(s, digits) == ""
}

// parse is the reference of Parse.
func parse(s string) (string, api.Errno) {
	switch {
	case !isForm(s):
		return "", api.ErrForm
	case s == "-":
		return "", api.OK
	case len(s) > 2*most:
		return "", api.ErrLarge
	}
	b := make([]byte, len(s)/2)
	for i := range b {
		n, _ := strconv.ParseUint(s[2*i:2*i+2], 16, 8)
		b[i] = byte(n)
	}
	return string(b), api.OK
}

// repeat is the reference of Repeat.
func repeat(pattern string, n int) (string, api.Errno) {
	switch {
	case n < 0 || pattern == "" && n != 0:
		return "", api.ErrArg
	case n > most:
		return "", api.ErrLarge
	}
	out := ""
	for len(out) < n {
		out += pattern
	}
	return out[:n], api.OK
}

// short is the reference of Short.
func short(s string) string {
	if len(s) <= 8 {
		return fmt.Sprintf("%d:%x", len(s), s)
	}
	return fmt.Sprintf("%d:%x..", len(s), s[:8])
}

func expectText(t *testing.T, s string) {
	t.Helper()
	got, err := value.Text(s)
	if want, wantErr := text(s); got != want || err != wantErr {
		t.Errorf("Text(%.99q) of %d bytes: %.99q, %d instead of %.99q, %d", s, len(s), got, err, want, wantErr)
	}
}

func expectParse(t *testing.T, s string) {
	t.Helper()
	got, err := value.Parse(s)
	if want, wantErr := parse(s); got != want || err != wantErr {
		t.Errorf("Parse(%.99q) of %d bytes: %.99q, %d instead of %.99q, %d", s, len(s), got, err, want, wantErr)
	}
}

func expectRepeat(t *testing.T, pattern string, n int) {
	t.Helper()
	got, err := value.Repeat(pattern, n)
	if want, wantErr := repeat(pattern, n); got != want || err != wantErr {
		t.Errorf("Repeat(%.99q, %d): %.99q, %d instead of %.99q, %d", pattern, n, got, err, want, wantErr)
	}
}

func expectShort(t *testing.T, s string) {
	t.Helper()
	if got, want := value.Short(s), short(s); got != want {
		t.Errorf("Short(%.99q) of %d bytes: %.99q instead of %q", s, len(s), got, want)
	}
}

// source is a source of numbers that look random, the same each time.
type source uint64

func (s *source) below(n int) int {
	*s = *s*6364136223846793005 + 1442695040888963407
	return int(uint64(*s>>33) % uint64(n))
}

// bytes returns a string of n bytes of all kinds.
func (s *source) bytes(n int) string {
	b := make([]byte, n)
	for i := range b {
		b[i] = byte(s.below(256))
	}
	return string(b)
}

// values has values of all lengths: of equal bytes, and of different ones.
func values() []string {
	out := []string{"", "-", "--", "ab", "\x00", "\x00\xff", "é", "\u20ac", "\xe2\x82", "6162", "\n", "00"}
	s := source(1)
	for n := 1; n <= most; n++ {
		for _, c := range []string{"\x00", "a", "\xff"} {
			out = append(out, strings.Repeat(c, n))
		}
		out = append(out, s.bytes(n), s.bytes(n))
	}
	return out
}

// tooLong has strings that are longer than a value.
func tooLong() []string {
	s := source(2)
	var out []string
	for _, n := range []int{most + 1, most + 2, 600, 768, 2*most - 1, 2 * most, 2*most + 1, 1 << 16, 1<<16 + 2, 1<<16 + most, 1 << 20} {
		out = append(out, s.bytes(n), strings.Repeat("a", n), strings.Repeat("\x00", n))
	}
	return out
}

// P6.1: strings of all lengths up to some beyond MaxValue, each with the greatest number of bytes from below its least value to above its greatest one.
func TestCheck(t *testing.T) {
	for length := range most + 4 {
		s := strings.Repeat("\xff", length)
		for n := -3; n <= most+3; n++ {
			want := api.OK
			if n < 0 || n > most {
				want = api.ErrArg
			} else if length > n {
				want = api.ErrLarge
			}
			if err := value.Check(s, n); err != want {
				t.Errorf("Check of %d bytes, %d: %d instead of %d", length, n, err, want)
			}
		}
	}
}

// P6.1: long strings, and bytes of all kinds, are counted in bytes.
func TestCheckOfOtherStrings(t *testing.T) {
	for _, s := range tooLong() {
		for _, n := range []int{0, 1, most - 1, most} {
			if err := value.Check(s, n); err != api.ErrLarge {
				t.Errorf("Check of %d bytes, %d: %d", len(s), n, err)
			}
		}
		if err := value.Check(s, most+1); err != api.ErrArg {
			t.Errorf("Check of %d bytes, %d: %d", len(s), most+1, err)
		}
	}
	for _, s := range values() {
		if err := value.Check(s, most); err != api.OK {
			t.Errorf("Check(%.99q, %d): %d", s, most, err)
		}
		if err := value.Check(s, len(s)); err != api.OK {
			t.Errorf("Check(%.99q, %d): %d", s, len(s), err)
		}
	}
	if err := value.Check("\u20ac", 2); err != api.ErrLarge {
		t.Errorf("Check of one character of three bytes, 2: %d", err)
	}
}

// P6.1, R5: far numbers of bytes are ErrArg, ahead of ErrLarge.
func TestCheckOfFarNumbers(t *testing.T) {
	for _, s := range []string{"", "a", strings.Repeat("a", most), strings.Repeat("a", most+1)} {
		for _, n := range []int{math.MinInt, math.MinInt + 1, -1 << 32, -most, -1, most + 1, 1 << 10, 1 << 16, 1<<16 + 1, 1 << 32, 1<<32 + 1, 1<<32 + most, math.MaxInt - 1, math.MaxInt} {
			if err := value.Check(s, n); err != api.ErrArg {
				t.Errorf("Check of %d bytes, %d: %d", len(s), n, err)
			}
		}
	}
}

// P6.2: values of all lengths, and strings that are longer.
func TestText(t *testing.T) {
	for _, s := range slices.Concat(values(), tooLong()) {
		expectText(t, s)
	}
}

// P6.2: each byte and each pair of bytes.
func TestTextOfBytes(t *testing.T) {
	for c := range 256 {
		want := digits[c/16:c/16+1] + digits[c%16:c%16+1]
		if got, err := value.Text(string([]byte{byte(c)})); got != want || err != api.OK {
			t.Errorf("Text of the byte %d: %q, %d instead of %q", c, got, err, want)
		}
		for d := range 256 {
			expectText(t, string([]byte{byte(c), byte(d)}))
		}
	}
}

// P6.2: each byte at each place of the longest value.
func TestTextOfEachPlace(t *testing.T) {
	for place := range most {
		b := bytes.Repeat([]byte{'a'}, most)
		for c := range 256 {
			b[place] = byte(c)
			expectText(t, string(b))
		}
	}
}

// P6.2: all strings of one and two bytes, and many of three and four, of which only those of digits are decoded.
func TestParseOfShortStrings(t *testing.T) {
	expectParse(t, "")
	for c := range 256 {
		expectParse(t, string([]byte{byte(c)}))
		for d := range 256 {
			s := string([]byte{byte(c), byte(d)})
			expectParse(t, s)
			expectParse(t, s+"0")
			expectParse(t, s+"6a")
			expectParse(t, "6a"+s)
			expectParse(t, "-"+s)
			expectParse(t, s+"-")
		}
	}
}

// P6.2: string forms of all lengths, also of more bytes than a value has, and those that are too long or too short by one digit.
func TestParse(t *testing.T) {
	for _, s := range slices.Concat(values(), tooLong()) {
		expectParse(t, s)
		f := form(s)
		expectParse(t, f)
		expectParse(t, f+"0")
		expectParse(t, f[1:])
		expectParse(t, f[:len(f)-1])
		expectParse(t, strings.ToUpper(f))
		expectParse(t, f+"-")
		expectParse(t, "-"+f)
		expectParse(t, f+f)
	}
}

// P6.2: each byte at each place, in string forms around the longest one: ErrForm comes before ErrLarge.
func TestParseOfEachPlace(t *testing.T) {
	for _, n := range []int{2, 3, 4, 8, 9, 2*most - 1, 2 * most, 2*most + 1, 2*most + 2, 2*most + 4} {
		places := []int{0, 1, 2, 3, 4, 5, 6, 7, n / 2, n/2 + 1, 2*most - 2, 2*most - 1, 2 * most, 2*most + 1, n - 3, n - 2, n - 1}
		for _, place := range places {
			if place < 0 || place >= n {
				continue
			}
			for c := range 256 {
				b := bytes.Repeat([]byte{'7'}, n)
				b[place] = byte(c)
				expectParse(t, string(b))
			}
		}
	}
}

// P6.2: the lengths around those at which the error changes.
func TestParseOfLengths(t *testing.T) {
	for n, want := range map[int]api.Errno{0: api.ErrForm, 1: api.ErrForm, 2: api.OK, 3: api.ErrForm, 4: api.OK, 1022: api.OK, 1023: api.ErrForm, 1024: api.OK, 1025: api.ErrForm, 1026: api.ErrLarge, 1027: api.ErrForm, 1028: api.ErrLarge, 1 << 16: api.ErrLarge, 1<<16 + 1: api.ErrForm, 1 << 20: api.ErrLarge} {
		s, err := value.Parse(strings.Repeat("6", n))
		if err != want || err == api.OK && s != strings.Repeat("f", n/2) || err != api.OK && s != "" {
			t.Errorf("Parse of %d digits: %.99q, %d instead of %d", n, s, err, want)
		}
		if s, err := value.Parse(strings.Repeat("6", n) + "G"); s != "" || err != api.ErrForm {
			t.Errorf("Parse of %d digits and G: %.99q, %d", n, s, err)
		}
	}
}

// P6.2: what numbers may have in other languages is no string form, nor are digits of other alphabets.
func TestParseOfOtherNumbers(t *testing.T) {
	for _, s := range []string{" ", " 6162", "6162 ", "61 62", "61\n", "0x61", "0X61", "+61", "-61", "6_12", "6.12", "\x00\x00", "61\x00\x00", "--", "---", "- ", " -", "—", "–", "－", "é", "\u0663\u0663", "\uff16\uff11", "6A", "a6B1", "AB", "gg", "6g", "g6", "6/", "6:", "6`", "6@", "\xb6\xb1"} {
		if got, err := value.Parse(s); got != "" || err != api.ErrForm {
			t.Errorf("Parse(%q): %q, %d", s, got, err)
		}
	}
}

// patterns has patterns of few bytes, of as many as a value has, and of more.
func patterns() []string {
	out := []string{"", "\x00", "-", "é", "\u20ac", "\xff"}
	s := source(3)
	for n := 1; n <= 40; n++ {
		out = append(out, s.bytes(n))
	}
	for _, n := range []int{64, 127, 128, 255, 256, 257, most - 1, most, most + 1, 2*most - 1, 2 * most, 1 << 16} {
		out = append(out, s.bytes(n))
	}
	return append(out, strings.Repeat("a", most+1), strings.Repeat("ab", 3))
}

// P6.3: patterns of all kinds, with each number of bytes from below the least to above the greatest one.
func TestRepeat(t *testing.T) {
	for _, pattern := range patterns() {
		for n := -3; n <= most+3; n++ {
			expectRepeat(t, pattern, n)
		}
	}
}

// P6.3, R5: far numbers of bytes; for the empty pattern, ErrArg comes before ErrLarge.
func TestRepeatOfFarNumbers(t *testing.T) {
	for _, pattern := range []string{"", "a", "abc", strings.Repeat("a", most), strings.Repeat("a", 1<<16)} {
		for _, n := range []int{math.MinInt, math.MinInt + 1, -1 << 32, -most, -1, most + 1, 1 << 10, 1 << 16, 1<<16 + 1, 1 << 32, 1<<32 + 1, 1<<32 + most, math.MaxInt - 1, math.MaxInt} {
			want := api.ErrLarge
			if n < 0 || pattern == "" {
				want = api.ErrArg
			}
			if s, err := value.Repeat(pattern, n); s != "" || err != want {
				t.Errorf("Repeat of %d bytes, %d: %.99q, %d instead of %d", len(pattern), n, s, err, want)
			}
		}
	}
}

// P6.7: each byte is the one that is as many places before it as the pattern has bytes, and the first ones are those of the pattern.
func TestRepeated(t *testing.T) {
	for _, pattern := range patterns()[1:] {
		for n := range most + 1 {
			s, err := value.Repeat(pattern, n)
			if err != api.OK || len(s) != n {
				t.Fatalf("Repeat(%.99q, %d): %d bytes, %d", pattern, n, len(s), err)
			}
			for i := range n {
				if i < len(pattern) && s[i] != pattern[i] || i >= len(pattern) && s[i] != s[i-len(pattern)] {
					t.Fatalf("Repeat(%.99q, %d): %.99q at %d", pattern, n, s, i)
				}
			}
		}
	}
}

// P6.4: all strings, also those that are longer than a value.
func TestShort(t *testing.T) {
	for _, s := range slices.Concat(values(), tooLong()) {
		expectShort(t, s)
	}
}

// P6.4: each byte at each of the first places: those behind the first eight do not show.
func TestShortOfEachPlace(t *testing.T) {
	for n := range 20 {
		for place := range n {
			for c := range 256 {
				b := bytes.Repeat([]byte{'a'}, n)
				b[place] = byte(c)
				expectShort(t, string(b))
			}
		}
	}
}

// P6.4: the lengths at which the form changes, written out.
func TestShortOfLengths(t *testing.T) {
	for n, want := range map[int]string{0: "0:", 1: "1:7a", 7: "7:7a7a7a7a7a7a7a", 8: "8:7a7a7a7a7a7a7a7a", 9: "9:7a7a7a7a7a7a7a7a..", 10: "10:7a7a7a7a7a7a7a7a..", 100: "100:7a7a7a7a7a7a7a7a..", 512: "512:7a7a7a7a7a7a7a7a..", 513: "513:7a7a7a7a7a7a7a7a..", 100_000: "100000:7a7a7a7a7a7a7a7a.."} {
		if got := value.Short(strings.Repeat("z", n)); got != want {
			t.Errorf("Short of %d bytes: %q instead of %q", n, got, want)
		}
	}
}

// P6.5: each value comes back from its string form, and no other value has that one.
func TestBack(t *testing.T) {
	of := map[string]string{}
	for _, s := range values() {
		f, err := value.Text(s)
		if err != api.OK {
			t.Fatalf("Text(%.99q): %d", s, err)
		}
		if other, found := of[f]; found && other != s {
			t.Errorf("%.99q and %.99q have the string form %.99q", other, s, f)
		}
		of[f] = s
		if back, err := value.Parse(f); back != s || err != api.OK {
			t.Errorf("Parse(%.99q): %.99q, %d instead of %.99q", f, back, err, s)
		}
	}
}

// P6.5: what is decoded has the string form that was decoded: all strings of two bytes, and long ones of digits and others.
func TestForth(t *testing.T) {
	expect := func(s string) bool {
		got, err := value.Parse(s)
		if err != api.OK {
			return false
		}
		if f, err := value.Text(got); f != s || err != api.OK {
			t.Errorf("Text of Parse(%.99q): %.99q, %d", s, f, err)
		}
		return true
	}
	decoded := 0
	for c := range 256 {
		for d := range 256 {
			if expect(string([]byte{byte(c), byte(d)})) {
				decoded++
			}
		}
	}
	if decoded != 256 {
		t.Errorf("%d strings of two bytes are decoded", decoded)
	}
	if !expect("-") {
		t.Error("- is not decoded")
	}
	s := source(4)
	for range 3000 {
		b := make([]byte, 2*(1+s.below(most)))
		for i := range b {
			b[i] = digits[s.below(len(digits))]
		}
		if !expect(string(b)) {
			t.Errorf("%.99q is not decoded", b)
		}
		b[s.below(len(b))] = "ABCDEFGg-/:`@ x\x00"[s.below(16)]
		if expect(string(b)) {
			t.Errorf("%.99q is decoded", b)
		}
	}
}

// P6.6: the parts of a value, wherever it is divided; also those of a value of the greatest length, and of what is longer than a value.
func TestParts(t *testing.T) {
	s := source(5)
	for _, n := range []int{2, 3, 4, 9, 100, 511, 512} {
		whole := s.bytes(n)
		want, err := value.Text(whole)
		if err != api.OK {
			t.Fatalf("Text(%.99q): %d", whole, err)
		}
		for at := 1; at < n; at++ {
			first, err1 := value.Text(whole[:at])
			second, err2 := value.Text(whole[at:])
			if first+second != want || err1 != api.OK || err2 != api.OK {
				t.Errorf("%d bytes, divided at %d: %d, %d", n, at, err1, err2)
			}
			if back, err := value.Parse(first + second); back != whole || err != api.OK {
				t.Errorf("%d bytes, divided at %d: Parse: %.99q, %d", n, at, back, err)
			}
		}
	}
	half := s.bytes(256)
	first, _ := value.Text(half)
	if got, err := value.Parse(first + first + "00"); got != "" || err != api.ErrLarge {
		t.Errorf("Parse of three string forms: %.99q, %d", got, err)
	}
}

// R4: no result changes when the memory changes from which the argument was made.
func TestMemory(t *testing.T) {
	for name, call := range map[string]func(string) string{
		"Text":   func(s string) string { out, _ := value.Text(s); return out },
		"Parse":  func(s string) string { out, _ := value.Parse(s); return out },
		"Repeat": func(s string) string { out, _ := value.Repeat(s, 6); return out },
		"Cut":    func(s string) string { out, _ := value.Repeat(s, 3); return out },
		"Short":  value.Short,
	} {
		for _, s := range []string{"61", "616263", "abcdef", "0123456789"} {
			b := []byte(s)
			got := call(unsafe.String(&b[0], len(b)))
			if string(b) != s {
				t.Errorf("%s has changed %q to %q", name, s, b)
			}
			want := strings.Clone(got)
			for i := range b {
				b[i] = '!'
			}
			if got != want {
				t.Errorf("%s of %q: %q has become %q", name, s, want, got)
			}
		}
	}
}

// R8: equal calls return equal results, also at the same time.
func TestDeterminism(t *testing.T) {
	want := outcome()
	got := make([]string, 8)
	var group sync.WaitGroup
	for i := range got {
		group.Go(func() { got[i] = outcome() })
	}
	group.Wait()
	for i, s := range got {
		if s != want {
			t.Errorf("call %d: %.999s instead of %.999s", i, s, want)
		}
	}
}

// outcome calls each function with values and other strings.
func outcome() string {
	var out strings.Builder
	for i, s := range slices.Concat(values()[:200], tooLong()[:6]) {
		fmt.Fprintln(&out, value.Check(s, i), value.Short(s))
		f, err := value.Text(s)
		fmt.Fprintln(&out, f, err)
		back, err := value.Parse(f)
		fmt.Fprintln(&out, back, err)
		again, err := value.Repeat(s, 3*i)
		fmt.Fprintln(&out, again, err)
	}
	return out.String()
}

// The examples of the chapter.
func TestExamples(t *testing.T) {
	for s, want := range map[string]string{"": "-", "ab": "6162", "\x00\xff": "00ff"} {
		if got, err := value.Text(s); got != want || err != api.OK {
			t.Errorf("Text(%q): %q, %d instead of %q", s, got, err, want)
		}
	}
	for s, want := range map[string]string{"-": "", "6162": "ab"} {
		if got, err := value.Parse(s); got != want || err != api.OK {
			t.Errorf("Parse(%q): %q, %d instead of %q", s, got, err, want)
		}
	}
	for _, s := range []string{"", "6", "6A", "--"} {
		if got, err := value.Parse(s); got != "" || err != api.ErrForm {
			t.Errorf("Parse(%q): %q, %d", s, got, err)
		}
	}
	for _, x := range []struct {
		pattern string
		n       int
		want    string
		err     api.Errno
	}{{"abc", 7, "abcabca", api.OK}, {"abc", 0, "", api.OK}, {"", 0, "", api.OK}, {"", 1, "", api.ErrArg}, {"a", 513, "", api.ErrLarge}, {"a", -1, "", api.ErrArg}} {
		if got, err := value.Repeat(x.pattern, x.n); got != x.want || err != x.err {
			t.Errorf("Repeat(%q, %d): %q, %d instead of %q, %d", x.pattern, x.n, got, err, x.want, x.err)
		}
	}
	for n, want := range map[int]api.Errno{2: api.OK, 1: api.ErrLarge, 513: api.ErrArg, -1: api.ErrArg} {
		if err := value.Check("ab", n); err != want {
			t.Errorf("Check(ab, %d): %d instead of %d", n, err, want)
		}
	}
	for s, want := range map[string]string{"": "0:", "ab": "2:6162", "aaaaaaaaa": "9:6161616161616161.."} {
		if got := value.Short(s); got != want {
			t.Errorf("Short(%q): %q instead of %q", s, got, want)
		}
	}
}

// P1: no call panics, and the results are those of the chapter, whatever the arguments are.
func FuzzNoPanic(f *testing.F) {
	for _, s := range []string{"", "-", "--", "6", "61", "6A", "6162", "ab", "abc", "\x00\xff", "é", "\xff", strings.Repeat("61", most), strings.Repeat("61", most+1), strings.Repeat("a", most), strings.Repeat("g", most+1), strings.Repeat("a", 2*most+1)} {
		for _, n := range []int{math.MinInt, -1, 0, 1, 2, 8, 9, most, most + 1, math.MaxInt} {
			f.Add(s, n)
		}
	}
	f.Fuzz(func(t *testing.T, s string, n int) {
		expectText(t, s)
		expectParse(t, s)
		expectParse(t, form(s))
		expectRepeat(t, s, n)
		expectShort(t, s)
		check := value.Check(s, n)
		if (check == api.OK) != (n >= 0 && n <= most && len(s) <= n) || (check == api.ErrArg) != (n < 0 || n > most) {
			t.Errorf("Check(%q, %d): %d", s, n, check)
		}
	})
}
