// Package codec is layer 1: fixed-width integers, hexadecimal and decimal strings. See shared/doc/01-codec.md.
package codec

import (
	"math"
	"strconv"

	"drumlin/api"
)

// widths are the numbers of bytes in which an integer can be encoded.
var widths = [4]int{1, 2, 4, 8}

const hexDigits = "0123456789abcdef"

// Append returns b followed by n in width bytes, little-endian.
func Append(b []byte, n uint64, width int) ([]byte, api.Errno) {
	if !isWidth(width) {
		return nil, api.ErrArg
	}
	if !Fits(n, width) {
		return nil, api.ErrOver
	}
	// The built-in append might write behind the length of b, into memory that is the caller's.
	out := make([]byte, len(b)+width)
	copy(out, b)
	for i := range width {
		out[len(b)+i] = byte(n >> (8 * i))
	}
	return out, api.OK
}

// Uint decodes the little-endian integer of width bytes at an offset.
func Uint(b []byte, at, width int) (uint64, api.Errno) {
	if !isWidth(width) {
		return 0, api.ErrArg
	}
	if at < 0 {
		return 0, api.ErrRange
	}
	// The sum at + width might overflow; this difference cannot.
	if at > len(b)-width {
		return 0, api.ErrTorn
	}
	n := uint64(0)
	for i := range width {
		n |= uint64(b[at+i]) << (8 * i)
	}
	return n, api.OK
}

// Fits reports whether n can be encoded in width bytes.
func Fits(n uint64, width int) bool {
	// A shift by all 64 bits leaves 0, so that every number fits in 8 bytes.
	return isWidth(width) && n>>(8*width) == 0
}

func isWidth(width int) bool {
	for _, w := range widths {
		if w == width {
			return true
		}
	}
	return false
}

// Hex returns the hexadecimal digits of b.
func Hex(b []byte) string {
	out := make([]byte, 0, 2*len(b))
	for _, c := range b {
		out = append(out, hexDigits[c>>4], hexDigits[c&15])
	}
	return string(out)
}

// ParseHex decodes hexadecimal digits.
func ParseHex(s string) ([]byte, api.Errno) {
	if len(s)%2 != 0 {
		return nil, api.ErrForm
	}
	out := make([]byte, len(s)/2)
	for i := range out {
		high, okHigh := hexValue(s[2*i])
		low, okLow := hexValue(s[2*i+1])
		if !okHigh || !okLow {
			return nil, api.ErrForm
		}
		out[i] = high<<4 | low
	}
	return out, api.OK
}

// hexValue takes no capital letters: a byte has only one pair of digits.
func hexValue(c byte) (byte, bool) {
	switch {
	case '0' <= c && c <= '9':
		return c - '0', true
	case 'a' <= c && c <= 'f':
		return c - 'a' + 10, true
	}
	return 0, false
}

// Digits returns the decimal digits of n.
func Digits(n uint64) string {
	return strconv.FormatUint(n, 10)
}

// ParseDigits decodes decimal digits.
func ParseDigits(s string) (uint64, api.Errno) {
	// The whole string comes first: a wrong byte behind too many digits is still ErrForm.
	if !isDecimal(s) {
		return 0, api.ErrForm
	}
	n := uint64(0)
	for i := range len(s) {
		digit := uint64(s[i] - '0')
		if n > (math.MaxUint64-digit)/10 {
			return 0, api.ErrOver
		}
		n = 10*n + digit
	}
	return n, api.OK
}

func isDecimal(s string) bool {
	if s == "" || len(s) > 1 && s[0] == '0' {
		return false
	}
	for i := range len(s) {
		if s[i] < '0' || s[i] > '9' {
			return false
		}
	}
	return true
}
