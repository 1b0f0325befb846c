// Package codec is layer 1: fixed-width integers, hexadecimal and decimal strings. See shared/doc/01-codec.md.
package codec

import (
	"strconv"

	"drumlin/api"
)

var widths = [4]int{1, 2, 4, 8}

const hexDigits = "0123456789abcdef"

// Append returns b followed by n in width bytes, little-endian.
func Append(b []byte, n uint64, width int) ([]byte, api.Errno) {
	if !isWidth(width) {
		return nil, api.ErrArg
	}
	if !Fits(n, width) {
		return nil, api.ErrOver
	}
	// A new array: appending to b itself could write behind its length.
	r := make([]byte, 0, len(b)+width)
	r = append(r, b...)
	for i := range width {
		r = append(r, byte(n>>(8*i)))
	}
	return r, api.OK
}

// Uint decodes the little-endian integer of width bytes at an offset.
func Uint(b []byte, at, width int) (uint64, api.Errno) {
	if !isWidth(width) {
		return 0, api.ErrArg
	}
	if at < 0 {
		return 0, api.ErrRange
	}
	// Not at+width > len(b), because that sum may overflow.
	if at > len(b)-width {
		return 0, api.ErrTorn
	}
	var n uint64
	for i := range width {
		n |= uint64(b[at+i]) << (8 * i)
	}
	return n, api.OK
}

// Fits reports whether n can be encoded in width bytes.
func Fits(n uint64, width int) bool {
	// Each number fits in 8 bytes: a shift by all 64 bits leaves 0.
	return isWidth(width) && n>>(8*width) == 0
}

func isWidth(n int) bool {
	for _, w := range widths {
		if n == w {
			return true
		}
	}
	return false
}

// Hex returns the hexadecimal digits of b.
func Hex(b []byte) string {
	r := make([]byte, 0, 2*len(b))
	for _, c := range b {
		r = append(r, hexDigits[c>>4], hexDigits[c&15])
	}
	return string(r)
}

// ParseHex decodes hexadecimal digits.
func ParseHex(s string) ([]byte, api.Errno) {
	if len(s)%2 != 0 {
		return nil, api.ErrForm
	}
	r := make([]byte, 0, len(s)/2)
	for i := range len(s) / 2 {
		high, ok := hexValue(s[2*i])
		if !ok {
			return nil, api.ErrForm
		}
		low, ok := hexValue(s[2*i+1])
		if !ok {
			return nil, api.ErrForm
		}
		r = append(r, high<<4|low)
	}
	return r, api.OK
}

func hexValue(c byte) (byte, bool) {
	switch {
	case '0' <= c && c <= '9':
		return c - '0', true
	case 'a' <= c && c <= 'f':
		return c - 'a' + 10, true
	}
	return 0, false
}

// Digits returns the decimal digits of n.
func Digits(n uint64) string {
	return strconv.FormatUint(n, 10)
}

// ParseDigits decodes decimal digits.
func ParseDigits(s string) (uint64, api.Errno) {
	// strconv accepts zeros ahead, and stops at the digit that is too much, before it has seen all of s.
	if !isDecimal(s) {
		return 0, api.ErrForm
	}
	n, err := strconv.ParseUint(s, 10, 64)
	if err != nil {
		return 0, api.ErrOver
	}
	return n, api.OK
}

func isDecimal(s string) bool {
	if s == "" || s[0] == '0' && len(s) > 1 {
		return false
	}
	for i := range len(s) {
		if s[i] < '0' || s[i] > '9' {
			return false
		}
	}
	return true
}
