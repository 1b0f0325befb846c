package codec_test

import (
	"bytes"
	"math"
	"slices"
	"strings"
	"testing"

	"drumlin/api"
	"drumlin/codec"
)

var goodWidths = []int{1, 2, 4, 8}

// Some of these are widths again if they are cut to 8 or 32 bits.
var badWidths = []int{math.MinInt, math.MinInt + 1, -8, -1, 0, 3, 5, 6, 7, 9, 16, 32, 64, 257, 1<<32 + 1, math.MaxInt}

// numbers returns the numbers at all powers of 256, and some others.
func numbers() []uint64 {
	l := []uint64{0, 1, 2, 513, 0x0102030405060708, math.MaxInt64, 1 << 63, math.MaxUint64 - 1, math.MaxUint64}
	for i := 1; i < 8; i++ {
		p := uint64(1) << (8 * i)
		l = append(l, p-1, p, p+1)
	}
	n := uint64(1)
	for range 200 {
		n = n*6364136223846793005 + 1442695040888963407
		l = append(l, n, n>>17, n>>40, n>>57)
	}
	return l
}

// greatest returns the greatest number that fits in a width.
func greatest(width int) uint64 {
	return map[int]uint64{1: 0xff, 2: 0xffff, 4: 0xffffffff, 8: 0xffffffffffffffff}[width]
}

// P1.1

func TestAppendExamples(t *testing.T) {
	for _, x := range []struct {
		b     []byte
		n     uint64
		width int
		want  []byte
		e     api.Errno
	}{
		{[]byte{7}, 513, 2, []byte{7, 1, 2}, api.OK},
		{nil, 256, 1, nil, api.ErrOver},
		{nil, 0, 3, nil, api.ErrArg},
		{nil, 0, 8, []byte{0, 0, 0, 0, 0, 0, 0, 0}, api.OK},
		{[]byte{}, 0x04030201, 4, []byte{1, 2, 3, 4}, api.OK},
		{[]byte{9, 0}, 0x0807060504030201, 8, []byte{9, 0, 1, 2, 3, 4, 5, 6, 7, 8}, api.OK},
	} {
		b, e := codec.Append(x.b, x.n, x.width)
		if !bytes.Equal(b, x.want) || e != x.e {
			t.Errorf("Append(%v, %d, %d) = %v, %d", x.b, x.n, x.width, b, e)
		}
	}
}

func TestAppendAndFitsOfAllWidths(t *testing.T) {
	prefix := []byte{3, 1}
	for _, n := range numbers() {
		for _, w := range goodWidths {
			fits := n <= greatest(w)
			if codec.Fits(n, w) != fits {
				t.Errorf("Fits(%d, %d) = %v", n, w, !fits)
			}
			b, e := codec.Append(prefix, n, w)
			if !fits {
				if b != nil || e != api.ErrOver {
					t.Errorf("Append(%d, %d) = %v, %d", n, w, b, e)
				}
				continue
			}
			want := slices.Clone(prefix)
			for i, rest := 0, n; i < w; i, rest = i+1, rest/256 {
				want = append(want, byte(rest%256))
			}
			if !bytes.Equal(b, want) || e != api.OK {
				t.Errorf("Append(%d, %d) = %v, %d", n, w, b, e)
			}
		}
	}
}

func TestAppendAndFitsOfNoWidth(t *testing.T) {
	for _, w := range badWidths {
		for _, n := range []uint64{0, 1, 1 << 40, math.MaxUint64} {
			if b, e := codec.Append([]byte{1}, n, w); b != nil || e != api.ErrArg {
				t.Errorf("Append(%d, %d) = %v, %d", n, w, b, e)
			}
			if codec.Fits(n, w) {
				t.Errorf("Fits(%d, %d)", n, w)
			}
		}
	}
}

// P1.2

func TestUintExamples(t *testing.T) {
	b := []byte{7, 1, 2}
	for _, x := range []struct {
		b         []byte
		at, width int
		n         uint64
		e         api.Errno
	}{
		{b, 1, 2, 513, api.OK},
		{b, 2, 2, 0, api.ErrTorn},
		{b, 2, 1, 2, api.OK},
		{b, 3, 1, 0, api.ErrTorn},
		{[]byte{7}, -1, 1, 0, api.ErrRange},
		{[]byte{7}, 0, 0, 0, api.ErrArg},
		{nil, 0, 1, 0, api.ErrTorn},
		{nil, -1, 1, 0, api.ErrRange},
		{nil, -1, 0, 0, api.ErrArg},
		{[]byte{255, 255, 255, 255}, 0, 4, math.MaxUint32, api.OK},
		{[]byte{255, 255, 255, 255, 255, 255, 255, 255}, 0, 8, math.MaxUint64, api.OK},
		{[]byte{1, 2, 3, 4, 5, 6, 7, 8}, 0, 8, 0x0807060504030201, api.OK},
	} {
		if n, e := codec.Uint(x.b, x.at, x.width); n != x.n || e != x.e {
			t.Errorf("Uint(%v, %d, %d) = %d, %d", x.b, x.at, x.width, n, e)
		}
	}
}

func TestUintAtEachOffset(t *testing.T) {
	b := []byte{0, 1, 254, 255, 128, 127, 7, 8, 9, 200, 11}
	offsets := []int{math.MinInt, math.MinInt + 8, -9, -8, math.MaxInt - 8, math.MaxInt - 7, math.MaxInt - 1, math.MaxInt}
	for at := -2; at <= len(b)+2; at++ {
		offsets = append(offsets, at)
	}
	for _, at := range offsets {
		for _, w := range goodWidths {
			var want uint64
			wantErr := api.OK
			switch {
			case at < 0:
				wantErr = api.ErrRange
			case at > len(b) || len(b)-at < w:
				wantErr = api.ErrTorn
			default:
				for i := w - 1; i >= 0; i-- {
					want = want*256 + uint64(b[at+i])
				}
			}
			if n, e := codec.Uint(b, at, w); n != want || e != wantErr {
				t.Errorf("Uint(%d, %d) = %d, %d", at, w, n, e)
			}
		}
		for _, w := range badWidths {
			if n, e := codec.Uint(b, at, w); n != 0 || e != api.ErrArg {
				t.Errorf("Uint(%d, %d) = %d, %d", at, w, n, e)
			}
		}
	}
}

func TestUintReadsNothingBehindTheLength(t *testing.T) {
	b := []byte{1, 2, 3, 4, 5, 6, 7, 8}[:3]
	if n, e := codec.Uint(b, 0, 4); n != 0 || e != api.ErrTorn {
		t.Error(n, e)
	}
	if n, e := codec.Uint(b, 3, 1); n != 0 || e != api.ErrTorn {
		t.Error(n, e)
	}
}

// P1.3

func TestHexExamples(t *testing.T) {
	for _, x := range []struct {
		b []byte
		s string
	}{
		{nil, ""},
		{[]byte{}, ""},
		{[]byte{0x0f, 0xa0}, "0fa0"},
		{[]byte{0}, "00"},
		{[]byte{0x01, 0x23, 0x45, 0x67, 0x89, 0xab, 0xcd, 0xef}, "0123456789abcdef"},
		{[]byte("\xff\x80ab"), "ff806162"},
	} {
		if s := codec.Hex(x.b); s != x.s {
			t.Errorf("Hex(%v) = %q", x.b, s)
		}
		if b, e := codec.ParseHex(x.s); !bytes.Equal(b, x.b) || e != api.OK {
			t.Errorf("ParseHex(%q) = %v, %d", x.s, b, e)
		}
	}
}

// TestParseHexOfTwoBytes looks at all strings of two bytes.
func TestParseHexOfTwoBytes(t *testing.T) {
	const digits = "0123456789abcdef"
	for i := range 256 {
		for j := range 256 {
			s := string([]byte{byte(i), byte(j)})
			high, low := strings.IndexByte(digits, s[0]), strings.IndexByte(digits, s[1])
			b, e := codec.ParseHex(s)
			if high < 0 || low < 0 {
				if b != nil || e != api.ErrForm {
					t.Errorf("ParseHex(%q) = %v, %d", s, b, e)
				}
			} else if e != api.OK || len(b) != 1 || int(b[0]) != 16*high+low || codec.Hex(b) != s {
				t.Errorf("ParseHex(%q) = %v, %d", s, b, e)
			}
		}
	}
}

func TestParseHexOfNoHexadecimalString(t *testing.T) {
	for _, s := range []string{"0FA0", "0fa", "0g", "a", "0", "aaa", "0000g0", "00000g", "g00000", "0x00", " 0f", "0f ", "0f\n", "0 f0", "-f", "+1", "é", "٠٠", "0f\x00\x00", "00:00"} {
		if b, e := codec.ParseHex(s); b != nil || e != api.ErrForm {
			t.Errorf("ParseHex(%q) = %v, %d", s, b, e)
		}
	}
}

// P1.4

func TestDigitsExamples(t *testing.T) {
	for _, x := range []struct {
		n uint64
		s string
	}{
		{0, "0"},
		{9, "9"},
		{10, "10"},
		{100, "100"},
		{1234567890, "1234567890"},
		{math.MaxInt64, "9223372036854775807"},
		{1 << 63, "9223372036854775808"},
		{10000000000000000000, "10000000000000000000"},
		{math.MaxUint64 - 1, "18446744073709551614"},
		{math.MaxUint64, "18446744073709551615"},
	} {
		if s := codec.Digits(x.n); s != x.s {
			t.Errorf("Digits(%d) = %q", x.n, s)
		}
		if n, e := codec.ParseDigits(x.s); n != x.n || e != api.OK {
			t.Errorf("ParseDigits(%q) = %d, %d", x.s, n, e)
		}
	}
}

func TestParseDigitsOfNoDecimalString(t *testing.T) {
	for _, s := range []string{
		"", "01", "+1", "1 ", "99999999999999999999x",
		"00", "007", "-1", "-0", "+0", " 1", "1\n", "1_0", "0_1", "0x1", "0b1", "1e3", "1.0", "a", "x1", "1x", "/", ":", "1/", "1:", "٣", "１",
		// too great, but no decimal strings either
		"018446744073709551616", "+18446744073709551616", "18446744073709551616 ", "x99999999999999999999",
		"99999999999999999999" + strings.Repeat("0", 1000) + "-",
	} {
		if n, e := codec.ParseDigits(s); n != 0 || e != api.ErrForm {
			t.Errorf("ParseDigits(%q) = %d, %d", s, n, e)
		}
	}
}

// TestParseDigitsOfOneByte looks at each byte alone, and behind and ahead of a digit.
func TestParseDigitsOfOneByte(t *testing.T) {
	for i := range 256 {
		c := string([]byte{byte(i)})
		digit := '0' <= i && i <= '9'
		for _, x := range []struct {
			s    string
			form bool
			n    uint64
		}{{c, digit, uint64(i - '0')}, {"1" + c, digit, uint64(10 + i - '0')}, {c + "1", digit && i != '0', uint64(10*(i-'0') + 1)}} {
			n, e := codec.ParseDigits(x.s)
			if x.form && (n != x.n || e != api.OK) || !x.form && (n != 0 || e != api.ErrForm) {
				t.Errorf("ParseDigits(%q) = %d, %d", x.s, n, e)
			}
		}
	}
}

func TestParseDigitsOfGreatNumbers(t *testing.T) {
	for _, s := range []string{
		"18446744073709551616",
		"18446744073709551620",
		"18446744073709551700",
		"20000000000000000000",
		"99999999999999999999",
		"184467440737095516150",
		// as numbers of 64 bits these would be 0 and 1
		"36893488147419103232",
		"340282366920938463463374607431768211457",
		"1" + strings.Repeat("0", 5000),
	} {
		if n, e := codec.ParseDigits(s); n != 0 || e != api.ErrOver {
			t.Errorf("ParseDigits(%q) = %d, %d", s, n, e)
		}
	}
}

// P1.5

func TestRoundTripOfIntegers(t *testing.T) {
	for _, prefix := range [][]byte{nil, {5}, bytes.Repeat([]byte{255}, 100)} {
		for _, n := range numbers() {
			for _, w := range goodWidths {
				b, e := codec.Append(prefix, n, w)
				if !codec.Fits(n, w) {
					continue
				}
				if got, e2 := codec.Uint(b, len(prefix), w); e != api.OK || e2 != api.OK || got != n || len(b) != len(prefix)+w {
					t.Errorf("%d in %d bytes: %v, %d, %d", n, w, b, got, e2)
				}
			}
		}
	}
}

func TestRoundTripOfDigits(t *testing.T) {
	for _, n := range numbers() {
		s := codec.Digits(n)
		if got, e := codec.ParseDigits(s); got != n || e != api.OK {
			t.Errorf("ParseDigits(%q) = %d, %d", s, got, e)
		}
	}
}

func TestRoundTripOfHex(t *testing.T) {
	var b []byte
	for i := range 1000 {
		b = append(b, byte(i*i>>3))
		s := codec.Hex(b)
		if got, e := codec.ParseHex(s); !bytes.Equal(got, b) || e != api.OK || len(s) != 2*len(b) {
			t.Fatalf("ParseHex(%q) = %v, %d", s, got, e)
		}
	}
}

// FuzzStrings checks that a string is decoded only if it is the one that is encoded.
func FuzzStrings(f *testing.F) {
	for _, s := range []string{"", "0", "00", "01", "10", "0fa0", "0FA0", "ff", "1_0", "+1", "18446744073709551615", "18446744073709551616", "99999999999999999999x", "\xff\xff"} {
		f.Add(s)
	}
	f.Fuzz(func(t *testing.T, s string) {
		b, e := codec.ParseHex(s)
		if e == api.OK && codec.Hex(b) != s || e != api.OK && (e != api.ErrForm || b != nil) {
			t.Errorf("ParseHex(%q) = %v, %d", s, b, e)
		}
		n, e := codec.ParseDigits(s)
		if e == api.OK && codec.Digits(n) != s || e != api.OK && (e != api.ErrForm && e != api.ErrOver || n != 0) {
			t.Errorf("ParseDigits(%q) = %d, %d", s, n, e)
		}
		if b, e := codec.ParseHex(codec.Hex([]byte(s))); string(b) != s || e != api.OK {
			t.Errorf("ParseHex(Hex(%q)) = %v, %d", s, b, e)
		}
	})
}

// P1.6, R4

func TestAppendSharesNoMemory(t *testing.T) {
	for _, w := range goodWidths {
		whole := []byte{1, 2, 3, 90, 91, 92, 93, 94, 95, 96, 97, 98}
		before := slices.Clone(whole)
		b := whole[:3]
		r1, _ := codec.Append(b, 7, w)
		r2, _ := codec.Append(b, 8, w)
		if !bytes.Equal(whole, before) || r1[3] != 7 || r2[3] != 8 {
			t.Error(w, whole, r1, r2)
		}
		for i := range r1 {
			r1[i] = 200
		}
		if !bytes.Equal(whole, before) || r2[0] != 1 || r2[3] != 8 {
			t.Error(w, whole, r2)
		}
		for i := range whole {
			whole[i] = 100
		}
		if r2[0] != 1 || r2[1] != 2 || r2[2] != 3 || r2[3] != 8 {
			t.Error(w, r2)
		}
	}
}

func TestFailedAppendKeepsItsArgument(t *testing.T) {
	whole := []byte{1, 2, 3, 90, 91, 92, 93, 94, 95}
	before := slices.Clone(whole)
	codec.Append(whole[:3], 256, 1)
	codec.Append(whole[:3], 0, 3)
	if !bytes.Equal(whole, before) {
		t.Error(whole)
	}
}

func TestReadersKeepTheirArgument(t *testing.T) {
	whole := []byte{1, 2, 3, 4, 5, 6, 7, 8, 90, 91}
	before := slices.Clone(whole)
	b := whole[:8]
	codec.Uint(b, 0, 8)
	codec.Uint(b, 7, 2)
	s := codec.Hex(b)
	if !bytes.Equal(whole, before) {
		t.Error(whole)
	}
	clear(whole)
	if s != "0102030405060708" {
		t.Error(s)
	}
}

func TestParseHexSharesNoMemory(t *testing.T) {
	s := "0102"
	b1, _ := codec.ParseHex(s)
	b2, _ := codec.ParseHex(s)
	b1[0], b1[1] = 9, 9
	if s != "0102" || !bytes.Equal(b2, []byte{1, 2}) {
		t.Error(s, b2)
	}
}

// R3

func TestNilIsEmpty(t *testing.T) {
	for _, w := range goodWidths {
		a, e1 := codec.Append(nil, 5, w)
		b, e2 := codec.Append([]byte{}, 5, w)
		if !bytes.Equal(a, b) || len(a) != w || e1 != api.OK || e2 != api.OK {
			t.Error(w, a, b, e1, e2)
		}
		_, e1 = codec.Uint(nil, 0, w)
		_, e2 = codec.Uint([]byte{}, 0, w)
		if e1 != api.ErrTorn || e2 != api.ErrTorn {
			t.Error(w, e1, e2)
		}
	}
	if codec.Hex(nil) != codec.Hex([]byte{}) {
		t.Error("Hex")
	}
	if b, e := codec.ParseHex(""); len(b) != 0 || e != api.OK {
		t.Error(b, e)
	}
}

// R8

func TestEqualCallsReturnEqualResults(t *testing.T) {
	type results struct {
		appended, parsed string
		number, decimal  uint64
		errs             [4]api.Errno
		text             string
	}
	all := func() results {
		var r results
		a, e1 := codec.Append([]byte{1}, 770, 4)
		n, e2 := codec.Uint([]byte{1, 2, 3}, 1, 2)
		h, e3 := codec.ParseHex("0a0b")
		d, e4 := codec.ParseDigits("4711")
		r.appended, r.number, r.parsed, r.decimal = string(a), n, string(h), d
		r.errs = [4]api.Errno{e1, e2, e3, e4}
		r.text = codec.Hex(a) + " " + codec.Digits(d)
		return r
	}
	first := all()
	// Calls with errors, in between, must leave nothing behind.
	codec.Append(nil, 256, 1)
	codec.Uint(nil, -1, 1)
	codec.ParseHex("0g")
	codec.ParseDigits("99999999999999999999")
	if again := all(); again != first {
		t.Error(first, again)
	}
}

// P1

// FuzzIntegers checks that the calls end without a panic, and what they have in common.
func FuzzIntegers(f *testing.F) {
	for _, w := range append(slices.Clone(badWidths), goodWidths...) {
		for _, at := range []int{math.MinInt, -1, 0, 1, 3, math.MaxInt - 8, math.MaxInt} {
			f.Add([]byte("drumlin"), uint64(1)<<40, at, w)
			f.Add([]byte(nil), uint64(math.MaxUint64), at, w)
		}
	}
	f.Fuzz(func(t *testing.T, b []byte, n uint64, at, width int) {
		r, e := codec.Append(b, n, width)
		if (e == api.OK) != codec.Fits(n, width) || e != api.OK && r != nil {
			t.Errorf("Append(%v, %d, %d) = %v, %d", b, n, width, r, e)
		}
		if e == api.OK && (!bytes.Equal(r[:len(b)], b) || len(r) != len(b)+width) {
			t.Errorf("Append(%v, %d, %d) = %v", b, n, width, r)
		}
		m, e := codec.Uint(b, at, width)
		if e == api.OK && !codec.Fits(m, width) || e != api.OK && m != 0 {
			t.Errorf("Uint(%v, %d, %d) = %d, %d", b, at, width, m, e)
		}
	})
}
