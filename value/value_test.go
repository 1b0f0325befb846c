package value_test

import (
	"fmt"
	"math"
	"math/rand/v2"
	"slices"
	"strings"
	"testing"
	"unicode/utf8"
	"unsafe"

	"drumlin/api"
	"drumlin/value"
)

// What follows up to the first test is the chapter's definitions, byte by byte.

func check(s string, most int) api.Errno {
	switch {
	case most < 0 || most > 512:
		return api.ErrArg
	case len(s) > most:
		return api.ErrLarge
	}
	return api.OK
}

// digits returns two hexadecimal digits for each byte.
func digits(s string) string {
	r := ""
	for i := range len(s) {
		r += fmt.Sprintf("%02x", s[i])
	}
	return r
}

func text(s string) (string, api.Errno) {
	if len(s) > 512 {
		return "", api.ErrLarge
	}
	if s == "" {
		return "-", api.OK
	}
	return digits(s), api.OK
}

func parse(s string) (string, api.Errno) {
	if s == "-" {
		return "", api.OK
	}
	if len(s) < 2 || len(s)%2 == 1 {
		return "", api.ErrForm
	}
	r := make([]byte, len(s)/2)
	for i := range len(s) {
		n := strings.IndexByte("0123456789abcdef", s[i])
		if n < 0 {
			return "", api.ErrForm
		}
		r[i/2] = r[i/2]*16 + byte(n)
	}
	if len(r) > 512 {
		return "", api.ErrLarge
	}
	return string(r), api.OK
}

func repeat(pattern string, n int) (string, api.Errno) {
	switch {
	case n < 0 || pattern == "" && n != 0:
		return "", api.ErrArg
	case n > 512:
		return "", api.ErrLarge
	case n == 0:
		return "", api.OK
	}
	return strings.Repeat(pattern, n/len(pattern)+1)[:n], api.OK
}

func short(s string) string {
	n := fmt.Sprint(len(s)) + ":"
	if len(s) <= 8 {
		return n + digits(s)
	}
	return n + digits(s[:8]) + ".."
}

func many(n int, c string) string {
	return strings.Repeat(c, n)
}

// allBytes returns a string with each byte once.
func allBytes() string {
	b := make([]byte, 256)
	for i := range b {
		b[i] = byte(i)
	}
	return string(b)
}

func randomBytes(r *rand.Rand, n int) string {
	b := make([]byte, n)
	for i := range b {
		b[i] = byte(r.Uint32())
	}
	return string(b)
}

// someStrings returns strings of all lengths up to some above the greatest one of a value, and some that are no UTF-8.
func someStrings() []string {
	l := []string{
		"", "-", "--", "..", ":", "a", "ab", "6162", "6A", "\x00", "\x00\xff", "\xff", "\x80", "\xc3", "\xc3\xa9", "é", "aé", "\xed\xa0\x80", "\xef\xbf\xbd", "\xf4\x90\x80\x80", "日本", "😀", "\n", "a b", "a\x00b",
		allBytes(), allBytes() + allBytes(), allBytes() + allBytes() + "\x00", allBytes()[1:] + allBytes(), many(256, "é"), many(257, "é"), "a" + many(4, "é"), many(512, "\xff"), many(513, "\xff"), many(512, "\x00"), many(513, "\x00"), many(512, "-"), many(513, "-"),
		many(1024, "a"), many(1<<16, "a"), many(1<<16+2, "\x80"), many(1<<20, "\xc3"),
	}
	r := rand.New(rand.NewPCG(6, 1))
	for n := range 530 {
		l = append(l, many(n, "a"), randomBytes(r, n))
	}
	return l
}

// someForms returns string forms, and strings that are nearly one.
func someForms() []string {
	l := []string{
		"", "-", "6162", "6", "6A", "--", "00ff", "00", "ff", "0", "f", "a", "aF", "Fa", "FF", "A0", "g0", "0g", "00g0", "0x00", "0x", "x0", "+0", "-0", "-1", "0-", "-00", "00-", "---", "----", " -", "- ", "-\n", "\n-", "\x00-", "-\x00", "-6162", "6162-", "61-62", "-f", "a-",
		" 00", "00 ", " 0", "0 ", "6 ", "61 62", "61  62", "6162\n", "61\n", "6162\x00", "\x00\x00", "616", "61626", "\xff\xff", "\xffa", "a\xff", "é", "\xc3\xa9", "６", "６１", "٦٢", "０٠", "–", "—", "−", "²³", "ａｂ", "\x0061", "1e", "e1", "1_", "1.", "..", "::",
	}
	for _, n := range []int{1, 2, 3, 255, 256, 257, 509, 510, 511, 512, 513, 514, 515, 1021, 1022, 1023, 1024, 1025, 1026, 1027, 1028, 2048, 1 << 16, 1<<16 + 2, 1<<17 - 1, 1 << 17, 1<<17 + 4} {
		for _, c := range []string{"0", "9", "a", "f", "-", "A", "\xff"} {
			l = append(l, many(n, c))
		}
		// One byte that is no digit, at each end and in the middle.
		for _, c := range []string{"-", "g", "F", "G", "/", ":", "`", "@", " ", "\x00", "\xff"} {
			l = append(l, c+many(n-1, "7"), many(n-1, "7")+c, many(n/2, "7")+c+many(n-n/2-1, "7"))
		}
	}
	r := rand.New(rand.NewPCG(6, 2))
	for n := range 530 {
		l = append(l, digits(randomBytes(r, n)), digits(randomBytes(r, n))+"0")
	}
	return l
}

// patterns returns patterns of all lengths up to some above the greatest one of a value.
func patterns() []string {
	l := []string{"", "a", "ab", "abc", "\x00", "\xff", "\x00\xff", "-", "é", "é日", "\xc3", "\xa9\xc3", "aab", "aaab", allBytes(), many(512, "a"), many(511, "a") + "b", many(512, "a") + "b", many(513, "a") + "b", many(1<<17, "ab")}
	r := rand.New(rand.NewPCG(6, 3))
	for n := range 520 {
		l = append(l, randomBytes(r, n+1))
	}
	return l
}

// numbers returns those beside the limits, and some that are within them if they are cut to 8, 16 or 32 bits.
func numbers() []int {
	return []int{
		math.MinInt, math.MinInt + 1, math.MinInt + 512, -1 << 32, -1<<32 + 7, -1 << 31, -1 << 16, -1<<16 + 5, -1024, -513, -512, -511, -256, -249, -8, -3, -2, -1,
		0, 1, 2, 3, 6, 7, 8, 9, 10, 64, 100, 255, 256, 257, 500, 510, 511, 512,
		513, 514, 515, 768, 1024, 1<<16 - 1, 1 << 16, 1<<16 + 5, 1<<31 - 1, 1 << 31, 1 << 32, 1<<32 + 7, 1 << 40, math.MaxInt - 512, math.MaxInt - 1, math.MaxInt,
	}
}

// allShort yields all strings of up to two bytes.
func allShort(yield func(string) bool) {
	if !yield("") {
		return
	}
	for i := range 256 {
		if !yield(string([]byte{byte(i)})) {
			return
		}
		for j := range 256 {
			if !yield(string([]byte{byte(i), byte(j)})) {
				return
			}
		}
	}
}

// P6.1

func TestCheckExamples(t *testing.T) {
	for _, x := range []struct {
		s    string
		most int
		e    api.Errno
	}{
		{"ab", 2, api.OK},
		{"ab", 1, api.ErrLarge},
		{"ab", 513, api.ErrArg},
		{"ab", -1, api.ErrArg},
		{"ab", 0, api.ErrLarge},
		{"ab", 3, api.OK},
		{"ab", 512, api.OK},
		{"", 0, api.OK},
		{"", 512, api.OK},
		{"", -1, api.ErrArg},
		{"", 513, api.ErrArg},
		{"\x00", 0, api.ErrLarge},
		{many(511, "a"), 511, api.OK},
		{many(511, "a"), 510, api.ErrLarge},
		{many(511, "a"), 512, api.OK},
		{many(512, "a"), 511, api.ErrLarge},
		{many(512, "a"), 512, api.OK},
		{many(512, "a"), 513, api.ErrArg},
		{many(513, "a"), 512, api.ErrLarge},
		{many(513, "a"), 513, api.ErrArg},
		{many(513, "a"), 514, api.ErrArg},
		{many(513, "a"), 0, api.ErrLarge},
		{many(513, "a"), -1, api.ErrArg},
		// Bytes are counted, not runes.
		{"é", 1, api.ErrLarge},
		{"é", 2, api.OK},
		{many(257, "é"), 512, api.ErrLarge},
		{"\xff\xff\xff", 2, api.ErrLarge},
		{"\xff\xff\xff", 3, api.OK},
		{"ab", math.MinInt, api.ErrArg},
		{"ab", math.MaxInt, api.ErrArg},
	} {
		if e := value.Check(x.s, x.most); e != x.e {
			t.Errorf("Check(%.40q, %d) of %d bytes is %d", x.s, x.most, len(x.s), e)
		}
	}
}

func TestCheckOfAllStrings(t *testing.T) {
	for _, s := range someStrings() {
		mosts := append(numbers(), len(s)-1, len(s), len(s)+1)
		for _, most := range mosts {
			if e := value.Check(s, most); e != check(s, most) {
				t.Errorf("Check(%.40q, %d) of %d bytes is %d", s, most, len(s), e)
			}
		}
	}
}

func TestCheckOfEachTwoLengths(t *testing.T) {
	for n := range 516 {
		s := many(n, "v")
		for most := -2; most < 516; most++ {
			if e := value.Check(s, most); e != check(s, most) {
				t.Errorf("Check of %d bytes with %d is %d", n, most, e)
			}
		}
	}
}

// P6.2

func TestTextExamples(t *testing.T) {
	for _, x := range []struct {
		s, want string
		e       api.Errno
	}{
		{"", "-", api.OK},
		{"ab", "6162", api.OK},
		{"\x00\xff", "00ff", api.OK},
		{"-", "2d", api.OK},
		{"a", "61", api.OK},
		{"\x00", "00", api.OK},
		{"\n", "0a", api.OK},
		{"\xab\xcd\xef\xf0", "abcdeff0", api.OK},
		{"\x12\x34\x56\x78\x9a", "123456789a", api.OK},
		{"é", "c3a9", api.OK},
		{"\xff", "ff", api.OK},
		{"\xed\xa0\x80", "eda080", api.OK},
		{many(511, "a"), many(511, "61"), api.OK},
		{many(512, "a"), many(512, "61"), api.OK},
		{many(512, "\xfe"), many(512, "fe"), api.OK},
		{many(513, "a"), "", api.ErrLarge},
		{many(513, "\x00"), "", api.ErrLarge},
		{many(257, "é"), "", api.ErrLarge},
		{many(1<<20, "a"), "", api.ErrLarge},
	} {
		if got, e := value.Text(x.s); got != x.want || e != x.e {
			t.Errorf("Text(%.40q) of %d bytes is %.40q, %d", x.s, len(x.s), got, e)
		}
	}
}

func TestTextOfAllStrings(t *testing.T) {
	for _, s := range someStrings() {
		want, wantErr := text(s)
		if got, e := value.Text(s); got != want || e != wantErr {
			t.Errorf("Text(%.40q) of %d bytes is %.40q, %d", s, len(s), got, e)
		}
	}
	for s := range allShort {
		want, wantErr := text(s)
		if got, e := value.Text(s); got != want || e != wantErr {
			t.Errorf("Text(%q) is %q, %d", s, got, e)
		}
	}
}

func TestParseExamples(t *testing.T) {
	for _, x := range []struct {
		s, want string
		e       api.Errno
	}{
		{"-", "", api.OK},
		{"6162", "ab", api.OK},
		{"00ff", "\x00\xff", api.OK},
		{"2d", "-", api.OK},
		{"0123456789abcdef", "\x01\x23\x45\x67\x89\xab\xcd\xef", api.OK},
		{"c3a9", "é", api.OK},
		{"ff", "\xff", api.OK},
		{"00", "\x00", api.OK},
		{"", "", api.ErrForm},
		{"6", "", api.ErrForm},
		{"6A", "", api.ErrForm},
		{"A6", "", api.ErrForm},
		{"--", "", api.ErrForm},
		{"---", "", api.ErrForm},
		{"-6162", "", api.ErrForm},
		{"6162-", "", api.ErrForm},
		{"61-62", "", api.ErrForm},
		{"-6", "", api.ErrForm},
		{"6-", "", api.ErrForm},
		{"- ", "", api.ErrForm},
		{" -", "", api.ErrForm},
		{"-\n", "", api.ErrForm},
		{"61 62", "", api.ErrForm},
		{"616", "", api.ErrForm},
		{"616g", "", api.ErrForm},
		{"0x61", "", api.ErrForm},
		{"é", "", api.ErrForm},
		{"\xff\xff", "", api.ErrForm},
		{many(511, "61"), many(511, "a"), api.OK},
		{many(512, "61"), many(512, "a"), api.OK},
		{many(512, "ff"), many(512, "\xff"), api.OK},
		{many(513, "61"), "", api.ErrLarge},
		{many(513, "00"), "", api.ErrLarge},
		{many(1<<20, "61"), "", api.ErrLarge},
		// The form is the first error, also where there are too many digits.
		{many(512, "61") + "6", "", api.ErrForm},
		{many(511, "61") + "6", "", api.ErrForm},
		{many(512, "61") + "6A", "", api.ErrForm},
		{many(513, "61") + "6", "", api.ErrForm},
		{many(513, "61") + "6g", "", api.ErrForm},
		{many(1<<20, "61") + "-", "", api.ErrForm},
		{many(1<<20, "61") + "--", "", api.ErrForm},
		{"-" + many(513, "61"), "", api.ErrForm},
		{many(1026, "-"), "", api.ErrForm},
		{many(513, "6A"), "", api.ErrForm},
		// As many bytes as the greatest value has, and beside it.
		{many(511, "6"), "", api.ErrForm},
		{many(512, "6"), many(256, "f"), api.OK},
		{many(513, "6"), "", api.ErrForm},
	} {
		if got, e := value.Parse(x.s); got != x.want || e != x.e {
			t.Errorf("Parse(%.40q) of %d bytes is %.40q, %d", x.s, len(x.s), got, e)
		}
	}
}

func TestParseOfAllStrings(t *testing.T) {
	for _, s := range append(someForms(), someStrings()...) {
		want, wantErr := parse(s)
		if got, e := value.Parse(s); got != want || e != wantErr {
			t.Errorf("Parse(%.40q) of %d bytes is %.40q, %d", s, len(s), got, e)
		}
	}
	for s := range allShort {
		want, wantErr := parse(s)
		if got, e := value.Parse(s); got != want || e != wantErr {
			t.Errorf("Parse(%q) is %q, %d", s, got, e)
		}
	}
}

// TestParseOfEachByte looks at each byte in the place of each of four digits.
func TestParseOfEachByte(t *testing.T) {
	for i := range 256 {
		for at := range 4 {
			b := []byte("61f0")
			b[at] = byte(i)
			want, wantErr := parse(string(b))
			if got, e := value.Parse(string(b)); got != want || e != wantErr {
				t.Errorf("Parse(%q) is %q, %d", b, got, e)
			}
		}
	}
}

// TestParseOfEachRune looks at all runes, since no other one than the digits may pass for one of them.
func TestParseOfEachRune(t *testing.T) {
	for c := rune(0); c <= utf8.MaxRune; c++ {
		for _, s := range []string{string(c), string([]rune{c, c}), "6" + string(c), "61" + string(c)} {
			want, wantErr := parse(s)
			if got, e := value.Parse(s); got != want || e != wantErr {
				t.Errorf("Parse(%q) is %q, %d", s, got, e)
			}
		}
	}
}

// P6.3

func TestRepeatExamples(t *testing.T) {
	for _, x := range []struct {
		pattern string
		n       int
		want    string
		e       api.Errno
	}{
		{"abc", 7, "abcabca", api.OK},
		{"abc", 0, "", api.OK},
		{"", 0, "", api.OK},
		{"", 1, "", api.ErrArg},
		{"a", 513, "", api.ErrLarge},
		{"a", -1, "", api.ErrArg},
		{"abc", 1, "a", api.OK},
		{"abc", 2, "ab", api.OK},
		{"abc", 3, "abc", api.OK},
		{"abc", 4, "abca", api.OK},
		{"abc", 6, "abcabc", api.OK},
		{"a", 1, "a", api.OK},
		{"a", 5, "aaaaa", api.OK},
		{"a", 512, many(512, "a"), api.OK},
		{"ab", 512, many(256, "ab"), api.OK},
		{"abc", 512, many(170, "abc") + "ab", api.OK},
		{"abc", 511, many(170, "abc") + "a", api.OK},
		{"abc", 513, "", api.ErrLarge},
		{many(512, "a"), 512, many(512, "a"), api.OK},
		{many(513, "a"), 512, many(512, "a"), api.OK},
		{many(513, "a"), 513, "", api.ErrLarge},
		{many(1<<20, "ab"), 5, "ababa", api.OK},
		{many(1<<20, "ab"), 0, "", api.OK},
		{many(1<<20, "ab"), 513, "", api.ErrLarge},
		{many(1<<20, "ab"), 1 << 21, "", api.ErrLarge},
		{many(1<<20, "ab"), -1, "", api.ErrArg},
		// The pattern is looked at before the length.
		{"", 512, "", api.ErrArg},
		{"", 513, "", api.ErrArg},
		{"", -1, "", api.ErrArg},
		{"", math.MaxInt, "", api.ErrArg},
		{"", math.MinInt, "", api.ErrArg},
		{"ab", math.MaxInt, "", api.ErrLarge},
		{"ab", math.MinInt, "", api.ErrArg},
		// Bytes are repeated, not runes.
		{"é", 3, "\xc3\xa9\xc3", api.OK},
		{"é", 1, "\xc3", api.OK},
		{"\xff", 3, "\xff\xff\xff", api.OK},
		{"\x00", 2, "\x00\x00", api.OK},
	} {
		if got, e := value.Repeat(x.pattern, x.n); got != x.want || e != x.e {
			t.Errorf("Repeat(%.40q, %d) is %.40q, %d", x.pattern, x.n, got, e)
		}
	}
}

func TestRepeatOfAllPatterns(t *testing.T) {
	for _, p := range patterns() {
		for _, n := range append(numbers(), len(p)-1, len(p), len(p)+1, 2*len(p)-1, 2*len(p), 2*len(p)+1) {
			want, wantErr := repeat(p, n)
			if got, e := value.Repeat(p, n); got != want || e != wantErr {
				t.Errorf("Repeat(%.40q, %d) of %d bytes is %.40q, %d", p, n, len(p), got, e)
			}
		}
	}
}

func TestRepeatOfEachLength(t *testing.T) {
	for n := -3; n < 520; n++ {
		for _, p := range []string{"", "a", "ab", "\xff\x00\x80", "abcdefgh", allBytes(), allBytes() + allBytes() + "end"} {
			want, wantErr := repeat(p, n)
			if got, e := value.Repeat(p, n); got != want || e != wantErr {
				t.Errorf("Repeat(%.40q, %d) is %.40q, %d", p, n, got, e)
			}
		}
	}
}

// P6.4

func TestShortExamples(t *testing.T) {
	for _, x := range []struct{ s, want string }{
		{"", "0:"},
		{"ab", "2:6162"},
		{many(9, "a"), "9:6161616161616161.."},
		{"a", "1:61"},
		{"-", "1:2d"},
		{"abcdefg", "7:61626364656667"},
		{"abcdefgh", "8:6162636465666768"},
		{"abcdefghi", "9:6162636465666768.."},
		{"abcdefghij", "10:6162636465666768.."},
		{"\x00\x01\xfe\xff", "4:0001feff"},
		{many(9, "\x00"), "9:0000000000000000.."},
		// Eight bytes, which end within a rune.
		{"a" + many(4, "é"), "9:61c3a9c3a9c3a9c3.."},
		{many(4, "é"), "8:c3a9c3a9c3a9c3a9"},
		{"\xff\xfe\xfd", "3:fffefd"},
		{many(511, "a"), "511:6161616161616161.."},
		{many(512, "a"), "512:6161616161616161.."},
		{many(513, "a"), "513:6161616161616161.."},
		{many(1000000, "z"), "1000000:7a7a7a7a7a7a7a7a.."},
		{many(1<<24, "\xff"), "16777216:ffffffffffffffff.."},
	} {
		if got := value.Short(x.s); got != x.want {
			t.Errorf("Short(%.40q) of %d bytes is %q", x.s, len(x.s), got)
		}
	}
}

func TestShortOfAllStrings(t *testing.T) {
	for _, s := range slices.Concat(someStrings(), someForms(), patterns()) {
		if got := value.Short(s); got != short(s) {
			t.Errorf("Short(%.40q) of %d bytes is %q", s, len(s), got)
		}
	}
	for s := range allShort {
		if got := value.Short(s); got != short(s) {
			t.Errorf("Short(%q) is %q", s, got)
		}
	}
}

// TestShortOfEachByte looks at each byte at each place up to the first one that is not shown.
func TestShortOfEachByte(t *testing.T) {
	for i := range 256 {
		for at := range 9 {
			for n := at + 1; n < 11; n++ {
				b := []byte(many(n, "m"))
				b[at] = byte(i)
				if got := value.Short(string(b)); got != short(string(b)) {
					t.Errorf("Short(%q) is %q", b, got)
				}
			}
		}
	}
}

// P6.5

// TestValuesAreDecoded holds that each value comes back from its string form, and that no other value has the same one.
func TestValuesAreDecoded(t *testing.T) {
	l := slices.Collect(allShort)
	for _, s := range someStrings() {
		if len(s) <= api.MaxValue {
			l = append(l, s)
		}
	}
	values := map[string]string{}
	for _, s := range l {
		form, e := value.Text(s)
		if e != api.OK {
			t.Fatalf("Text(%.40q) of %d bytes is %d", s, len(s), e)
		}
		if back, e := value.Parse(form); back != s || e != api.OK {
			t.Errorf("Parse(Text(%.40q)) of %d bytes is %.40q, %d", s, len(s), back, e)
		}
		if other, has := values[form]; has && other != s {
			t.Errorf("%.40q and %.40q have the same string form", s, other)
		}
		values[form] = s
	}
}

// TestFormsAreEncoded holds that what is decoded has the string form that was decoded.
func TestFormsAreEncoded(t *testing.T) {
	decoded := 0
	for _, s := range slices.Concat(slices.Collect(allShort), someForms(), someStrings()) {
		v, e := value.Parse(s)
		if e != api.OK {
			continue
		}
		decoded++
		if form, e := value.Text(v); form != s || e != api.OK {
			t.Errorf("Text(Parse(%.40q)) of %d bytes is %.40q, %d", s, len(s), form, e)
		}
	}
	if decoded < 256+512 {
		t.Errorf("only %d strings were decoded", decoded)
	}
}

// P6.6

func TestTextOfTwoParts(t *testing.T) {
	both := func(a, b string) {
		first, e := value.Text(a)
		second, f := value.Text(b)
		whole, g := value.Text(a + b)
		if e != api.OK || f != api.OK || g != api.OK || first+second != whole {
			t.Errorf("Text of %.40q and %.40q (%d and %d bytes): %d, %d, %d", a, b, len(a), len(b), e, f, g)
		}
		if v, e := value.Parse(first + second); v != a+b || e != api.OK {
			t.Errorf("Parse of the forms of %.40q and %.40q (%d and %d bytes): %d", a, b, len(a), len(b), e)
		}
	}
	for i := range 256 {
		for j := range 256 {
			both(string([]byte{byte(i)}), string([]byte{byte(j)}))
		}
	}
	r := rand.New(rand.NewPCG(6, 6))
	for n := 1; n < 512; n++ {
		both(randomBytes(r, n), randomBytes(r, 512-n))
		both(randomBytes(r, n), randomBytes(r, 1+r.IntN(512-n)))
	}
}

// TestTextOfTwoPartsThatAreTooLong looks at parts that are values, but not together.
func TestTextOfTwoPartsThatAreTooLong(t *testing.T) {
	for n := 1; n <= 512; n++ {
		a, b := many(n, "a"), many(513-n, "b")
		first, e := value.Text(a)
		second, f := value.Text(b)
		if e != api.OK || f != api.OK {
			t.Errorf("Text of %d and %d bytes: %d, %d", len(a), len(b), e, f)
		}
		if whole, e := value.Text(a + b); whole != "" || e != api.ErrLarge {
			t.Errorf("Text of %d and %d bytes is %.40q, %d", len(a), len(b), whole, e)
		}
		if v, e := value.Parse(first + second); v != "" || e != api.ErrLarge {
			t.Errorf("Parse of the forms of %d and %d bytes is %.40q, %d", len(a), len(b), v, e)
		}
	}
}

// P6.7

func TestRepeatedBytesAreThoseOneLengthBefore(t *testing.T) {
	for _, p := range patterns() {
		for _, n := range []int{0, 1, 2, 3, 7, 8, 9, 100, 255, 256, 257, 500, 511, 512} {
			if p == "" && n != 0 {
				continue
			}
			s, e := value.Repeat(p, n)
			if e != api.OK || len(s) != n {
				t.Fatalf("Repeat(%.40q, %d) of %d bytes is %.40q, %d", p, n, len(p), s, e)
			}
			for i := range n {
				if i < len(p) && s[i] != p[i] || i >= len(p) && s[i] != s[i-len(p)] {
					t.Fatalf("Repeat(%.40q, %d) of %d bytes has %#x at %d", p, n, len(p), s[i], i)
				}
			}
			if value.Check(s, n) != api.OK {
				t.Errorf("Repeat(%.40q, %d) is no value of %d bytes", p, n, n)
			}
		}
	}
}

// R1

func TestErrorsComeWithEmptyResults(t *testing.T) {
	for _, s := range append(someForms(), someStrings()...) {
		if got, e := value.Text(s); e != api.OK && got != "" {
			t.Errorf("Text(%.40q) of %d bytes is %.40q, %d", s, len(s), got, e)
		}
		if got, e := value.Parse(s); e != api.OK && got != "" {
			t.Errorf("Parse(%.40q) of %d bytes is %.40q, %d", s, len(s), got, e)
		}
		for _, n := range numbers() {
			if got, e := value.Repeat(s, n); e != api.OK && got != "" {
				t.Errorf("Repeat(%.40q, %d) of %d bytes is %.40q, %d", s, n, len(s), got, e)
			}
		}
	}
}

// R4

// overlaps reports whether two strings share memory.
func overlaps(a, b string) bool {
	if a == "" || b == "" {
		return false
	}
	i, j := uintptr(unsafe.Pointer(unsafe.StringData(a))), uintptr(unsafe.Pointer(unsafe.StringData(b)))
	return i < j+uintptr(len(b)) && j < i+uintptr(len(a))
}

func TestResultsAreNewMemory(t *testing.T) {
	calls := map[string]func(string) string{
		"Text":   func(s string) string { r, _ := value.Text(s); return r },
		"Parse":  func(s string) string { r, _ := value.Parse(s); return r },
		"Repeat": func(s string) string { r, _ := value.Repeat(s, min(len(s), 512)); return r },
		"Short":  value.Short,
	}
	for name, call := range calls {
		for _, s := range []string{"", "-", "a", "ab", "6162", "61", "abcdefgh", "6162636465666768", many(512, "a"), many(512, "61"), many(600, "a")} {
			a, b := call(s), call(s)
			if a != b {
				t.Errorf("%s(%.40q) is %.40q, and then %.40q", name, s, a, b)
			}
			if overlaps(a, s) || overlaps(b, s) {
				t.Errorf("%s(%.40q) shares memory with its argument", name, s)
			}
			if overlaps(a, b) {
				t.Errorf("two results of %s(%.40q) share memory", name, s)
			}
		}
	}
}

// TestArgumentsAreNotChanged gives strings whose bytes can be seen to change: those of a slice.
func TestArgumentsAreNotChanged(t *testing.T) {
	for _, s := range append(someForms(), someStrings()...) {
		if s == "" {
			continue
		}
		b := []byte(s)
		shared := unsafe.String(&b[0], len(b))
		value.Check(shared, 512)
		value.Text(shared)
		value.Parse(shared)
		value.Repeat(shared, 512)
		value.Short(shared)
		if string(b) != s {
			t.Errorf("%.40q of %d bytes was changed", s, len(s))
		}
	}
}

// TestArgumentsAreNotKept changes the bytes behind a string after the call: what was returned must stay.
func TestArgumentsAreNotKept(t *testing.T) {
	for _, s := range []string{"61", "6162", "abc", many(512, "61"), "-", "2d2d2d2d2d2d2d2d2d"} {
		b := []byte(s)
		shared := unsafe.String(&b[0], len(b))
		gotText, _ := value.Text(shared)
		gotValue, _ := value.Parse(shared)
		gotRepeat, _ := value.Repeat(shared, 2)
		gotShort := value.Short(shared)
		for i := range b {
			b[i] = '!'
		}
		wantText, _ := text(s)
		wantValue, _ := parse(s)
		wantRepeat, _ := repeat(s, 2)
		if gotText != wantText || gotValue != wantValue || gotRepeat != wantRepeat || gotShort != short(s) {
			t.Errorf("a result for %.40q changed with it", s)
		}
	}
}

// R8

func TestEqualCallsReturnEqualResults(t *testing.T) {
	type results struct {
		check               api.Errno
		text, parse, repeat string
		textErr, parseErr   api.Errno
		repeatErr           api.Errno
		short               string
	}
	l := append(someForms(), someStrings()...)
	all := map[string]results{}
	for range 3 {
		for _, s := range l {
			// Equal bytes at another address.
			s = strings.Clone(s)
			r := results{check: value.Check(s, 300), short: value.Short(s)}
			r.text, r.textErr = value.Text(s)
			r.parse, r.parseErr = value.Parse(s)
			r.repeat, r.repeatErr = value.Repeat(s, 300)
			if old, has := all[s]; has && old != r {
				t.Errorf("%.40q of %d bytes: first %v, then %v", s, len(s), old, r)
			}
			all[s] = r
		}
		slices.Reverse(l)
	}
}

// FuzzStrings holds all functions against the definitions.
func FuzzStrings(f *testing.F) {
	f.Add("", 0)
	f.Add("-", 1)
	f.Add("6162", 512)
	f.Add("6A", 513)
	f.Add("é", -1)
	f.Add("\xff\x00", 7)
	f.Add(many(513, "61"), 300)
	f.Fuzz(func(t *testing.T, s string, n int) {
		if e := value.Check(s, n); e != check(s, n) {
			t.Errorf("Check(%q, %d) is %d", s, n, e)
		}
		want, wantErr := text(s)
		if got, e := value.Text(s); got != want || e != wantErr {
			t.Errorf("Text(%q) is %q, %d", s, got, e)
		}
		want, wantErr = parse(s)
		if got, e := value.Parse(s); got != want || e != wantErr {
			t.Errorf("Parse(%q) is %q, %d", s, got, e)
		}
		want, wantErr = repeat(s, n)
		if got, e := value.Repeat(s, n); got != want || e != wantErr {
			t.Errorf("Repeat(%q, %d) is %q, %d", s, n, got, e)
		}
		if got := value.Short(s); got != short(s) {
			t.Errorf("Short(%q) is %q", s, got)
		}
	})
}
