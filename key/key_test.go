package key_test

import (
	"math"
	"math/rand/v2"
	"slices"
	"strings"
	"testing"

	"drumlin/api"
	"drumlin/key"
)

// What follows up to the first test is the chapter's definitions, byte by byte.

func isCharacter(c byte) bool {
	return 'a' <= c && c <= 'z' || '0' <= c && c <= '9' || c == '.' || c == '-' || c == '_'
}

// characters returns the key characters in the order of their bytes.
func characters() []byte {
	var l []byte
	for c := range 256 {
		if isCharacter(byte(c)) {
			l = append(l, byte(c))
		}
	}
	return l
}

func check(s string) api.Errno {
	for i := range len(s) {
		if !isCharacter(s[i]) {
			return api.ErrArg
		}
	}
	switch {
	case len(s) == 0:
		return api.ErrArg
	case len(s) > 32:
		return api.ErrLarge
	}
	return api.OK
}

func fits(s string, most int) api.Errno {
	if most < 1 || most > 32 {
		return api.ErrArg
	}
	e := check(s)
	if e == api.OK && len(s) > most {
		return api.ErrLarge
	}
	return e
}

// common tries all lengths, the greatest one first.
func common(a, b string) int {
	for n := len(a); n > 0; n-- {
		if n <= len(b) && a[:n] == b[:n] {
			return n
		}
	}
	return 0
}

func order(a, b string) int {
	n := common(a, b)
	switch {
	case n == len(a) && n == len(b):
		return 0
	case n == len(a):
		return -1
	case n == len(b):
		return 1
	case a[n] < b[n]:
		return -1
	}
	return 1
}

// next returns the least of the shortest keys that are greater than s: each has the first bytes of s, and a key character behind them.
func next(s string) (string, bool) {
	if check(s) != api.OK {
		return "", false
	}
	least, has := "", false
	for n := range len(s) + 1 {
		for _, c := range characters() {
			k := s[:n] + string(rune(c))
			if check(k) == api.OK && order(s, k) < 0 && (!has || order(k, least) < 0) {
				least, has = k, true
			}
		}
	}
	return least, has
}

func many(n int, c string) string {
	return strings.Repeat(c, n)
}

// oddStrings returns strings of which most are no keys.
func oddStrings() []string {
	l := []string{
		"", " ", "\x00", "\n", "A", "Z", "a b", "a\x00", "\x00a", "a\n", "K1", "kA", "a/b", "a,b", "a:b", "a`", "a{", "^a", "a^",
		"é", "aé", "éa", "a\u0301", "ａ", "９", "٣", "․", "a\u00ad", "\ufeffa", "\ufffd", "a\ufffd", "a\u2010b", "日本", "😀", "a\u017f", "\u212a",
		"\xff", "\x80", "a\x80", "\x80a", "a\xff", "\xc3", "a\xc3", "\xc3a", "\xed\xa0\x80", "\xc1\xa1", "\xe0\x81\xa1", "\xf4\x90\x80\x80", "\xf8\x88\x80\x80\xa1",
		many(16, "é"), many(32, "\xff"), many(33, "\xff"), many(33, "é"), many(32, "A"), many(33, "A"),
		many(33, "a"), many(33, "z"), many(33, "-"), many(34, "a"), many(64, "k9"), many(65536+32, "a"), many(1<<17, "_"),
		many(32, "a") + "A", many(32, "a") + "\xff", many(32, "a") + "é", many(32, "z") + " ", many(40, "a") + "\x00", "A" + many(32, "a"), many(1<<17, "a") + "B",
		many(31, "a") + "A", many(31, "z") + "\xff", many(30, "a") + "é", many(31, "a") + "é",
	}
	for _, c := range characters() {
		for _, near := range []int{-1, 1, 128, 'A' - 'a'} {
			l = append(l, "a"+string([]byte{c + byte(near)}))
		}
		for _, plane := range []rune{0x100, 0x200, 0xff00, 0x10000, 0x100000} {
			l = append(l, string(plane+rune(c)))
		}
	}
	return l
}

// someKeys returns keys of all lengths, among them those at which the successor changes its length.
func someKeys() []string {
	l := []string{
		"a.b-c_9", "abc", "k0", "k9", "k10", "k12", "k999999", "-", ".", "_", "9", "z", "a-", "-a", "..", "--", "__", "zz", "z-", "a.", "a0", "a9", "a_", "aa", "az",
		"abcdefghijklmnopqrstuvwxyz.-_", "0123456789", "abcdefghijklmnopqrstuvwxyz.-_012", "zyxwvutsrqponmlkjihgfedcba987654",
	}
	for _, c := range []string{"-", ".", "0", "9", "_", "a", "m", "y", "z"} {
		for n := range 32 {
			l = append(l, many(n+1, c), many(n, "a")+c, many(n, "z")+c, many(n, "-")+c, many(n, c)+many(32-n, "z"), many(31-n, c)+"y"+many(n, "z"))
		}
	}
	return l
}

func allStrings() []string {
	return append(oddStrings(), someKeys()...)
}

func randomKey(r *rand.Rand) string {
	l := characters()
	b := make([]byte, 1+r.IntN(32))
	if r.IntN(2) == 0 {
		b = make([]byte, 32)
	}
	for i := range b {
		b[i] = l[r.IntN(len(l))]
		if r.IntN(3) == 0 {
			b[i] = 'z'
		}
	}
	return string(b)
}

// P5.1

func TestCheckExamples(t *testing.T) {
	for _, x := range []struct {
		s string
		e api.Errno
	}{
		{"a.b-c_9", api.OK},
		{"", api.ErrArg},
		{"A", api.ErrArg},
		{"a b", api.ErrArg},
		{many(33, "a"), api.ErrLarge},
		{many(32, "a"), api.OK},
		{many(32, "a") + "A", api.ErrArg},
		{"abcdefghijklmnopqrstuvwxyz", api.OK},
		{"0123456789.-_", api.OK},
		{"-", api.OK},
		{".", api.OK},
		{"..", api.OK},
		{"_", api.OK},
		{"0", api.OK},
		{"caf\xc3\xa9", api.ErrArg},
		{many(100000, "a"), api.ErrLarge},
		{many(100000, "a") + "\n", api.ErrArg},
	} {
		if e := key.Check(x.s); e != x.e {
			t.Errorf("Check(%.40q) of %d bytes is %d", x.s, len(x.s), e)
		}
	}
}

// TestCheckOfEachByte looks at each byte alone, ahead of and behind others, and at the places beside the greatest length.
func TestCheckOfEachByte(t *testing.T) {
	for i := range 256 {
		c := string([]byte{byte(i)})
		for _, s := range []string{c, c + "a", "a" + c, "a" + c + "a", c + c, many(31, "a") + c, c + many(31, "a"), many(32, c), many(33, c), many(32, "a") + c, c + many(32, "a"), many(99, "a") + c} {
			if e := key.Check(s); e != check(s) {
				t.Errorf("Check(%q) is %d", s, e)
			}
		}
	}
}

// TestCheckOfEachRune looks at all runes, since no other one than the key characters may pass for one of them.
func TestCheckOfEachRune(t *testing.T) {
	for c := rune(0); c <= 0x10ffff; c++ {
		if s := string(c); key.Check(s) != check(s) {
			t.Errorf("Check(%q) is %d", s, key.Check(s))
		}
	}
}

func TestCheckOfAllStrings(t *testing.T) {
	for _, s := range allStrings() {
		if e := key.Check(s); e != check(s) {
			t.Errorf("Check(%.40q) of %d bytes is %d", s, len(s), e)
		}
	}
}

func TestCheckOfEachLength(t *testing.T) {
	for n := range 70 {
		want := api.OK
		if n == 0 {
			want = api.ErrArg
		}
		if n > 32 {
			want = api.ErrLarge
		}
		if e := key.Check(many(n, "k")); e != want {
			t.Errorf("Check of %d bytes is %d", n, e)
		}
	}
}

func TestFitsExamples(t *testing.T) {
	for _, x := range []struct {
		s    string
		most int
		e    api.Errno
	}{
		{"abc", 3, api.OK},
		{"abc", 2, api.ErrLarge},
		{"abc", 0, api.ErrArg},
		{"", 2, api.ErrArg},
		{"a", 1, api.OK},
		{"ab", 1, api.ErrLarge},
		{"abA", 1, api.ErrArg},
		{"abA", 33, api.ErrArg},
		{"abc", 33, api.ErrArg},
		{"abc", 32, api.OK},
		{many(32, "z"), 32, api.OK},
		{many(32, "z"), 31, api.ErrLarge},
		{many(33, "z"), 32, api.ErrLarge},
		{many(33, "z"), 33, api.ErrArg},
		{many(33, "z"), 1, api.ErrLarge},
		{many(32, "z") + "A", 32, api.ErrArg},
		{"abc", -1, api.ErrArg},
		{"abc", math.MinInt, api.ErrArg},
		{"abc", math.MaxInt, api.ErrArg},
	} {
		if e := key.Fits(x.s, x.most); e != x.e {
			t.Errorf("Fits(%q, %d) is %d", x.s, x.most, e)
		}
	}
}

func TestFitsOfAllStrings(t *testing.T) {
	// Some of these are from 1 to 32 if they are cut to 8 or 32 bits.
	mosts := []int{math.MinInt, math.MinInt + 32, -1 << 32, -256 + 32, -33, -32, -3, -1, 34, 64, 256, 257, 256 + 32, 1<<31 - 1, 1 << 31, 1 << 32, 1<<32 + 3, 1<<32 + 32, math.MaxInt - 1, math.MaxInt}
	for n := range 34 {
		mosts = append(mosts, n)
	}
	for _, s := range allStrings() {
		for _, most := range mosts {
			if e := key.Fits(s, most); e != fits(s, most) {
				t.Errorf("Fits(%.40q, %d) of %d bytes is %d", s, most, len(s), e)
			}
		}
	}
}

// P5.2

func TestOrderExamples(t *testing.T) {
	for _, x := range []struct {
		a, b string
		want int
	}{
		{"a", "a-", -1},
		{"k10", "k9", -1},
		{"_", "9", 1},
		{"-", ".", -1},
		{".", "0", -1},
		{"9", "_", -1},
		{"_", "a", -1},
		{"", "", 0},
		{"", "-", -1},
		{"a", "", 1},
		{"abc", "abc", 0},
		{"abc", "abd", -1},
		{"b", "abc", 1},
		{"Z", "a", -1},
		{"z", "\xff", -1},
		{"\x7f", "\x80", -1},
		{"\xc3\xa9", "\xc3", 1},
		{"", "\x00", -1},
		{"a\x00", "a", 1},
		// As runes the first one would be the greater one.
		{"\xed\xa0\x80", "\xef\xbf\xbd", -1},
		{"\xff", "\ufffd", 1},
		{many(40, "a"), many(39, "a") + "b", -1},
	} {
		if got := key.Order(x.a, x.b); got != x.want {
			t.Errorf("Order(%q, %q) is %d", x.a, x.b, got)
		}
		if got := key.Order(x.b, x.a); got != -x.want {
			t.Errorf("Order(%q, %q) is %d", x.b, x.a, got)
		}
	}
}

func TestOrderOfEachTwoBytes(t *testing.T) {
	for i := range 256 {
		for j := range 256 {
			want := 0
			if i < j {
				want = -1
			}
			if i > j {
				want = 1
			}
			a, b := "k"+string([]byte{byte(i)}), "k"+string([]byte{byte(j)})
			if got := key.Order(a, b); got != want {
				t.Errorf("Order(%q, %q) is %d", a, b, got)
			}
			n := 1
			if i == j {
				n = 2
			}
			if got := key.Common(a, b); got != n {
				t.Errorf("Common(%q, %q) is %d", a, b, got)
			}
		}
	}
}

func TestCommonExamples(t *testing.T) {
	for _, x := range []struct {
		a, b string
		want int
	}{
		{"k10", "k12", 2},
		{"", "a", 0},
		{"", "", 0},
		{"a", "a", 1},
		{"a", "b", 0},
		{"abc", "abcd", 3},
		{"xbc", "abc", 0},
		{"abcabc", "abdabc", 2},
		// Bytes, not runes: é and ê, and the first two bytes of them.
		{"\xc3\xa9", "\xc3\xaa", 1},
		{"k\xc3\xa9", "k\xc3", 2},
		{"\xff\xfe", "\xff\xff", 1},
		{"\ufffd", "\xff", 0},
		{"\x00\x00", "\x00", 1},
		{many(32, "z"), many(33, "z"), 32},
		{many(70000, "a") + "b", many(70000, "a") + "c", 70000},
	} {
		if got := key.Common(x.a, x.b); got != x.want {
			t.Errorf("Common(%.40q, %.40q) is %d", x.a, x.b, got)
		}
		if got := key.Common(x.b, x.a); got != x.want {
			t.Errorf("Common(%.40q, %.40q) is %d", x.b, x.a, got)
		}
	}
}

func TestOrderAndCommonOfAllStrings(t *testing.T) {
	l := slices.DeleteFunc(allStrings(), func(s string) bool { return len(s) > 200 })
	for _, a := range l {
		for _, b := range l {
			if got := key.Order(a, b); got != order(a, b) {
				t.Errorf("Order(%q, %q) is %d", a, b, got)
			}
			if got := key.Common(a, b); got != common(a, b) {
				t.Errorf("Common(%q, %q) is %d", a, b, got)
			}
		}
	}
}

// P5.3

func TestNextExamples(t *testing.T) {
	for _, x := range []struct {
		s, want string
		has     bool
	}{
		{"a", "a-", true},
		{many(32, "a"), many(31, "a") + "b", true},
		{many(31, "a") + "z", many(30, "a") + "b", true},
		{many(32, "z"), "", false},
		{"z", "z-", true},
		{"-", "--", true},
		{many(31, "z"), many(31, "z") + "-", true},
		{many(31, "-"), many(32, "-"), true},
		{many(32, "-"), many(31, "-") + ".", true},
		{many(31, "z") + "-", many(31, "z") + ".", true},
		{many(31, "z") + "y", many(32, "z"), true},
		{many(30, "z") + "yz", many(31, "z"), true},
		{"a" + many(31, "z"), "b", true},
		{"9" + many(31, "z"), "_", true},
		{"y" + many(31, "z"), "z", true},
		{"az" + many(29, "z") + "9", "a" + many(30, "z") + "_", true},
		{"", "", false},
		{"A", "", false},
		{"a b", "", false},
		{"a\xff", "", false},
		{many(33, "a"), "", false},
		{many(33, "z"), "", false},
		{many(31, "a") + "A", "", false},
		{many(32, "A"), "", false},
	} {
		if got, has := key.Next(x.s); got != x.want || has != x.has {
			t.Errorf("Next(%q) is %q, %v", x.s, got, has)
		}
	}
}

// TestNextOfEachCharacter looks at each key character as the last one of 32, and ahead of the greatest ones.
func TestNextOfEachCharacter(t *testing.T) {
	for c, d := range map[string]string{"-": ".", ".": "0", "0": "1", "8": "9", "9": "_", "_": "a", "a": "b", "y": "z"} {
		if got, has := key.Next(many(31, "a") + c); got != many(31, "a")+d || !has {
			t.Errorf("Next of 31 times a and %s is %q, %v", c, got, has)
		}
	}
	l := characters()
	if len(l) != 39 {
		t.Fatalf("%d key characters", len(l))
	}
	for i, c := range l[:len(l)-1] {
		for n := range 32 {
			s, want := many(31-n, "m")+string(rune(c))+many(n, "z"), many(31-n, "m")+string(rune(l[i+1]))
			if got, has := key.Next(s); got != want || !has {
				t.Errorf("Next(%q) is %q, %v", s, got, has)
			}
		}
	}
}

func TestNextOfAllStrings(t *testing.T) {
	for _, s := range allStrings() {
		want, wantHas := next(s)
		if got, has := key.Next(s); got != want || has != wantHas {
			t.Errorf("Next(%.40q) of %d bytes is %q, %v", s, len(s), got, has)
		}
	}
}

// P5.4

func TestNameExamples(t *testing.T) {
	for _, x := range []struct {
		n    int
		want string
		e    api.Errno
	}{
		{0, "k0", api.OK},
		{1, "k1", api.OK},
		{9, "k9", api.OK},
		{10, "k10", api.OK},
		{100000, "k100000", api.OK},
		{999998, "k999998", api.OK},
		{999999, "k999999", api.OK},
		{1000000, "", api.ErrRange},
		{1000001, "", api.ErrRange},
		{-1, "", api.ErrRange},
		{-999999, "", api.ErrRange},
		{math.MinInt, "", api.ErrRange},
		{math.MinInt + 7, "", api.ErrRange},
		{math.MaxInt, "", api.ErrRange},
		// As numbers of 16, 32 or 20 bits these would be small ones.
		{1 << 20, "", api.ErrRange},
		{1 << 24, "", api.ErrRange},
		{1 << 31, "", api.ErrRange},
		{1 << 32, "", api.ErrRange},
		{1<<32 + 5, "", api.ErrRange},
		{-1 << 32, "", api.ErrRange},
	} {
		if got, e := key.Name(x.n); got != x.want || e != x.e {
			t.Errorf("Name(%d) is %q, %d", x.n, got, e)
		}
	}
}

// TestNameOfEachNumber counts with six digits of its own.
func TestNameOfEachNumber(t *testing.T) {
	digits := []byte("000000")
	for n := range 1000000 {
		want := strings.TrimLeft(string(digits), "0")
		if n == 0 {
			want = "0"
		}
		got, e := key.Name(n)
		if got != "k"+want || e != api.OK {
			t.Fatalf("Name(%d) is %q, %d", n, got, e)
		}
		if key.Check(got) != api.OK {
			t.Fatalf("Name(%d) is no key", n)
		}
		for i := len(digits) - 1; i >= 0; i-- {
			if digits[i]++; digits[i] <= '9' {
				break
			}
			digits[i] = '0'
		}
	}
}

// P5.5

// TestNextReachesEachKey follows all keys that begin with 30 bytes: none of them is passed over.
func TestNextReachesEachKey(t *testing.T) {
	for _, prefix := range []string{many(30, "z"), many(30, "a"), many(30, "-"), many(29, "a") + "z", many(28, "z") + "9z"} {
		keys := []string{prefix}
		for _, c := range characters() {
			k := prefix + string(rune(c))
			keys = append(keys, k)
			for _, d := range characters() {
				keys = append(keys, k+string(rune(d)))
			}
		}
		slices.SortFunc(keys, order)
		for i, k := range keys[:len(keys)-1] {
			if got, has := key.Next(k); got != keys[i+1] || !has {
				t.Fatalf("Next(%q) is %q, %v", k, got, has)
			}
		}
		last := keys[len(keys)-1]
		got, has := key.Next(last)
		if greatest := last == many(32, "z"); has == greatest || strings.HasPrefix(got, prefix) {
			t.Errorf("Next(%q) is %q, %v", last, got, has)
		}
	}
}

func TestNoKeyBetween(t *testing.T) {
	r := rand.New(rand.NewPCG(5, 5))
	keys := someKeys()
	for range 1000 {
		keys = append(keys, randomKey(r))
	}
	slices.SortFunc(keys, order)
	for i, s := range keys {
		n, has := key.Next(s)
		if want, wantHas := next(s); n != want || has != wantHas {
			t.Fatalf("Next(%q) is %q, %v", s, n, has)
		}
		if !has {
			if s != many(32, "z") {
				t.Errorf("no key follows %q", s)
			}
			continue
		}
		if key.Check(n) != api.OK || key.Order(s, n) >= 0 {
			t.Errorf("Next(%q) is %q", s, n)
		}
		for _, other := range keys[i:] {
			if key.Order(s, other) < 0 && key.Order(other, n) < 0 {
				t.Errorf("%q is between %q and %q", other, s, n)
			}
		}
	}
}

// P5.6

func TestExactlyOneOrderHolds(t *testing.T) {
	l := allStrings()
	for _, a := range l {
		for _, b := range l {
			n := 0
			for _, holds := range []bool{key.Order(a, b) < 0, a == b, key.Order(b, a) < 0} {
				if holds {
					n++
				}
			}
			if n != 1 {
				t.Errorf("%d of the three hold for %.40q and %.40q", n, a, b)
			}
		}
	}
}

func TestOrderIsTransitive(t *testing.T) {
	l := append(oddStrings()[:80], "a.b-c_9", "k0", "k9", "k10", "-", ".", "_", "a-", "a_", "zz", many(32, "z"), many(31, "z"), many(31, "z")+"-")
	for _, a := range l {
		for _, b := range l {
			if key.Order(a, b) >= 0 {
				continue
			}
			for _, c := range l {
				if key.Order(b, c) < 0 && key.Order(a, c) >= 0 {
					t.Errorf("%.40q, %.40q and %.40q are in no order", a, b, c)
				}
			}
		}
	}
}

func TestStringsDifferAtCommon(t *testing.T) {
	l := allStrings()
	for _, a := range l {
		for _, b := range l {
			n := key.Common(a, b)
			if n < 0 || n > len(a) || n > len(b) || a[:n] != b[:n] {
				t.Fatalf("Common(%.40q, %.40q) is %d", a, b, n)
			}
			if n < len(a) && n < len(b) && a[n] == b[n] {
				t.Errorf("%.40q and %.40q do not differ at %d", a, b, n)
			}
		}
	}
}

// R8

func TestEqualCallsReturnEqualResults(t *testing.T) {
	l := allStrings()
	results := map[string]string{}
	for range 3 {
		for _, s := range l {
			// Equal bytes at another address.
			s = strings.Clone(s)
			got, _ := key.Next(s)
			if old, has := results[s]; has && old != got {
				t.Errorf("Next(%.40q) is %q, and then %q", s, old, got)
			}
			results[s] = got
			if key.Order(s, strings.Clone(s)) != 0 || key.Common(s, strings.Clone(s)) != len(s) {
				t.Errorf("%.40q is not equal to itself", s)
			}
		}
		slices.Reverse(l)
	}
}

// FuzzStrings holds all functions against the definitions.
func FuzzStrings(f *testing.F) {
	f.Add("a", "a-", 3)
	f.Add("k10", "k9", 0)
	f.Add(many(32, "z"), many(31, "a")+"z", 32)
	f.Add(many(33, "a"), many(32, "a")+"A", 33)
	f.Add("\xff", "\ufffd", -1)
	f.Fuzz(func(t *testing.T, a, b string, n int) {
		if key.Check(a) != check(a) || key.Fits(a, n) != fits(a, n) {
			t.Errorf("Check(%q) is %d, Fits with %d is %d", a, key.Check(a), n, key.Fits(a, n))
		}
		if key.Order(a, b) != order(a, b) || key.Common(a, b) != common(a, b) {
			t.Errorf("%q and %q: Order is %d, Common is %d", a, b, key.Order(a, b), key.Common(a, b))
		}
		want, wantHas := next(a)
		if got, has := key.Next(a); got != want || has != wantHas {
			t.Errorf("Next(%q) is %q, %v", a, got, has)
		}
		if s, e := key.Name(n); (e == api.OK) != (0 <= n && n < 1000000) || e == api.OK && check(s) != api.OK || e != api.OK && s != "" {
			t.Errorf("Name(%d) is %q, %d", n, s, e)
		}
	})
}
