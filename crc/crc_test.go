package crc_test

import (
	"bytes"
	"hash/crc32"
	"math"
	"math/bits"
	"slices"
	"testing"
	"time"

	"drumlin/api"
	"drumlin/crc"
)

// What follows up to the first test is the chapter's definition, word for word, and knows no table and no matrix.

func step(x uint32) uint32 {
	if x%2 == 1 {
		return x/2 ^ 0xEDB88320
	}
	return x / 2
}

func fed(x uint32, b []byte) uint32 {
	for _, c := range b {
		x ^= uint32(c)
		for range 8 {
			x = step(x)
		}
	}
	return x
}

func checksum(b []byte) uint32 {
	return fed(0xFFFFFFFF, b) ^ 0xFFFFFFFF
}

// product multiplies two numbers as polynomials, of which the bit 31 is the part without x: a step is a multiplication by x.
func product(a, b uint32) uint32 {
	var r uint32
	for i := 31; i >= 0; i-- {
		if a>>i&1 == 1 {
			r ^= b
		}
		b = step(b)
	}
	return r
}

// shifted finds in another way than package crc what n zero bytes do, for each n: it multiplies by x to the power of 8 n.
func shifted(x uint32, n uint64) uint32 {
	power := uint32(1 << 23)
	for ; n > 0; n >>= 1 {
		if n&1 == 1 {
			x = product(x, power)
		}
		power = product(power, power)
	}
	return x
}

// noise returns n bytes, others for another seed.
func noise(n int, seed uint64) []byte {
	b := make([]byte, n)
	for i := range b {
		seed = seed*6364136223846793005 + 1442695040888963407
		b[i] = byte(seed >> 56)
	}
	return b
}

// numbers returns each number with one bit, and others.
func numbers() []uint32 {
	l := []uint32{0, 3, 5, 7, 0xFFFFFFFE, 0xFFFFFFFF, 0xEDB88320, 0xCBF43926, 0xDEADBEEF}
	for i := range 32 {
		l = append(l, 1<<i)
	}
	seed := uint64(1)
	for range 50 {
		seed = seed*6364136223846793005 + 1442695040888963407
		l = append(l, uint32(seed>>32))
	}
	return l
}

// greatNumbers are too great for zero bytes that are fed one by one.
func greatNumbers() []int {
	l := []int{math.MaxInt, math.MaxInt - 1, math.MaxInt / 2, math.MaxInt32, math.MaxInt32 + 1, math.MaxUint32 - 1, math.MaxUint32, math.MaxUint32 + 1, 0x123456789ABCDEF}
	for i := 12; i < 63; i++ {
		l = append(l, 1<<i, 1<<i-1, 1<<i+1)
	}
	return l
}

// P2.1

func TestSumExamples(t *testing.T) {
	for _, x := range []struct {
		b   []byte
		sum uint32
	}{
		{nil, 0},
		{[]byte{}, 0},
		{[]byte("123456789"), 0xCBF43926},
		{[]byte{0}, 0xD202EF8D},
		{[]byte{255, 255, 255, 255}, 0xFFFFFFFF},
		{[]byte{0, 0, 0, 0}, 0x2144DF1C},
		{[]byte("a"), 0xE8B7BE43},
		{[]byte("The quick brown fox jumps over the lazy dog"), 0x414FA339},
	} {
		if sum := crc.Sum(x.b); sum != x.sum {
			t.Errorf("Sum(%q) = %08X", x.b, sum)
		}
		if !crc.Valid(x.b, x.sum) {
			t.Errorf("Valid(%q, %08X) = false", x.b, x.sum)
		}
	}
}

func TestSumOfEachByte(t *testing.T) {
	for i := range 256 {
		for _, b := range [][]byte{{byte(i)}, {0, byte(i)}, {byte(i), 0}, {255, byte(i), 7}} {
			if sum := crc.Sum(b); sum != checksum(b) || sum != crc32.ChecksumIEEE(b) {
				t.Errorf("Sum(%v) = %08X", b, sum)
			}
		}
	}
}

func TestSumOfEachLength(t *testing.T) {
	whole := noise(1000, 1)
	for n := range whole {
		if sum := crc.Sum(whole[:n]); sum != checksum(whole[:n]) {
			t.Errorf("Sum of %d bytes = %08X", n, sum)
		}
	}
	for _, b := range [][]byte{noise(8192, 2), noise(100000, 3), make([]byte, 70000), bytes.Repeat([]byte{255}, 70001)} {
		if sum := crc.Sum(b); sum != checksum(b) || sum != crc32.ChecksumIEEE(b) {
			t.Errorf("Sum of %d bytes = %08X", len(b), sum)
		}
	}
}

func TestValid(t *testing.T) {
	if b := []byte("123456789"); !crc.Valid(b, 0xCBF43926) || crc.Valid(b, 0xCBF43927) {
		t.Error("the example")
	}
	for _, b := range [][]byte{nil, {0}, {255, 255, 255, 255}, noise(20, 1), noise(560, 2)} {
		sum := checksum(b)
		if !crc.Valid(b, sum) {
			t.Errorf("Valid(%v, %08X) = false", b, sum)
		}
		for _, n := range numbers() {
			if crc.Valid(b, sum^n) != (n == 0) {
				t.Errorf("Valid(%v, %08X) = %v", b, sum^n, n != 0)
			}
		}
	}
}

// P2.2

func TestUpdateExamples(t *testing.T) {
	if sum := crc.Update(crc.Sum([]byte("1234")), []byte("56789")); sum != 0xCBF43926 {
		t.Errorf("%08X", sum)
	}
	for _, x := range []struct {
		sum  uint32
		b    []byte
		want uint32
	}{
		{0, nil, 0},
		{0, []byte("123456789"), 0xCBF43926},
		{0xCBF43926, nil, 0xCBF43926},
		{0xCBF43926, []byte{}, 0xCBF43926},
		{0xFFFFFFFF, []byte{0}, 0xFFFFFFFF},
		{0xFFFFFFFF, []byte{1}, 0x88F8CF69},
	} {
		if sum := crc.Update(x.sum, x.b); sum != x.want {
			t.Errorf("Update(%08X, %q) = %08X", x.sum, x.b, sum)
		}
	}
}

func TestUpdateOfEachNumber(t *testing.T) {
	for _, n := range numbers() {
		for _, b := range [][]byte{nil, {0}, {1}, {128}, {255}, noise(3, 1), noise(4, 2), noise(300, 3)} {
			want := fed(n^0xFFFFFFFF, b) ^ 0xFFFFFFFF
			if sum := crc.Update(n, b); sum != want || sum != crc32.Update(n, crc32.IEEETable, b) {
				t.Errorf("Update(%08X, %v) = %08X, not %08X", n, b, sum, want)
			}
		}
	}
}

// P2.3

func TestCombineExamples(t *testing.T) {
	first, second := crc.Sum([]byte("1234")), crc.Sum([]byte("56789"))
	for _, x := range []struct {
		a, b uint32
		n    int
		want uint32
		e    api.Errno
	}{
		{first, second, 5, 0xCBF43926, api.OK},
		{first, second, -1, 0, api.ErrArg},
		{5, 7, 0, 2, api.OK},
		{0, 0xDEADBEEF, 1, 0xDEADBEEF, api.OK},
		{0, 0xDEADBEEF, math.MaxInt, 0xDEADBEEF, api.OK},
		{1, 0, 1, 0x77073096, api.OK},
		{128, 0, 1, 0xEDB88320, api.OK},
		{1, 0x77073096, 1, 0, api.OK},
		{256, 0, 1, 1, api.OK},
		{0x12345678, 0, 0, 0x12345678, api.OK},
	} {
		if sum, e := crc.Combine(x.a, x.b, x.n); sum != x.want || e != x.e {
			t.Errorf("Combine(%08X, %08X, %d) = %08X, %d", x.a, x.b, x.n, sum, e)
		}
	}
}

func TestCombineWithNegativeNumbers(t *testing.T) {
	for _, n := range []int{-1, -2, -5, -8, -256, math.MinInt32, -math.MaxUint32, -math.MaxUint32 - 1, math.MinInt + 5, math.MinInt + 1, math.MinInt} {
		for _, a := range numbers() {
			if sum, e := crc.Combine(a, 7, n); sum != 0 || e != api.ErrArg {
				t.Errorf("Combine(%08X, 7, %d) = %08X, %d", a, n, sum, e)
			}
		}
	}
}

// TestCombineFeedsZeros compares with zero bytes that are really fed.
func TestCombineFeedsZeros(t *testing.T) {
	zeros := make([]byte, 3000)
	for _, a := range numbers() {
		x, at := a, 0
		for _, n := range []int{0, 1, 2, 3, 4, 5, 6, 7, 8, 9, 15, 16, 17, 31, 32, 33, 100, 255, 256, 257, 560, 1023, 1024, 3000} {
			x, at = fed(x, zeros[at:n]), n
			if shifted(a, uint64(n)) != x {
				t.Fatalf("the test itself is wrong: %08X, %d", a, n)
			}
			for _, b := range []uint32{0, 1, 0xFFFFFFFF, a, ^a, a << 5} {
				if sum, e := crc.Combine(a, b, n); sum != x^b || e != api.OK {
					t.Errorf("Combine(%08X, %08X, %d) = %08X, %d", a, b, n, sum, e)
				}
			}
		}
	}
}

func TestCombineReturnsSoon(t *testing.T) {
	done := make(chan uint32)
	go func() {
		sum, _ := crc.Combine(1, 2, math.MaxInt)
		done <- sum
	}()
	select {
	case <-done:
	case <-time.After(10 * time.Second):
		t.Fatal("Combine with the greatest int takes too long")
	}
	for _, n := range greatNumbers() {
		for _, a := range numbers() {
			if sum, e := crc.Combine(a, 0x12345, n); sum != shifted(a, uint64(n))^0x12345 || e != api.OK {
				t.Errorf("Combine(%08X, 12345, %d) = %08X, %d", a, n, sum, e)
			}
		}
	}
}

// TestCombineComesBack needs no reference: 2^32 - 1 zero bytes change nothing, so the greatest int does what 2^31 - 1 do.
func TestCombineComesBack(t *testing.T) {
	for _, a := range numbers() {
		if sum, _ := crc.Combine(a, 0, math.MaxUint32); sum != a {
			t.Errorf("%08X becomes %08X", a, sum)
		}
		great, _ := crc.Combine(a, 0, math.MaxInt)
		if small, _ := crc.Combine(a, 0, math.MaxInt32); great != small {
			t.Errorf("%08X becomes %08X and %08X", a, great, small)
		}
	}
}

// P2.4

func TestTable(t *testing.T) {
	table := crc.Table()
	for _, x := range []struct {
		i    int
		want uint32
	}{{0, 0}, {1, 0x77073096}, {128, 0xEDB88320}, {255, 0x2D02EF8D}} {
		if table[x.i] != x.want {
			t.Errorf("Table()[%d] = %08X", x.i, table[x.i])
		}
	}
	for i, x := range table {
		if want := fed(0, []byte{byte(i)}); x != want || x != crc32.IEEETable[i] {
			t.Errorf("Table()[%d] = %08X, not %08X", i, x, want)
		}
	}
}

// R4

func TestTableIsNewMemory(t *testing.T) {
	first := crc.Table()
	for i := range first {
		first[i] = 0xFFFFFFFF
	}
	if second := crc.Table(); second[0] != 0 || second[1] != 0x77073096 || second[255] != 0x2D02EF8D {
		t.Errorf("%08X", second)
	}
	if sum := crc.Sum([]byte("123456789")); sum != 0xCBF43926 {
		t.Errorf("%08X", sum)
	}
}

// P2.5

func TestTwoParts(t *testing.T) {
	whole := noise(80, 7)
	want := checksum(whole)
	for i := range len(whole) + 1 {
		a, b := whole[:i], whole[i:]
		if sum := crc.Update(crc.Sum(a), b); sum != want {
			t.Errorf("Update at %d: %08X", i, sum)
		}
		if sum, e := crc.Combine(crc.Sum(a), crc.Sum(b), len(b)); sum != want || e != api.OK {
			t.Errorf("Combine at %d: %08X, %d", i, sum, e)
		}
	}
}

// groupings returns the checksums that Combine finds for all ways of grouping the parts.
func groupings(parts [][]byte) []uint32 {
	if len(parts) == 1 {
		return []uint32{crc.Sum(parts[0])}
	}
	var l []uint32
	for i := 1; i < len(parts); i++ {
		n := len(slices.Concat(parts[i:]...))
		for _, a := range groupings(parts[:i]) {
			for _, b := range groupings(parts[i:]) {
				sum, e := crc.Combine(a, b, n)
				if e != api.OK {
					return nil
				}
				l = append(l, sum)
			}
		}
	}
	return l
}

func TestSeveralParts(t *testing.T) {
	for i, parts := range [][][]byte{
		{nil, nil, nil},
		{{0}, {0, 0}, {0, 0, 0}},
		{{1}, nil, {2, 3}, nil},
		{nil, noise(5, 1), noise(1, 2), nil, noise(300, 3)},
		{noise(33, 4), noise(8192, 5), noise(2, 6), noise(16, 7), noise(64, 8), noise(1, 9)},
		{bytes.Repeat([]byte{255}, 4), {0}, bytes.Repeat([]byte{255}, 4), make([]byte, 100), {128}},
	} {
		want := checksum(slices.Concat(parts...))
		var sum uint32
		for _, b := range parts {
			sum = crc.Update(sum, b)
		}
		if sum != want {
			t.Errorf("%d: Update: %08X, not %08X", i, sum, want)
		}
		l := groupings(parts)
		if len(l) == 0 {
			t.Errorf("%d: Combine returns an error", i)
		}
		for _, sum := range l {
			if sum != want {
				t.Errorf("%d: Combine: %08X, not %08X", i, sum, want)
			}
		}
	}
}

// TestUpdateAndCombineMixed updates the checksum that Combine has found, and combines what Update has.
func TestUpdateAndCombineMixed(t *testing.T) {
	a, b, c, d := noise(10, 1), noise(20, 2), noise(30, 3), noise(40, 4)
	want := checksum(slices.Concat(a, b, c, d))
	ab, _ := crc.Combine(crc.Sum(a), crc.Sum(b), len(b))
	cd := crc.Update(crc.Sum(c), d)
	if sum, e := crc.Combine(ab, cd, len(c)+len(d)); sum != want || e != api.OK {
		t.Errorf("%08X, %d", sum, e)
	}
	if sum := crc.Update(crc.Update(ab, c), d); sum != want {
		t.Errorf("%08X", sum)
	}
}

// P2.6

// changed returns b with the bits of mask changed, the lowest of them at the bit at.
func changed(b []byte, at int, mask uint32) []byte {
	r := slices.Clone(b)
	for i := range 32 {
		if mask>>i&1 == 1 && at+i < 8*len(b) {
			r[(at+i)/8] ^= 1 << ((at + i) % 8)
		}
	}
	return r
}

func TestChangesOfNeighbouringBits(t *testing.T) {
	masks := []uint32{1, 3, 0xFF, 0xFFFF, 0xFFFFFFFF, 0x80000001, 0xEDB88321, 0xDB710641, 0x55555555}
	for i := range 32 {
		masks = append(masks, 1|1<<i, 1<<i-1|1)
	}
	for _, n := range numbers() {
		masks = append(masks, n|1)
	}
	for _, b := range [][]byte{{0}, {255}, {1, 2}, noise(3, 1), noise(4, 2), make([]byte, 4), bytes.Repeat([]byte{255}, 5), noise(16, 3), noise(60, 4)} {
		sum := crc.Sum(b)
		for at := range 8 * len(b) {
			for _, mask := range masks {
				if c := changed(b, at, mask); crc.Sum(c) == sum || crc.Valid(c, sum) {
					t.Errorf("%v and %v have the checksum %08X", b, c, sum)
				}
			}
		}
	}
}

// TestChangesOfTwoBytes looks at all changes of two neighbouring bytes.
func TestChangesOfTwoBytes(t *testing.T) {
	b := noise(6, 9)
	sum := crc.Sum(b)
	for at := range len(b) - 1 {
		for mask := uint32(1); mask < 1<<16; mask++ {
			if c := changed(b, 8*at, mask); crc.Valid(c, sum) {
				t.Fatalf("%v and %v have the checksum %08X", b, c, sum)
			}
		}
	}
}

// P2.7

func TestSumIsLinear(t *testing.T) {
	for n := range 200 {
		a, b, c := noise(n, 1), noise(n, 2), noise(n, 3)
		d := make([]byte, n)
		for i := range d {
			d[i] = a[i] ^ b[i] ^ c[i]
		}
		if crc.Sum(a)^crc.Sum(b)^crc.Sum(c) != crc.Sum(d) {
			t.Errorf("%d bytes", n)
		}
	}
}

// rank returns how many of the numbers are not xors of others.
func rank(l []uint32) int {
	n := 0
	l = slices.Clone(l)
	for i := range l {
		if l[i] == 0 {
			continue
		}
		n++
		low := bits.TrailingZeros32(l[i])
		for j := i + 1; j < len(l); j++ {
			if l[j]>>low&1 == 1 {
				l[j] ^= l[i]
			}
		}
	}
	return n
}

// TestShiftedNumbersStayDifferent: where the xor of shifted numbers is the shifted xor, 32 bits that stay independent keep all numbers apart.
func TestShiftedNumbersStayDifferent(t *testing.T) {
	for _, n := range append(greatNumbers(), 0, 1, 2, 3, 4, 5, 8, 100, 560, 1000) {
		var shifts []uint32
		for i := range 32 {
			x, _ := crc.Combine(1<<i, 0, n)
			shifts = append(shifts, x)
		}
		if r := rank(shifts); r != 32 {
			t.Errorf("shifted by %d bytes the 32 bits have rank %d", n, r)
		}
		seen := map[uint32]uint32{}
		for _, a := range numbers() {
			x, e := crc.Combine(a, 0, n)
			if other, ok := seen[x]; ok && other != a || e != api.OK {
				t.Errorf("%08X and %08X become %08X, shifted by %d bytes", a, other, x, n)
			}
			seen[x] = a
			y, _ := crc.Combine(0xC0FFEE, 0, n)
			if both, _ := crc.Combine(a^0xC0FFEE, 0, n); both != x^y {
				t.Errorf("shifting %08X by %d bytes is not linear", a, n)
			}
		}
	}
}

// R3

func TestNilIsEmpty(t *testing.T) {
	for _, n := range numbers() {
		if a, b := crc.Update(n, nil), crc.Update(n, []byte{}); a != n || b != n {
			t.Errorf("%08X becomes %08X and %08X", n, a, b)
		}
		if crc.Valid(nil, n) != (n == 0) || crc.Valid([]byte{}, n) != (n == 0) {
			t.Errorf("Valid of no bytes with %08X", n)
		}
	}
}

// R4

func TestArgumentsKeepTheirBytes(t *testing.T) {
	whole := noise(50, 1)
	before := slices.Clone(whole)
	b := whole[5:30]
	crc.Sum(b)
	crc.Update(7, b)
	crc.Valid(b, 7)
	if !bytes.Equal(whole, before) {
		t.Error(whole)
	}
}

func TestNothingIsReadBehindTheLength(t *testing.T) {
	a := append(noise(20, 1), noise(20, 2)...)[:20]
	b := append(noise(20, 1), noise(20, 3)...)[:20]
	sum := checksum(noise(20, 1))
	if crc.Sum(a) != sum || crc.Sum(b) != sum || !crc.Valid(a, sum) || crc.Update(5, a) != crc.Update(5, b) {
		t.Errorf("%08X, %08X, not %08X", crc.Sum(a), crc.Sum(b), sum)
	}
}

// R1, R8

func TestEqualCallsReturnEqualResults(t *testing.T) {
	type results struct {
		sum, update, combined uint32
		e                     api.Errno
		valid                 bool
		table                 [256]uint32
	}
	all := func() results {
		b := []byte("drumlin")
		r := results{sum: crc.Sum(b), update: crc.Update(11, b), valid: crc.Valid(b, checksum(b)), table: crc.Table()}
		r.combined, r.e = crc.Combine(11, 12, 13)
		return r
	}
	first := all()
	// Other calls, and one with an error, must leave nothing behind.
	crc.Sum(noise(100, 1))
	crc.Update(1, noise(100, 2))
	crc.Combine(1, 2, math.MaxInt)
	crc.Combine(1, 2, -1)
	if again := all(); again != first {
		t.Error(first, again)
	}
}

// P1

// FuzzSums checks that the calls end without a panic, and compares them with the standard library.
func FuzzSums(f *testing.F) {
	for _, n := range []int{math.MinInt, -1, 0, 1, 4, 7, math.MaxUint32, math.MaxInt} {
		f.Add([]byte("drumlin"), uint32(0xCBF43926), n)
		f.Add([]byte(nil), uint32(0), n)
		f.Add([]byte{0, 255, 0}, uint32(math.MaxUint32), n)
	}
	f.Fuzz(func(t *testing.T, b []byte, sum uint32, n int) {
		if got := crc.Sum(b); got != crc32.ChecksumIEEE(b) || crc.Valid(b, sum) != (got == sum) {
			t.Errorf("Sum(%v) = %08X", b, got)
		}
		if got := crc.Update(sum, b); got != crc32.Update(sum, crc32.IEEETable, b) {
			t.Errorf("Update(%08X, %v) = %08X", sum, b, got)
		}
		if got, e := crc.Combine(sum, crc.Sum(b), len(b)); got != crc.Update(sum, b) || e != api.OK {
			t.Errorf("Combine(%08X, Sum(%v)) = %08X, %d", sum, b, got, e)
		}
		got, e := crc.Combine(sum, 1, n)
		if n < 0 && (got != 0 || e != api.ErrArg) || n >= 0 && (got != shifted(sum, uint64(n))^1 || e != api.OK) {
			t.Errorf("Combine(%08X, 1, %d) = %08X, %d", sum, n, got, e)
		}
	})
}
