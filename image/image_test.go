package image_test

import (
	"bytes"
	"fmt"
	"math"
	"math/rand/v2"
	"slices"
	"testing"

	"drumlin/api"
	"drumlin/image"
)

// What follows up to the first test is the chapter's definitions, byte by byte.

// cell is a byte of an image, which says itself whether it is durable.
type cell struct {
	value   byte
	durable bool
}

// twin is an image, and the size and the bytes that it has to have.
type twin struct {
	m     *image.Image
	size  int
	cells []cell
}

func newTwin(t *testing.T, size int) *twin {
	t.Helper()
	m, e := image.New(size)
	if m == nil || e != api.OK {
		t.Fatalf("New(%d) is %v, %d", size, m, e)
	}
	return &twin{m: m, size: size}
}

// filled returns a twin with so many durable bytes, and so many unsynced ones behind them; no two neighbours are equal.
func filled(t *testing.T, size, durable, unsynced int) *twin {
	t.Helper()
	w := newTwin(t, size)
	b := pattern(durable + unsynced)
	w.append(t, b[:durable])
	w.sync()
	w.append(t, b[durable:])
	return w
}

func pattern(n int) []byte {
	b := make([]byte, n)
	for i := range b {
		b[i] = byte(i + i/251 + 1)
	}
	return b
}

func (w *twin) String() string {
	if len(w.cells) > 40 {
		return fmt.Sprintf("%d bytes, %d of them durable, of %d", len(w.cells), w.durable(), w.size)
	}
	return fmt.Sprintf("%v, %d of them durable, of %d", w.bytes(), w.durable(), w.size)
}

func (w *twin) bytes() []byte {
	b := make([]byte, len(w.cells))
	for i, c := range w.cells {
		b[i] = c.value
	}
	return b
}

func (w *twin) durable() int {
	n := 0
	for _, c := range w.cells {
		if c.durable {
			n++
		}
	}
	return n
}

func (w *twin) append(t *testing.T, b []byte) {
	t.Helper()
	want := api.OK
	if len(w.cells)+len(b) > w.size {
		want = api.ErrFull
	}
	if e := w.m.Append(b); e != want {
		t.Errorf("%v: Append of %d bytes is %d", w, len(b), e)
	}
	if want == api.OK {
		for _, v := range b {
			w.cells = append(w.cells, cell{value: v})
		}
	}
}

func (w *twin) sync() {
	w.m.Sync()
	for i := range w.cells {
		w.cells[i].durable = true
	}
}

func (w *twin) crash(t *testing.T, keep int) {
	t.Helper()
	want := api.OK
	if keep < 0 {
		want = api.ErrArg
	}
	if e := w.m.Crash(keep); e != want {
		t.Errorf("%v: Crash(%d) is %d", w, keep, e)
	}
	if want != api.OK {
		return
	}
	var kept []cell
	for _, c := range w.cells {
		if !c.durable && keep == 0 {
			continue
		}
		if !c.durable {
			keep--
		}
		kept = append(kept, cell{c.value, true})
	}
	w.cells = kept
}

func (w *twin) erase() {
	w.m.Erase()
	w.cells = nil
}

func (w *twin) copy(t *testing.T) *twin {
	t.Helper()
	c := w.m.Copy()
	if c == nil || c == w.m {
		t.Fatalf("%v: Copy returned nil, or the image itself", w)
	}
	return &twin{c, w.size, slices.Clone(w.cells)}
}

// read compares what Read returns, and then overwrites it.
func (w *twin) read(t *testing.T, off, n int) {
	t.Helper()
	want := api.OK
	// Neither number is negative in the second comparison, so the sum fits.
	if off < 0 || n < 0 || uint64(off)+uint64(n) > uint64(len(w.cells)) {
		want = api.ErrRange
	}
	got, e := w.m.Read(off, n)
	if e != want {
		t.Errorf("%v: Read(%d, %d) is %d", w, off, n, e)
	}
	if want != api.OK {
		if len(got) != 0 {
			t.Errorf("%v: Read(%d, %d) returns bytes with an error: %v", w, off, n, got)
		}
		return
	}
	if len(got) != n {
		t.Errorf("%v: Read(%d, %d) returns %d bytes", w, off, n, len(got))
	}
	for i, v := range got[:min(n, len(got))] {
		if v != w.cells[off+i].value {
			t.Errorf("%v: Read(%d, %d) returns %v at %d", w, off, n, v, i)
			break
		}
	}
	spoil(got)
}

// spoil changes each byte of a slice, also those behind its length.
func spoil(b []byte) {
	b = b[:cap(b)]
	for i := range b {
		b[i] += 101
	}
}

// measure compares the four numbers of an image.
func (w *twin) measure(t *testing.T) {
	t.Helper()
	if n := w.m.Len(); n != len(w.cells) {
		t.Errorf("%v: Len is %d", w, n)
	}
	if n := w.m.Durable(); n != w.durable() {
		t.Errorf("%v: Durable is %d", w, n)
	}
	if n := w.m.Room(); n != w.size-len(w.cells) {
		t.Errorf("%v: Room is %d", w, n)
	}
	if n := w.m.Size(); n != w.size {
		t.Errorf("%v: Size is %d", w, n)
	}
}

// check compares the numbers and the bytes of an image.
func (w *twin) check(t *testing.T) {
	t.Helper()
	w.measure(t)
	w.read(t, 0, len(w.cells))
}

// compare asks an image everything that does not change it, with each two of the numbers, and compares it with the definitions.
func (w *twin) compare(t *testing.T) {
	t.Helper()
	w.check(t)
	all := numbers(w.size, len(w.cells), w.durable())
	for _, off := range all {
		for _, n := range all {
			w.read(t, off, n)
		}
	}
	// The reads have overwritten what they returned.
	w.check(t)
}

// numbers are those beside the ends of an image, of its bytes and of the durable ones, and those beside the limits of int.
func numbers(size, length, durable int) []int {
	all := []int{math.MinInt, math.MinInt + 1, -1 << 32, -2, -1, 0, 1, 2, 3, 1 << 16, 1 << 32, 1<<32 + 1, math.MaxInt - 1, math.MaxInt, math.MinInt + length, math.MaxInt - length, math.MaxInt - length + 1}
	for _, n := range []int{size, length, durable, length - durable} {
		all = append(all, -n, n-1, n, n+1)
	}
	slices.Sort(all)
	return slices.Compact(all)
}

// built returns an image of the size 6 with the durable bytes, and the unsynced ones behind them.
func built(durable, unsynced string) *image.Image {
	m, _ := image.New(6)
	m.Append([]byte(durable))
	m.Sync()
	m.Append([]byte(unsynced))
	return m
}

// text returns an image's durable bytes, the others, and its size.
func text(m *image.Image) string {
	b, e := m.Read(0, m.Len())
	if e != api.OK || m.Durable() > len(b) || m.Room() != m.Size()-len(b) {
		return fmt.Sprint("error ", e, " ", m.Len(), " ", m.Durable(), " ", m.Room(), " ", m.Size())
	}
	return fmt.Sprintf("%s|%s of %d", b[:m.Durable()], b[m.Durable():], m.Size())
}

// TestExamples makes the calls of the chapter's table, in their order.
func TestExamples(t *testing.T) {
	m, e := image.New(6)
	if m == nil || e != api.OK {
		t.Fatal(m, e)
	}
	is := func(got, want any) {
		t.Helper()
		if got != want {
			t.Error(got, "not", want)
		}
	}
	read := func(off, n int, want []byte, wantE api.Errno) {
		t.Helper()
		got, e := m.Read(off, n)
		if !bytes.Equal(got, want) || e != wantE {
			t.Errorf("Read(%d, %d) is %v, %d", off, n, got, e)
		}
	}
	is(m.Append([]byte{1, 2}), api.OK)
	m.Sync()
	is(m.Append([]byte{3, 4, 5}), api.OK)
	is(m.Len(), 5)
	is(m.Durable(), 2)
	is(m.Room(), 1)
	is(m.Append([]byte{6, 7}), api.ErrFull)
	read(1, 3, []byte{2, 3, 4}, api.OK)
	read(3, 3, nil, api.ErrRange)
	read(5, 0, nil, api.OK)
	is(m.Crash(1), api.OK)
	is(m.Len(), 3)
	is(m.Durable(), 3)
	read(0, 3, []byte{1, 2, 3}, api.OK)
	is(m.Append([]byte{8}), api.OK)
	is(m.Crash(-1), api.ErrArg)
	is(m.Crash(0), api.OK)
	is(m.Len(), 3)
	m.Erase()
	is(m.Len(), 0)
	is(m.Durable(), 0)
	is(m.Append([]byte{1, 2, 3, 4, 5, 6}), api.OK)
	is(m.Append(nil), api.OK)
	for _, size := range []int{0, 8193} {
		if m, e := image.New(size); m != nil || e != api.ErrArg {
			t.Error(size, m, e)
		}
	}
}

// P9.1

// TestNewWithEachSize fills an image of each size, since only that shows where it ends.
func TestNewWithEachSize(t *testing.T) {
	b := pattern(api.MaxSize + 1)
	for size := 1; size <= api.MaxSize; size++ {
		w := newTwin(t, size)
		w.check(t)
		w.append(t, b[:size+1])
		w.check(t)
		w.append(t, b[:size])
		w.append(t, b[:1])
		w.check(t)
	}
}

func TestNewWithOtherSizes(t *testing.T) {
	for _, size := range []int{0, -1, -2, -6, -8192, -8193, -1 << 32, -1<<32 + 6, math.MinInt, math.MinInt + 1, math.MinInt + 6, 8193, 8194, 8198, 16384, 1 << 16, 1<<16 + 6, 1<<31 + 1, 1 << 32, 1<<32 + 6, math.MaxInt - 1, math.MaxInt} {
		if m, e := image.New(size); m != nil || e != api.ErrArg {
			t.Errorf("New(%d) is %v, %d", size, m, e)
		}
	}
}

func TestNewImagesAreIndependent(t *testing.T) {
	a, b, c := newTwin(t, 6), newTwin(t, 6), newTwin(t, 6)
	a.append(t, []byte("abc"))
	b.append(t, []byte("xy"))
	b.sync()
	for _, w := range []*twin{a, b, c} {
		w.compare(t)
	}
	a.crash(t, 1)
	b.erase()
	for _, w := range []*twin{a, b, c} {
		w.compare(t)
	}
}

func TestCopyHasTheSameState(t *testing.T) {
	for size := 1; size <= 7; size++ {
		for durable := range size + 1 {
			for unsynced := range size - durable + 1 {
				w := filled(t, size, durable, unsynced)
				c := w.copy(t)
				c.compare(t)
				c.copy(t).compare(t)
				// The copy has as much room, and loses the same bytes.
				c.append(t, pattern(size-durable-unsynced+1))
				c.append(t, pattern(size-durable-unsynced))
				c.append(t, []byte{9})
				c.compare(t)
				c.crash(t, 1)
				c.compare(t)
				w.compare(t)
				w.copy(t).compare(t)
			}
		}
	}
	for _, w := range []*twin{filled(t, 8192, 8192, 0), filled(t, 8192, 0, 8192), filled(t, 8192, 5000, 3191), filled(t, 8191, 1, 8190)} {
		w.copy(t).compare(t)
		w.compare(t)
	}
}

// changes are all kinds of changes of an image of the size 6 with the durable bytes ab and the unsynced bytes cd.
var changes = []struct {
	name   string
	change func(*image.Image)
	want   string
}{
	{"one more", func(m *image.Image) { m.Append([]byte("x")) }, "ab|cdx of 6"},
	{"another one more", func(m *image.Image) { m.Append([]byte("y")) }, "ab|cdy of 6"},
	{"as many as it has room for", func(m *image.Image) { m.Append([]byte("vw")) }, "ab|cdvw of 6"},
	{"two that are synced", func(m *image.Image) { m.Append([]byte("vw")); m.Sync() }, "abcdvw| of 6"},
	{"a sync", func(m *image.Image) { m.Sync() }, "abcd| of 6"},
	{"a sync, and one more", func(m *image.Image) { m.Sync(); m.Append([]byte("x")) }, "abcd|x of 6"},
	{"a crash", func(m *image.Image) { m.Crash(0) }, "ab| of 6"},
	{"a crash that keeps one", func(m *image.Image) { m.Crash(1) }, "abc| of 6"},
	{"a crash that keeps all", func(m *image.Image) { m.Crash(9) }, "abcd| of 6"},
	{"a crash, and others", func(m *image.Image) { m.Crash(0); m.Append([]byte("xyz")) }, "ab|xyz of 6"},
	{"an erase", func(m *image.Image) { m.Erase() }, "| of 6"},
	{"an erase, and others", func(m *image.Image) { m.Erase(); m.Append([]byte("vwxyz")) }, "|vwxyz of 6"},
	{"others that are synced", func(m *image.Image) { m.Erase(); m.Append([]byte("xyz")); m.Sync() }, "xyz| of 6"},
	{"none", func(m *image.Image) { m.Append(nil) }, "ab|cd of 6"},
}

// originals return images of the size 6 with the durable bytes ab and the unsynced bytes cd, and different histories.
var originals = map[string]func() *image.Image{
	"built": func() *image.Image { return built("ab", "cd") },
	"byte by byte": func() *image.Image {
		m := built("a", "")
		m.Append([]byte("b"))
		m.Sync()
		m.Append([]byte("c"))
		m.Append([]byte("d"))
		return m
	},
	"after a crash": func() *image.Image {
		m := built("a", "bxyzv")
		m.Crash(1)
		m.Append([]byte("cd"))
		return m
	},
	"after an erase": func() *image.Image {
		m := built("vwx", "yz")
		m.Erase()
		m.Append([]byte("ab"))
		m.Crash(2)
		m.Append([]byte("cd"))
		return m
	},
	"after refusals": func() *image.Image {
		m := built("ab", "cd")
		m.Append([]byte("xyz"))
		m.Crash(-1)
		return m
	},
	"copied":       func() *image.Image { return built("ab", "cd").Copy() },
	"copied twice": func() *image.Image { return built("ab", "cd").Copy().Copy() },
	"copied, and more": func() *image.Image {
		m := built("ab", "c").Copy()
		m.Append([]byte("d"))
		return m
	},
}

func TestCopyIsIndependent(t *testing.T) {
	const unchanged = "ab|cd of 6"
	for name, original := range originals {
		for _, first := range changes {
			for _, second := range changes {
				m := original()
				c, d := m.Copy(), m.Copy()
				first.change(c)
				if text(m) != unchanged || text(d) != unchanged || text(c) != first.want {
					t.Errorf("%s; the copy has %s: %s, %s and %s", name, first.name, text(m), text(d), text(c))
				}
				second.change(m)
				if text(m) != second.want || text(d) != unchanged || text(c) != first.want {
					t.Errorf("%s; the copy has %s, the image %s: %s, %s and %s", name, first.name, second.name, text(m), text(d), text(c))
				}
			}
		}
	}
}

// P9.2

// TestAppend appends each number of bytes to images with each number of durable and unsynced bytes.
func TestAppend(t *testing.T) {
	for size := 1; size <= 6; size++ {
		for durable := range size + 1 {
			for unsynced := range size - durable + 1 {
				for n := range size + 3 {
					w := filled(t, size, durable, unsynced)
					w.append(t, bytes.Repeat([]byte{200}, n))
					w.compare(t)
				}
			}
		}
	}
}

func TestAppendNoBytes(t *testing.T) {
	for _, w := range []*twin{filled(t, 6, 0, 0), filled(t, 6, 2, 0), filled(t, 6, 0, 3), filled(t, 6, 2, 3), filled(t, 6, 6, 0), filled(t, 6, 1, 5)} {
		for _, b := range [][]byte{nil, {}, make([]byte, 0, 10), []byte("abc")[:0]} {
			w.append(t, b)
			w.compare(t)
		}
	}
}

// TestAppendToFullImages appends too much, and then what there is still room for, to images of great sizes.
func TestAppendToFullImages(t *testing.T) {
	for _, size := range []int{1, 2, 255, 256, 257, 4095, 8191, 8192} {
		for _, room := range []int{0, 1, min(size, 100), size} {
			w := filled(t, size, (size-room)/2, size-room-(size-room)/2)
			for _, n := range []int{room + 1, room + 2, size + 1, 8193, 1 << 16, 1<<16 + room} {
				if n > room {
					w.append(t, pattern(n))
				}
			}
			w.compare(t)
			w.append(t, pattern(room))
			w.compare(t)
			w.append(t, []byte{1})
			w.append(t, nil)
			w.compare(t)
		}
	}
}

// TestAppendByteByByte fills an image of the greatest size with bytes of every value.
func TestAppendByteByByte(t *testing.T) {
	w := newTwin(t, api.MaxSize)
	for i := range api.MaxSize + 2 {
		w.append(t, []byte{byte(i * 7)})
		w.measure(t)
		w.read(t, max(0, len(w.cells)-3), min(3, len(w.cells)))
	}
	w.compare(t)
}

func TestBytesOfEachValue(t *testing.T) {
	for v := range 256 {
		w := newTwin(t, 3)
		w.append(t, []byte{byte(v)})
		w.sync()
		w.append(t, []byte{byte(255 - v), byte(v)})
		w.compare(t)
		w.crash(t, 1)
		w.compare(t)
	}
}

func TestNewBytesAreNotDurable(t *testing.T) {
	w := newTwin(t, 20)
	for _, n := range []int{3, 1, 0, 4} {
		w.append(t, pattern(n))
		w.measure(t)
	}
	w.sync()
	w.append(t, pattern(2))
	w.compare(t)
	w.crash(t, 1)
	w.append(t, pattern(5))
	w.compare(t)
	w.erase()
	w.append(t, pattern(6))
	w.compare(t)
}

// P9.3

func TestSync(t *testing.T) {
	for size := 1; size <= 6; size++ {
		for durable := range size + 1 {
			for unsynced := range size - durable + 1 {
				w := filled(t, size, durable, unsynced)
				// The second one finds all bytes durable.
				for range 2 {
					w.sync()
					w.compare(t)
				}
				w.append(t, []byte{7})
				w.compare(t)
				w.sync()
				w.compare(t)
				w.crash(t, 0)
				w.compare(t)
			}
		}
	}
}

func TestErase(t *testing.T) {
	for size := 1; size <= 6; size++ {
		for durable := range size + 1 {
			for unsynced := range size - durable + 1 {
				w := filled(t, size, durable, unsynced)
				for range 2 {
					w.erase()
					w.compare(t)
				}
				w.sync()
				w.compare(t)
				w.crash(t, 3)
				w.compare(t)
				// An image that was erased has room for as much as a new one.
				w.append(t, pattern(size+1))
				w.append(t, pattern(size))
				w.compare(t)
				w.erase()
				w.compare(t)
			}
		}
	}
}

func TestSyncAndEraseOfGreatImages(t *testing.T) {
	w := filled(t, api.MaxSize, 4000, 4192)
	w.sync()
	w.compare(t)
	w.erase()
	w.compare(t)
	w.append(t, pattern(api.MaxSize))
	w.compare(t)
	w.erase()
	w.sync()
	w.compare(t)
}

// P9.4

// keeps are numbers below 0, and those beside a number of bytes and the limits.
func keeps(n int) []int {
	return []int{math.MinInt, math.MinInt + 1, math.MinInt + n, -1 << 32, -n - 1, -n, -2, -1, 0, 1, n / 2, n - 1, n, n + 1, n + 2, 2 * n, 8192, 8193, 1 << 16, 1 << 31, 1 << 32, math.MaxInt - n, math.MaxInt - n + 1, math.MaxInt - 1, math.MaxInt}
}

func TestCrash(t *testing.T) {
	for size := 1; size <= 6; size++ {
		for durable := range size + 1 {
			for unsynced := range size - durable + 1 {
				for _, keep := range append(keeps(unsynced), keeps(durable+unsynced)...) {
					w := filled(t, size, durable, unsynced)
					w.crash(t, keep)
					w.compare(t)
					// What was removed does not come back, and its room is there again.
					w.append(t, []byte{88})
					w.compare(t)
				}
			}
		}
	}
}

func TestCrashOfEmptyImages(t *testing.T) {
	for _, keep := range append(keeps(0), keeps(6)...) {
		w := newTwin(t, 6)
		w.crash(t, keep)
		w.compare(t)
		w.append(t, pattern(6))
		w.compare(t)
	}
}

func TestCrashOfGreatImages(t *testing.T) {
	for _, c := range [][2]int{{0, 8192}, {1, 8191}, {4096, 4096}, {5000, 3000}, {8191, 1}, {8192, 0}} {
		for _, keep := range keeps(c[1]) {
			w := filled(t, api.MaxSize, c[0], c[1])
			w.crash(t, keep)
			w.check(t)
			w.append(t, pattern(api.MaxSize-len(w.cells)+1))
			w.append(t, pattern(api.MaxSize-len(w.cells)))
			w.check(t)
		}
	}
}

func TestCrashTwice(t *testing.T) {
	for _, first := range keeps(4) {
		for _, second := range keeps(4) {
			w := filled(t, 8, 3, 4)
			w.crash(t, first)
			w.crash(t, second)
			w.compare(t)
		}
	}
}

// P9.5

// TestReadEachPart reads all parts of images with each number of durable and unsynced bytes, and more.
func TestReadEachPart(t *testing.T) {
	const size = 9
	for durable := range size + 1 {
		for unsynced := range size - durable + 1 {
			w := filled(t, size, durable, unsynced)
			for off := -2; off <= size+2; off++ {
				for n := -2; n <= size+2; n++ {
					w.read(t, off, n)
				}
			}
			w.compare(t)
		}
	}
}

// TestReadBesideTheLimits has sums that are more than any int, and others that wrap around to 0 and to parts that are there.
func TestReadBesideTheLimits(t *testing.T) {
	for _, w := range []*twin{filled(t, 1, 0, 0), filled(t, 6, 2, 3), filled(t, 8192, 8000, 192), filled(t, 8192, 100, 8000)} {
		w.compare(t)
	}
	m := built("ab", "cd")
	for _, c := range [][2]int{{math.MaxInt, 1}, {1, math.MaxInt}, {math.MaxInt, math.MaxInt}, {math.MaxInt, 0}, {0, math.MaxInt}, {math.MaxInt - 1, 2}, {2, math.MaxInt - 1}, {4, math.MaxInt - 3}, {math.MinInt, math.MinInt}, {math.MinInt, math.MaxInt}, {math.MaxInt, math.MinInt}, {-1, 1}, {-1, 5}, {1, -1}, {5, -1}, {4, -4}, {-4, 4}, {0, -1}, {-1, 0}, {5, 0}, {4, 1}, {0, 5}} {
		if b, e := m.Read(c[0], c[1]); len(b) != 0 || e != api.ErrRange {
			t.Errorf("Read(%d, %d) is %q, %d", c[0], c[1], b, e)
		}
	}
}

func TestRead(t *testing.T) {
	m := built("ab", "cd")
	for _, c := range []struct {
		off, n int
		want   string
	}{{0, 4, "abcd"}, {0, 2, "ab"}, {2, 2, "cd"}, {1, 2, "bc"}, {0, 1, "a"}, {3, 1, "d"}, {0, 0, ""}, {2, 0, ""}, {4, 0, ""}} {
		if b, e := m.Read(c.off, c.n); string(b) != c.want || e != api.OK {
			t.Errorf("Read(%d, %d) is %q, %d", c.off, c.n, b, e)
		}
	}
}

// P9.6

func TestNumbersAfterEachCall(t *testing.T) {
	m, _ := image.New(10)
	is := func(name string, length, durable, room int) {
		t.Helper()
		if m.Len() != length || m.Durable() != durable || m.Room() != room || m.Size() != 10 {
			t.Errorf("%s: Len is %d, Durable %d, Room %d, Size %d", name, m.Len(), m.Durable(), m.Room(), m.Size())
		}
	}
	is("New", 0, 0, 10)
	m.Append(make([]byte, 4))
	is("Append", 4, 0, 6)
	m.Append(make([]byte, 7))
	is("Append of too much", 4, 0, 6)
	m.Append(nil)
	is("Append of nothing", 4, 0, 6)
	m.Sync()
	is("Sync", 4, 4, 6)
	m.Append(make([]byte, 5))
	is("Append after Sync", 9, 4, 1)
	m.Read(0, 9)
	m.Read(3, 9)
	is("Read", 9, 4, 1)
	m = m.Copy()
	is("Copy", 9, 4, 1)
	m.Crash(-1)
	is("Crash(-1)", 9, 4, 1)
	m.Crash(3)
	is("Crash", 7, 7, 3)
	m.Append(make([]byte, 3))
	is("Append to the end", 10, 7, 0)
	m.Sync()
	is("Sync of a full image", 10, 10, 0)
	m.Erase()
	is("Erase", 0, 0, 10)
	m.Append(make([]byte, 10))
	is("Append after Erase", 10, 0, 0)
	m.Crash(0)
	is("Crash(0)", 0, 0, 10)
}

// P9.7

// TestCrashesKeepPrefixes compares an image with itself: it needs no other definition of it.
func TestCrashesKeepPrefixes(t *testing.T) {
	r := rand.New(rand.NewPCG(9, 7))
	for range 2000 {
		m := randomImage(r)
		before, durable := whole(t, m), m.Durable()
		if e := m.Crash(r.IntN(m.Size() + 2)); e != api.OK {
			t.Fatal(e)
		}
		after := whole(t, m)
		if !bytes.HasPrefix(before, after) || len(after) < durable || m.Durable() != len(after) {
			t.Fatalf("%d of %d bytes are durable; after a crash there are %d, and %d are durable", durable, len(before), len(after), m.Durable())
		}
		for _, keep := range []int{0, r.IntN(m.Size() + 2), math.MaxInt} {
			if e := m.Crash(keep); e != api.OK || !bytes.Equal(whole(t, m), after) || m.Durable() != len(after) {
				t.Fatalf("a second crash that keeps %d changed %d bytes to %d, of which %d are durable, %d", keep, len(after), m.Len(), m.Durable(), e)
			}
		}
	}
}

func randomImage(r *rand.Rand) *image.Image {
	m, _ := image.New(1 + r.IntN(40))
	for range r.IntN(6) {
		m.Append(randomBytes(r, r.IntN(m.Size()+1)))
		if r.IntN(3) == 0 {
			m.Sync()
		}
	}
	return m
}

func randomBytes(r *rand.Rand, n int) []byte {
	b := make([]byte, n)
	for i := range b {
		b[i] = byte(r.Uint32())
	}
	return b
}

func whole(t *testing.T, m *image.Image) []byte {
	t.Helper()
	b, e := m.Read(0, m.Len())
	if e != api.OK || len(b) != m.Len() {
		t.Fatalf("Read(0, %d) returns %d bytes, %d", m.Len(), len(b), e)
	}
	return b
}

// P9.8

// TestBytesStay makes all calls but Erase and Crash, and looks after each of them at what was there before it.
func TestBytesStay(t *testing.T) {
	for seed := range uint64(50) {
		r := rand.New(rand.NewPCG(98, seed))
		m, _ := image.New(1 + r.IntN(200))
		for range 100 {
			before, durable := whole(t, m), m.Durable()
			switch r.IntN(5) {
			case 0:
				m.Append(randomBytes(r, r.IntN(8)))
			case 1:
				m.Append(randomBytes(r, m.Room()+1+r.IntN(3)))
			case 2:
				m.Sync()
			case 3:
				ask(m)
			case 4:
				m = m.Copy()
			}
			if !bytes.HasPrefix(whole(t, m), before) || m.Durable() < durable {
				t.Fatalf("seed %d: there are not the %d bytes any more, or not %d of them durable", seed, len(before), durable)
			}
		}
	}
}

// TestEachSequence makes all sequences of up to five calls with an image of the size 3, of which some lead to errors.
func TestEachSequence(t *testing.T) {
	calls := []func(*twin, byte){
		func(w *twin, v byte) { w.append(t, []byte{v}) },
		func(w *twin, v byte) { w.append(t, []byte{v, v + 100}) },
		func(w *twin, _ byte) { w.sync() },
		func(w *twin, _ byte) { w.crash(t, 0) },
		func(w *twin, _ byte) { w.crash(t, 1) },
		func(w *twin, _ byte) { w.crash(t, 3) },
		func(w *twin, _ byte) { w.erase() },
		func(w *twin, _ byte) { *w = *w.copy(t) },
	}
	for length, sequences := 0, 1; length <= 5; length, sequences = length+1, sequences*len(calls) {
		for code := range sequences {
			w := newTwin(t, 3)
			for k, rest := 0, code; k < length; k, rest = k+1, rest/len(calls) {
				calls[rest%len(calls)](w, byte(k+1))
			}
			w.compare(t)
			if t.Failed() {
				t.Fatalf("sequence %d of %d calls", code, length)
			}
		}
	}
}

func TestMixedCalls(t *testing.T) {
	for seed := range uint64(40) {
		r := rand.New(rand.NewPCG(90, seed))
		w := newTwin(t, 1+r.IntN(30))
		v := newTwin(t, 1+r.IntN(api.MaxSize))
		for range 150 {
			switch r.IntN(12) {
			case 0, 1, 2, 3:
				w.append(t, randomBytes(r, r.IntN(w.size/3+2)))
			case 4:
				w.append(t, randomBytes(r, r.IntN(w.size+2)))
			case 5:
				w.sync()
			case 6, 7:
				w.crash(t, r.IntN(w.size+2)-1)
			case 8:
				w.erase()
			case 9:
				v = w.copy(t)
			case 10:
				w, v = v, w
			case 11:
				v = newTwin(t, 1+r.IntN(30))
			}
			w.check(t)
			v.check(t)
			w.read(t, r.IntN(w.size+2)-1, r.IntN(w.size+2)-1)
		}
		w.compare(t)
		v.compare(t)
	}
}

// R1

// ask calls each function that may not change an image, and each other one so that it returns an error.
func ask(m *image.Image) {
	m.Len()
	m.Durable()
	m.Room()
	m.Size()
	m.Copy()
	all := numbers(m.Size(), m.Len(), m.Durable())
	for _, off := range all {
		for _, n := range all {
			b, _ := m.Read(off, n)
			spoil(b)
		}
		if off < 0 {
			m.Crash(off)
		}
	}
	for _, n := range []int{1, 2, m.Size() + 1, 8193} {
		m.Append(bytes.Repeat([]byte{77}, m.Room()+n))
	}
	m.Append(nil)
	// What happens to a copy, and to another image, is nothing to this one.
	c := m.Copy()
	c.Append([]byte{1})
	c.Crash(0)
	c.Append([]byte{2})
	c.Erase()
	c.Sync()
}

func TestQuestionsAndErrorsChangeNothing(t *testing.T) {
	for size := 1; size <= 6; size++ {
		for durable := range size + 1 {
			for unsynced := range size - durable + 1 {
				w := filled(t, size, durable, unsynced)
				for range 3 {
					ask(w.m)
					w.compare(t)
				}
				// Changes after the questions do what they do without them.
				w.append(t, []byte{5})
				ask(w.m)
				w.compare(t)
				w.crash(t, 1)
				ask(w.m)
				w.compare(t)
				w.erase()
				ask(w.m)
				w.compare(t)
			}
		}
	}
}

// R3, R4

func TestSlicesThatAreChangedAfterAppend(t *testing.T) {
	for _, first := range []string{"", "ab"} {
		w := newTwin(t, 12)
		w.append(t, []byte(first))
		b := []byte("cdefgh")
		w.append(t, b[:4])
		spoil(b)
		w.compare(t)
		w.append(t, b[2:5])
		w.sync()
		spoil(b)
		w.compare(t)
		w.crash(t, 0)
		spoil(b)
		w.compare(t)
	}
}

// TestAppendLeavesItsArgument looks also at what is behind the length of the slice, after later calls, too.
func TestAppendLeavesItsArgument(t *testing.T) {
	for _, first := range []string{"", "ab"} {
		m, _ := image.New(12)
		m.Append([]byte(first))
		b := []byte("cdefghijklmnop")
		part := b[1:3]
		steps := []func(){
			func() { m.Append(part) },
			func() { m.Append([]byte("xyz")) },
			func() { m.Append(part[:12]) },
			func() { m.Crash(1) },
			func() { m.Append([]byte("vw")) },
			func() { m.Append(part) },
			func() { m.Sync() },
			func() { m.Erase() },
			func() { m.Append(part) },
			func() { m.Append([]byte("uvw")) },
		}
		for i, step := range steps {
			step()
			if string(b) != "cdefghijklmnop" || string(part) != "de" {
				t.Errorf("the step %d made %q and %q of the slices", i, b, part)
			}
		}
	}
}

// TestSlicesThatReadReturned changes them, and keeps them while the image changes.
func TestSlicesThatReadReturned(t *testing.T) {
	for durable := range 7 {
		for unsynced := range 7 - durable {
			for _, change := range changes {
				w := filled(t, 6, durable, unsynced)
				first, e := w.m.Read(0, durable+unsynced)
				second, f := w.m.Read(0, durable+unsynced)
				if e != api.OK || f != api.OK {
					t.Fatal(e, f)
				}
				kept := bytes.Clone(second)
				spoil(first)
				if !bytes.Equal(second, kept) {
					t.Errorf("%v: what Read returned twice is the same memory", w)
				}
				w.compare(t)
				_ = append(first, 1, 2, 3)
				w.compare(t)
				change.change(w.m)
				if !bytes.Equal(second, kept) {
					t.Errorf("%v: %s changed what Read returned before", w, change.name)
				}
			}
		}
	}
}

// TestAppendWhatReadReturned: a slice that Read returned is like any other one.
func TestAppendWhatReadReturned(t *testing.T) {
	w := filled(t, 12, 2, 1)
	b, _ := w.m.Read(1, 2)
	w.append(t, b)
	w.append(t, b)
	spoil(b)
	w.compare(t)
	w.sync()
	b, _ = w.m.Read(0, 5)
	w.append(t, b)
	w.compare(t)
	w.crash(t, 2)
	w.append(t, b)
	w.append(t, b[:3])
	spoil(b)
	w.compare(t)
}

// R8

// answers are the results of all calls, one after the other: two images that behave alike return equal ones.
func answers(m *image.Image) string {
	var got []any
	note := func(x ...any) { got = append(got, x...) }
	for i := -1; i < 9; i++ {
		b, e := m.Read(i, 8-2*i)
		note(b, e, m.Len(), m.Durable(), m.Room(), m.Size(), text(m), text(m.Copy()))
		note(m.Append(pattern(max(i, 0)%4)), text(m), m.Crash(i/2), text(m))
		note(m.Append([]byte{byte('k' + i)}), text(m))
		if i%3 == 0 {
			m.Sync()
		}
		note(m.Append([]byte{byte('n' + i)}), text(m))
		if i == 6 {
			m.Erase()
		}
	}
	return fmt.Sprint(got...)
}

func TestEqualImagesReturnEqualResults(t *testing.T) {
	want := answers(built("ab", "cd"))
	for name, original := range originals {
		m := original()
		c := m.Copy()
		d := c.Copy()
		for _, m := range []*image.Image{m, c, d} {
			if got := answers(m); got != want {
				t.Errorf("%s: %s, not %s", name, got, want)
			}
		}
	}
}

// R2

// invalid checks that an image answers as one that is not valid.
func invalid(t *testing.T, name string, m *image.Image) {
	t.Helper()
	// The second time tells whether the first one has changed the image.
	for range 2 {
		for _, b := range [][]byte{nil, {}, {1}, pattern(6), pattern(8193)} {
			if e := m.Append(b); e != api.ErrNil {
				t.Errorf("%s: Append of %d bytes is %d", name, len(b), e)
			}
		}
		m.Sync()
		for _, keep := range keeps(3) {
			if e := m.Crash(keep); e != api.ErrNil {
				t.Errorf("%s: Crash(%d) is %d", name, keep, e)
			}
		}
		m.Erase()
		for _, off := range numbers(6, 4, 2) {
			for _, n := range numbers(6, 4, 2) {
				if b, e := m.Read(off, n); len(b) != 0 || e != api.ErrNil {
					t.Errorf("%s: Read(%d, %d) is %v, %d", name, off, n, b, e)
				}
			}
		}
		if m.Len() != 0 || m.Durable() != 0 || m.Room() != 0 || m.Size() != 0 || m.Copy() != nil {
			t.Errorf("%s: Len is %d, Durable %d, Room %d, Size %d, Copy %v", name, m.Len(), m.Durable(), m.Room(), m.Size(), m.Copy())
		}
	}
}

func TestImagesThatAreNotValid(t *testing.T) {
	var zero image.Image
	invalid(t, "nil", nil)
	invalid(t, "zero", &zero)
	invalid(t, "new", new(image.Image))
	invalid(t, "literal", &image.Image{})
	refused, _ := image.New(8193)
	invalid(t, "refused", refused)
	var none *image.Image
	invalid(t, "copy of nil", none.Copy())
	invalid(t, "copy of zero", zero.Copy())
	images := make([]image.Image, 2)
	invalid(t, "element", &images[1])
}

// TestAssignedImagesAreNotValid: New and Copy return pointers; what they point to, assigned to a variable, is an image that neither of them returned.
func TestAssignedImagesAreNotValid(t *testing.T) {
	for _, m := range []*image.Image{built("", ""), built("ab", "cd"), built("", "xyz"), built("abcdef", ""), built("ab", "cd").Copy()} {
		unchanged := text(m)
		assigned := *m
		invalid(t, "assigned", &assigned)
		if text(m) != unchanged {
			t.Errorf("%s became %s", unchanged, text(m))
		}
		m.Erase()
		if e := m.Append([]byte("k")); e != api.OK || text(m) != "|k of 6" {
			t.Error("an image that was assigned is not valid itself any more", e, text(m))
		}
		invalid(t, "assigned", &assigned)
	}
}

// TestNothingIsDoneToAssignedImages assigns them back to the image, which shows what the calls did to them.
func TestNothingIsDoneToAssignedImages(t *testing.T) {
	for _, call := range []func(*image.Image){
		func(m *image.Image) { m.Sync() },
		func(m *image.Image) { m.Erase() },
		func(m *image.Image) { m.Append([]byte("k")) },
		func(m *image.Image) { m.Crash(1) },
	} {
		m := built("ab", "cd")
		assigned := *m
		call(&assigned)
		*m = assigned
		if text(m) != "ab|cd of 6" {
			t.Error(text(m))
		}
	}
}

func TestCopiesAreValid(t *testing.T) {
	for _, c := range []*image.Image{built("", "").Copy(), built("a", "b").Copy(), built("abc", "de").Copy().Copy()} {
		n := c.Len()
		if e := c.Append([]byte("k")); e != api.OK || c.Len() != n+1 {
			t.Error(e, c.Len())
		}
		c.Sync()
		if e := c.Crash(0); e != api.OK || c.Durable() != n+1 {
			t.Error(e, c.Durable())
		}
		c.Erase()
		if c.Len() != 0 || c.Room() != 6 {
			t.Error(c.Len(), c.Room())
		}
	}
}

// P1

// FuzzCalls makes the calls that the bytes say: three bits for the call, and five for a number.
func FuzzCalls(f *testing.F) {
	f.Add(8, []byte(""))
	f.Add(api.MaxSize, []byte("drumlin"))
	f.Add(1, []byte{0, 8, 16, 24, 32, 40, 48, 56, 255})
	f.Add(20, []byte("\x08\x10\x19\x04\x02\x0b\x13\x05\x06\x07\xff\xfe\xfd"))
	f.Add(-1, []byte("bytes"))
	f.Fuzz(func(t *testing.T, size int, calls []byte) {
		if size < 1 || size > api.MaxSize {
			if m, e := image.New(size); m != nil || e != api.ErrArg {
				t.Errorf("New(%d) is %v, %d", size, m, e)
			}
			return
		}
		w, v := newTwin(t, size), newTwin(t, 40)
		for i, c := range calls[:min(len(calls), 300)] {
			n := int(c / 8)
			switch c % 8 {
			case 0:
				w.append(t, pattern(n + i%3)[i%3:])
			case 1:
				w.append(t, bytes.Repeat([]byte{byte(i)}, n*n*n))
			case 2:
				w.sync()
			case 3:
				w.crash(t, n-1)
			case 4:
				w.erase()
			case 5:
				v = w.copy(t)
			case 6:
				w, v = v, w
			case 7:
				w.read(t, n*n-5, i)
			}
		}
		w.compare(t)
		v.compare(t)
	})
}
