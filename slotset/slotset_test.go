package slotset_test

import (
	"fmt"
	"math"
	"math/rand/v2"
	"slices"
	"testing"

	"drumlin/api"
	"drumlin/slotset"
)

// What follows up to the first test is the chapter's definitions, slot by slot.

const maxSize = api.MaxSlots + 2

// twin is a set, and which of its slots it has to have.
type twin struct {
	s  *slotset.Set
	in []bool
}

func newTwin(t *testing.T, size int, slots ...int) *twin {
	t.Helper()
	s, e := slotset.New(size)
	if s == nil || e != api.OK {
		t.Fatalf("New(%d) is %v, %d", size, s, e)
	}
	w := &twin{s, make([]bool, size)}
	for _, i := range slots {
		w.add(t, i)
	}
	return w
}

// subset has the slots whose bits are in the code.
func subset(t *testing.T, size, code int) *twin {
	t.Helper()
	w := newTwin(t, size)
	for i := range size {
		if code/power(i)%2 == 1 {
			w.add(t, i)
		}
	}
	return w
}

func power(n int) int {
	p := 1
	for range n {
		p *= 2
	}
	return p
}

// randomTwin has each of its slots with a probability of a third, two thirds, and so on.
func randomTwin(t *testing.T, r *rand.Rand, size int) *twin {
	t.Helper()
	w := newTwin(t, size)
	often := r.IntN(4)
	for i := range size {
		if r.IntN(3) < often {
			w.add(t, i)
		}
	}
	return w
}

func (w *twin) String() string { return fmt.Sprintf("%d:%v", len(w.in), w.slots()) }

func (w *twin) slots() []int {
	var all []int
	for i, has := range w.in {
		if has {
			all = append(all, i)
		}
	}
	return all
}

func (w *twin) has(i int) bool { return 0 <= i && i < len(w.in) && w.in[i] }

func (w *twin) next(from int) (int, bool) {
	for i, has := range w.in {
		if has && i >= from {
			return i, true
		}
	}
	return 0, false
}

func (w *twin) put(t *testing.T, i int, name string, call func(int) api.Errno, has bool) {
	t.Helper()
	want := api.ErrRange
	if 0 <= i && i < len(w.in) {
		want = api.OK
	}
	if e := call(i); e != want {
		t.Errorf("%v: %s(%d) is %d", w, name, i, e)
	}
	if want == api.OK {
		w.in[i] = has
	}
}

func (w *twin) add(t *testing.T, i int) {
	t.Helper()
	w.put(t, i, "Add", w.s.Add, true)
}

func (w *twin) remove(t *testing.T, i int) {
	t.Helper()
	w.put(t, i, "Remove", w.s.Remove, false)
}

func (w *twin) join(t *testing.T, v *twin, name string, call func(*slotset.Set) api.Errno, has bool) {
	t.Helper()
	want := api.ErrArg
	if len(w.in) == len(v.in) {
		want = api.OK
	}
	if e := call(v.s); e != want {
		t.Errorf("%v: %s with %v is %d", w, name, v, e)
	}
	if want == api.OK {
		for _, i := range v.slots() {
			w.in[i] = has
		}
	}
}

func (w *twin) union(t *testing.T, v *twin) {
	t.Helper()
	w.join(t, v, "Union", w.s.Union, true)
}

func (w *twin) minus(t *testing.T, v *twin) {
	t.Helper()
	w.join(t, v, "Minus", w.s.Minus, false)
}

func (w *twin) copy(t *testing.T) *twin {
	t.Helper()
	c := w.s.Copy()
	if c == nil || c == w.s {
		t.Fatalf("%v: Copy returned nil, or the set itself", w)
	}
	return &twin{c, slices.Clone(w.in)}
}

// compare asks a set everything that does not change it, with each number of numbers, and compares it with the definitions.
func (w *twin) compare(t *testing.T) {
	t.Helper()
	if n := w.s.Size(); n != len(w.in) {
		t.Errorf("%v: Size is %d", w, n)
	}
	if n := w.s.Len(); n != len(w.slots()) {
		t.Errorf("%v: Len is %d", w, n)
	}
	if got := slices.Collect(w.s.All()); !slices.Equal(got, w.slots()) {
		t.Errorf("%v: All yields %v", w, got)
	}
	least, any := w.next(0)
	if i, has := w.s.Lowest(); i != least || has != any {
		t.Errorf("%v: Lowest is %d, %t", w, i, has)
	}
	for _, i := range numbers(len(w.in)) {
		if has := w.s.Has(i); has != w.has(i) {
			t.Errorf("%v: Has(%d) is %t", w, i, has)
		}
		slot, any := w.next(i)
		if got, has := w.s.Next(i); got != slot || has != any {
			t.Errorf("%v: Next(%d) is %d, %t", w, i, got, has)
		}
	}
}

// numbers are those of the slots, and others: at the ends of a set of this size and of the greatest one, and those that are slots modulo 32, 64 or 2^32.
func numbers(size int) []int {
	all := []int{
		math.MinInt, math.MinInt + 1, math.MinInt + size, -1 << 63, -1<<32 - 1, -1 << 32, -1<<32 + size - 1, -1 << 31, -1000, -128, -65, -64, -63, -33, -32, -31, -size - 1, -size, -2, -1,
		size, size + 1, size + 2, 2 * size, 63, 64, 65, 64 + size - 1, 64 + size, 127, 128, 256, 1000, 1 << 16, 1<<31 - 1, 1 << 31, 1<<32 - 1, 1 << 32, 1<<32 + size - 1, 1<<32 + size, 1 << 40, math.MaxInt - 63, math.MaxInt - 1, math.MaxInt,
	}
	for i := range maxSize + 3 {
		all = append(all, i)
	}
	return all
}

// built returns a set of the size 8.
func built(slots ...int) *slotset.Set {
	s, _ := slotset.New(8)
	for _, i := range slots {
		s.Add(i)
	}
	return s
}

// text returns a set's size and its slots.
func text(s *slotset.Set) string {
	return fmt.Sprint(s.Size(), ":", slices.Collect(s.All()))
}

// TestExamples makes the calls of the chapter's table, in their order.
func TestExamples(t *testing.T) {
	s, e := slotset.New(8)
	if s == nil || e != api.OK {
		t.Fatal(s, e)
	}
	is := func(e, want api.Errno) {
		t.Helper()
		if e != want {
			t.Error(e, "not", want)
		}
	}
	all := func(want ...int) {
		t.Helper()
		if got := slices.Collect(s.All()); !slices.Equal(got, want) {
			t.Error("All", got, "not", want)
		}
	}
	slot := func(i int, has bool) func(int, bool) {
		return func(want int, wantHas bool) {
			t.Helper()
			if i != want || has != wantHas {
				t.Error(i, has, "not", want, wantHas)
			}
		}
	}
	is(s.Add(5), api.OK)
	is(s.Add(2), api.OK)
	is(s.Add(5), api.OK)
	is(s.Add(8), api.ErrRange)
	all(2, 5)
	slot(s.Next(3))(5, true)
	slot(s.Next(6))(0, false)
	slot(s.Lowest())(2, true)
	is(s.Remove(2), api.OK)
	slot(s.Lowest())(5, true)
	is(s.Union(built(0, 5)), api.OK)
	all(0, 5)
	is(s.Minus(built(5, 7)), api.OK)
	all(0)
	if s, e := slotset.New(34); s == nil || e != api.OK {
		t.Error(s, e)
	}
	if s, e := slotset.New(35); s != nil || e != api.ErrArg {
		t.Error(s, e)
	}
	other, _ := slotset.New(9)
	is(s.Union(other), api.ErrArg)
	all(0)
}

// P8.1

func TestNewWithEachSize(t *testing.T) {
	for size := 1; size <= maxSize; size++ {
		w := newTwin(t, size)
		w.compare(t)
		// A set of this size has room for exactly its slots.
		for i := -1; i <= maxSize; i++ {
			w.add(t, i)
		}
		w.compare(t)
		if n := w.s.Len(); n != size {
			t.Errorf("size %d: %d slots", size, n)
		}
	}
}

func TestNewWithOtherSizes(t *testing.T) {
	for _, size := range []int{0, -1, -2, -8, -34, -35, -64, -1 << 32, -1<<32 + 5, math.MinInt, math.MinInt + 1, math.MinInt + 8, 35, 36, 63, 64, 65, 66, 72, 128, 256 + 8, 1 << 16, 1<<31 + 1, 1 << 32, 1<<32 + 5, math.MaxInt - 1, math.MaxInt} {
		if s, e := slotset.New(size); s != nil || e != api.ErrArg {
			t.Errorf("New(%d) is %v, %d", size, s, e)
		}
	}
}

func TestNewSetsAreIndependent(t *testing.T) {
	a, b := newTwin(t, 8, 1, 2), newTwin(t, 8, 3)
	c := newTwin(t, 8)
	a.remove(t, 1)
	b.add(t, 7)
	for _, w := range []*twin{a, b, c} {
		w.compare(t)
	}
}

func TestCopyHasTheSameSizeAndSlots(t *testing.T) {
	r := rand.New(rand.NewPCG(8, 1))
	for size := 1; size <= maxSize; size++ {
		for range 5 {
			w := randomTwin(t, r, size)
			c := w.copy(t)
			c.compare(t)
			c.copy(t).compare(t)
			for i := -1; i <= maxSize; i++ {
				c.add(t, i)
			}
			c.compare(t)
			c.copy(t).compare(t)
			w.compare(t)
			w.copy(t).compare(t)
		}
	}
}

// changes are all kinds of changes of a set of the size 8 with the slots 1, 4 and 6.
var changes = []struct {
	name   string
	change func(*slotset.Set)
	want   string
}{
	{"one more", func(s *slotset.Set) { s.Add(2) }, "8:[1 2 4 6]"},
	{"another one more", func(s *slotset.Set) { s.Add(7) }, "8:[1 4 6 7]"},
	{"one that it has", func(s *slotset.Set) { s.Add(4) }, "8:[1 4 6]"},
	{"one less", func(s *slotset.Set) { s.Remove(4) }, "8:[1 6]"},
	{"another one less", func(s *slotset.Set) { s.Remove(1) }, "8:[4 6]"},
	{"another one", func(s *slotset.Set) { s.Remove(6); s.Add(5) }, "8:[1 4 5]"},
	{"some more", func(s *slotset.Set) { s.Union(built(0, 1, 3)) }, "8:[0 1 3 4 6]"},
	{"all", func(s *slotset.Set) { s.Union(built(0, 1, 2, 3, 4, 5, 6, 7)) }, "8:[0 1 2 3 4 5 6 7]"},
	{"some less", func(s *slotset.Set) { s.Minus(built(0, 1, 4)) }, "8:[6]"},
	{"none", func(s *slotset.Set) { s.Minus(s) }, "8:[]"},
	{"none of its own", func(s *slotset.Set) { s.Minus(built(1, 4, 6)); s.Union(built(0, 7)) }, "8:[0 7]"},
}

// originals return sets of the size 8 with the slots 1, 4 and 6, and different histories.
var originals = map[string]func() *slotset.Set{
	"built":     func() *slotset.Set { return built(1, 4, 6) },
	"backwards": func() *slotset.Set { return built(6, 4, 1) },
	"twice":     func() *slotset.Set { return built(4, 1, 4, 6, 1, 6) },
	"more before": func() *slotset.Set {
		s := built(0, 1, 4, 5, 6, 7)
		s.Remove(7)
		s.Minus(built(0, 5))
		return s
	},
	"none before": func() *slotset.Set {
		s := built(2, 3)
		s.Minus(s)
		s.Union(built(1, 4, 6))
		return s
	},
	"copied": func() *slotset.Set { return built(1, 4, 6).Copy() },
}

func TestCopyIsIndependent(t *testing.T) {
	const unchanged = "8:[1 4 6]"
	for name, original := range originals {
		for _, first := range changes {
			for _, second := range changes {
				s := original()
				c, d := s.Copy(), s.Copy()
				first.change(c)
				if text(s) != unchanged || text(d) != unchanged || text(c) != first.want {
					t.Errorf("%s; the copy has %s: %s, %s and %s", name, first.name, text(s), text(d), text(c))
				}
				second.change(s)
				if text(s) != second.want || text(d) != unchanged || text(c) != first.want {
					t.Errorf("%s; the copy has %s, the set %s: %s, %s and %s", name, first.name, second.name, text(s), text(d), text(c))
				}
			}
		}
	}
}

// P8.2

func TestAddAndRemoveEachSlot(t *testing.T) {
	for size := 1; size <= maxSize; size++ {
		for i := range size {
			w := newTwin(t, size)
			// The second one of each two finds the slot as it has to be.
			for range 2 {
				w.add(t, i)
				w.compare(t)
			}
			for range 2 {
				w.remove(t, i)
				w.compare(t)
			}
			w.add(t, i)
			w.compare(t)
		}
	}
}

// TestRemoveFromFullSets removes each slot, and adds it again, where all other slots are there.
func TestRemoveFromFullSets(t *testing.T) {
	for size := 1; size <= maxSize; size++ {
		w := newTwin(t, size)
		for i := range size {
			w.add(t, i)
		}
		for i := range size {
			for range 2 {
				w.remove(t, i)
				w.compare(t)
			}
			w.add(t, i)
		}
		w.compare(t)
	}
}

func TestNumbersThatAreNoSlots(t *testing.T) {
	for size := 1; size <= maxSize; size++ {
		for _, w := range []*twin{newTwin(t, size), newTwin(t, size, size-1), newTwin(t, size, 0, size/2)} {
			for _, i := range numbers(size) {
				if 0 <= i && i < size {
					continue
				}
				w.add(t, i)
				w.remove(t, i)
			}
			w.compare(t)
		}
	}
}

// P8.3

func TestHasAndLen(t *testing.T) {
	s := built(0, 3, 7)
	for i, want := range []bool{true, false, false, true, false, false, false, true} {
		if s.Has(i) != want {
			t.Error(i, s.Has(i))
		}
	}
	for _, i := range []int{-1, -8, 8, 9, 64, 67, 1<<32 + 3, math.MinInt, math.MinInt + 3, math.MaxInt} {
		if s.Has(i) {
			t.Error(i)
		}
	}
	if s.Len() != 3 {
		t.Error(s.Len())
	}
}

// TestEachSubset compares all sets of the sizes up to 8.
func TestEachSubset(t *testing.T) {
	for size := 1; size <= 8; size++ {
		for code := range power(size) {
			subset(t, size, code).compare(t)
		}
	}
}

func TestGreatSets(t *testing.T) {
	r := rand.New(rand.NewPCG(8, 3))
	for size := 9; size <= maxSize; size++ {
		for range 20 {
			randomTwin(t, r, size).compare(t)
		}
		for i := range size {
			for j := range i + 1 {
				newTwin(t, size, i, j).compare(t)
			}
		}
	}
}

// P8.4

func TestNext(t *testing.T) {
	s, _ := slotset.New(maxSize)
	for _, i := range []int{3, 4, 20, 33} {
		s.Add(i)
	}
	for _, c := range []struct {
		from, want int
		has        bool
	}{
		{math.MinInt, 3, true}, {-1 << 32, 3, true}, {-64, 3, true}, {-1, 3, true}, {0, 3, true}, {2, 3, true}, {3, 3, true},
		{4, 4, true}, {5, 20, true}, {19, 20, true}, {20, 20, true}, {21, 33, true}, {32, 33, true}, {33, 33, true},
		{34, 0, false}, {35, 0, false}, {63, 0, false}, {64, 0, false}, {67, 0, false}, {1 << 32, 0, false}, {math.MaxInt, 0, false},
	} {
		if i, has := s.Next(c.from); i != c.want || has != c.has {
			t.Errorf("Next(%d) is %d, %t", c.from, i, has)
		}
	}
}

func TestLowest(t *testing.T) {
	for size := 1; size <= maxSize; size++ {
		w := newTwin(t, size)
		if i, has := w.s.Lowest(); i != 0 || has {
			t.Errorf("%v: Lowest is %d, %t", w, i, has)
		}
		for i := size - 1; i >= 0; i-- {
			w.add(t, i)
			if low, has := w.s.Lowest(); low != i || !has {
				t.Errorf("%v: Lowest is %d, %t", w, low, has)
			}
		}
		for i := range size {
			if low, has := w.s.Lowest(); low != i || !has {
				t.Errorf("%v: Lowest is %d, %t", w, low, has)
			}
			w.remove(t, i)
		}
		w.compare(t)
	}
}

// TestNextWalksAll goes from slot to slot, as All does.
func TestNextWalksAll(t *testing.T) {
	r := rand.New(rand.NewPCG(8, 4))
	for range 100 {
		w := randomTwin(t, r, 1+r.IntN(maxSize))
		var got []int
		for i, has := w.s.Lowest(); has; i, has = w.s.Next(i + 1) {
			got = append(got, i)
		}
		if !slices.Equal(got, w.slots()) || !slices.Equal(got, slices.Collect(w.s.All())) {
			t.Errorf("%v: Next walks over %v", w, got)
		}
	}
}

func TestLoopsStopEarly(t *testing.T) {
	want := []int{0, 1, 3, 6, 7}
	s := built(want...)
	all := s.All()
	for n := 1; n <= len(want); n++ {
		var got []int
		// The iterator is called as a function, since a loop would panic, and not count, if it went on.
		all(func(i int) bool {
			got = append(got, i)
			return len(got) < n
		})
		if !slices.Equal(got, want[:n]) {
			t.Errorf("All, stopped after %d slots: %v", n, got)
		}
		got = nil
		for i := range s.All() {
			got = append(got, i)
			if len(got) == n {
				break
			}
		}
		if !slices.Equal(got, want[:n]) {
			t.Errorf("a loop over All that ends after %d slots: %v", n, got)
		}
	}
	if text(s) != "8:[0 1 3 6 7]" {
		t.Error(text(s))
	}
}

func TestLoopsBeginAnew(t *testing.T) {
	all := built(2, 3, 5).All()
	for _, last := range []int{2, 3, 5} {
		for i := range all {
			if i == last {
				break
			}
		}
		if got := slices.Collect(all); !slices.Equal(got, []int{2, 3, 5}) {
			t.Errorf("after a loop that stopped at %d, All yields %v", last, got)
		}
	}
}

// TestLoopsInLoops: loops over one iterator, one in the other, do not know of each other.
func TestLoopsInLoops(t *testing.T) {
	all := built(1, 4, 6).All()
	var got []int
	for i := range all {
		for j := range all {
			if j == 6 && i == 1 {
				break
			}
			got = append(got, 10*i+j)
		}
	}
	if !slices.Equal(got, []int{11, 14, 41, 44, 46, 61, 64, 66}) {
		t.Error(got)
	}
}

// TestQuestionsInLoops: what is asked in a loop, and a call that returns an error, changes neither the loop nor the answers.
func TestQuestionsInLoops(t *testing.T) {
	s := built(1, 4, 6)
	other, _ := slotset.New(7)
	var got []int
	for i := range s.All() {
		next, has := s.Next(i)
		if !s.Has(i) || next != i || !has || s.Len() != 3 || text(s.Copy()) != "8:[1 4 6]" {
			t.Error(i, next, has, s.Len())
		}
		if s.Add(8) != api.ErrRange || s.Remove(-1) != api.ErrRange || s.Union(other) != api.ErrArg || s.Minus(nil) != api.ErrNil {
			t.Error(i)
		}
		got = append(got, i)
	}
	if !slices.Equal(got, []int{1, 4, 6}) {
		t.Error(got)
	}
}

// R7

func TestLoopsYieldWhatTheSetHasWhenTheyBegin(t *testing.T) {
	w := newTwin(t, 8)
	all := w.s.All()
	check := func() {
		t.Helper()
		if got := slices.Collect(all); !slices.Equal(got, w.slots()) {
			t.Errorf("%v: All yields %v", w, got)
		}
	}
	check()
	for _, i := range []int{5, 0, 7, 5} {
		w.add(t, i)
		check()
	}
	w.remove(t, 0)
	check()
	w.union(t, newTwin(t, 8, 1, 2, 7))
	check()
	w.minus(t, newTwin(t, 8, 0, 2, 5))
	check()
	w.minus(t, w)
	check()
	w.add(t, 6)
	check()
}

// TestChangesOfOtherSetsInLoops: only the set over which a loop runs must not be changed.
func TestChangesOfOtherSetsInLoops(t *testing.T) {
	s := built(1, 4, 6)
	rest, seen, both := s.Copy(), built(), built(0)
	var got []int
	for i := range s.All() {
		got = append(got, i)
		rest.Remove(i)
		seen.Add(i)
		both.Union(s)
		both.Minus(seen)
		if text(s) != "8:[1 4 6]" {
			t.Error(i, text(s))
		}
	}
	if !slices.Equal(got, []int{1, 4, 6}) || text(rest) != "8:[]" || text(seen) != "8:[1 4 6]" || text(both) != "8:[0]" {
		t.Error(got, text(rest), text(seen), text(both))
	}
}

// TestChangesAtTheEndOfLoops: a loop that ends with a change, and begins anew, takes the slots one by one.
func TestChangesAtTheEndOfLoops(t *testing.T) {
	s := built(1, 4, 6)
	all := s.All()
	var got []int
	for s.Len() > 0 {
		for i := range all {
			got = append(got, i)
			s.Remove(i)
			break
		}
	}
	if !slices.Equal(got, []int{1, 4, 6}) {
		t.Error(got)
	}
}

// P8.5

func TestUnionAndMinus(t *testing.T) {
	for _, c := range []struct {
		name         string
		s, t         []int
		union, minus string
	}{
		{"two empty sets", nil, nil, "8:[]", "8:[]"},
		{"with an empty set", []int{1, 7}, nil, "8:[1 7]", "8:[1 7]"},
		{"an empty set", nil, []int{0, 5}, "8:[0 5]", "8:[]"},
		{"equal sets", []int{0, 3, 7}, []int{3, 7, 0}, "8:[0 3 7]", "8:[]"},
		{"some slots in both", []int{1, 2, 5}, []int{2, 5, 6}, "8:[1 2 5 6]", "8:[1]"},
		{"no slot in both", []int{0, 7}, []int{1, 6}, "8:[0 1 6 7]", "8:[0 7]"},
		{"one in the other", []int{1, 2, 3}, []int{2}, "8:[1 2 3]", "8:[1 3]"},
		{"the other in the one", []int{2}, []int{1, 2, 3}, "8:[1 2 3]", "8:[]"},
	} {
		union, minus, other := built(c.s...), built(c.s...), built(c.t...)
		unchanged := text(other)
		if e := union.Union(other); e != api.OK || text(union) != c.union {
			t.Errorf("%s: Union is %d, %s", c.name, e, text(union))
		}
		if e := minus.Minus(other); e != api.OK || text(minus) != c.minus {
			t.Errorf("%s: Minus is %d, %s", c.name, e, text(minus))
		}
		if text(other) != unchanged {
			t.Errorf("%s: the argument became %s", c.name, text(other))
		}
	}
}

// TestUnionAndMinusOfEachPair does so with all sets of the sizes up to 5, of which the second one is changed later.
func TestUnionAndMinusOfEachPair(t *testing.T) {
	for size := 1; size <= 5; size++ {
		for code := range power(size) {
			for other := range power(size) {
				union, minus, v := subset(t, size, code), subset(t, size, code), subset(t, size, other)
				union.union(t, v)
				minus.minus(t, v)
				v.compare(t)
				v.add(t, size-1)
				v.remove(t, 0)
				union.compare(t)
				minus.compare(t)
				union.add(t, 0)
				minus.remove(t, size-1)
				v.compare(t)
			}
		}
	}
}

func TestUnionAndMinusOfGreatSets(t *testing.T) {
	r := rand.New(rand.NewPCG(8, 5))
	for size := 6; size <= maxSize; size++ {
		for range 20 {
			union, minus, v := randomTwin(t, r, size), randomTwin(t, r, size), randomTwin(t, r, size)
			union.union(t, v)
			minus.minus(t, v)
			for _, w := range []*twin{union, minus, v} {
				w.compare(t)
			}
		}
	}
}

func TestUnionAndMinusWithTheSameSet(t *testing.T) {
	r := rand.New(rand.NewPCG(8, 55))
	for size := 1; size <= maxSize; size++ {
		for range 5 {
			w := randomTwin(t, r, size)
			w.union(t, w)
			w.compare(t)
			c := w.copy(t)
			w.minus(t, w)
			w.compare(t)
			if w.s.Len() != 0 {
				t.Errorf("%v without itself has %d slots", c, w.s.Len())
			}
			w.union(t, w)
			w.minus(t, w)
			w.compare(t)
			c.compare(t)
			w.add(t, 0)
			w.compare(t)
		}
	}
}

func TestSetsOfOtherSizes(t *testing.T) {
	for size := 1; size <= maxSize; size++ {
		for other := 1; other <= maxSize; other++ {
			// Both have slots that the other one has, too, or has room for.
			w, v := newTwin(t, size, 0, size/2), newTwin(t, other, 0, other/3)
			w.union(t, v)
			w.compare(t)
			w.minus(t, v)
			w.compare(t)
			v.compare(t)
			empty := newTwin(t, other)
			w.union(t, empty)
			w.minus(t, empty)
			w.compare(t)
			empty.compare(t)
		}
	}
}

// P8.6

// TestEachSequence adds and removes three slots in all sequences of up to six calls, and looks at the last call for each slot.
func TestEachSequence(t *testing.T) {
	slots := []int{0, 31, 33}
	for length, sequences := 0, 1; length <= 6; length, sequences = length+1, sequences*6 {
		for code := range sequences {
			s, _ := slotset.New(maxSize)
			last := map[int]bool{}
			for k, rest := 0, code; k < length; k, rest = k+1, rest/6 {
				i, add := slots[rest%3], rest/3%2 == 1
				if add {
					s.Add(i)
				} else {
					s.Remove(i)
				}
				last[i] = add
			}
			for i := range maxSize {
				if s.Has(i) != last[i] {
					t.Fatalf("sequence %d of %d calls: Has(%d) is %t", code, length, i, s.Has(i))
				}
			}
		}
	}
}

// TestTheOrderDoesNotMatter adds some slots, and removes other ones, in random orders.
func TestTheOrderDoesNotMatter(t *testing.T) {
	r := rand.New(rand.NewPCG(8, 6))
	for range 200 {
		size := 1 + r.IntN(maxSize)
		order := r.Perm(size)
		n := r.IntN(size + 1)
		w := randomTwin(t, r, size)
		for _, i := range order {
			if slices.Contains(order[:n], i) {
				w.add(t, i)
			} else {
				w.remove(t, i)
			}
		}
		want := slices.Sorted(slices.Values(order[:n]))
		if got := slices.Collect(w.s.All()); !slices.Equal(got, want) {
			t.Errorf("size %d: All yields %v, not %v", size, got, want)
		}
		w.compare(t)
	}
}

// P8.7

// TestUnionAndMinusFitTogether compares the sets with each other: it needs no other definition of them.
func TestUnionAndMinusFitTogether(t *testing.T) {
	r := rand.New(rand.NewPCG(8, 7))
	for size := 1; size <= maxSize; size++ {
		for range 30 {
			s, u := randomTwin(t, r, size).s, randomTwin(t, r, size).s
			before := s.Copy()
			if e := s.Union(u); e != api.OK {
				t.Fatal(e)
			}
			for i := range size {
				if s.Has(i) != (before.Has(i) || u.Has(i)) {
					t.Errorf("%s and %s: %d in the union is %t", text(before), text(u), i, s.Has(i))
				}
			}
			if e := s.Minus(u); e != api.OK {
				t.Fatal(e)
			}
			for i := range size {
				if s.Has(i) != (before.Has(i) && !u.Has(i)) {
					t.Errorf("%s and %s: %d in the union without the second one is %t", text(before), text(u), i, s.Has(i))
				}
			}
		}
	}
}

// P8.8

// ask calls each function that may not change a set, and each other one so that it returns an error.
func ask(s *slotset.Set) {
	s.Len()
	s.Size()
	s.Lowest()
	s.Copy()
	s.All()
	for range s.All() {
	}
	for range s.All() {
		break
	}
	for _, i := range numbers(s.Size()) {
		s.Has(i)
		s.Next(i)
		if i < 0 || i >= s.Size() {
			s.Add(i)
			s.Remove(i)
		}
	}
	other, _ := slotset.New(s.Size()%maxSize + 1)
	for i := range maxSize {
		other.Add(i)
	}
	for _, t := range []*slotset.Set{nil, {}, new(slotset.Set), other} {
		s.Union(t)
		s.Minus(t)
	}
	// The set is the argument here, and the receivers can't take it.
	for _, t := range []*slotset.Set{nil, {}, other} {
		t.Union(s)
		t.Minus(s)
	}
}

func TestQuestionsAndErrorsChangeNothing(t *testing.T) {
	r := rand.New(rand.NewPCG(8, 8))
	for size := 1; size <= maxSize; size++ {
		for range 5 {
			w := randomTwin(t, r, size)
			for range 3 {
				ask(w.s)
				w.compare(t)
			}
			// Changes after the questions do what they do without them.
			w.add(t, size-1)
			w.remove(t, 0)
			w.compare(t)
			ask(w.s)
			w.compare(t)
		}
	}
}

func TestMixedCalls(t *testing.T) {
	for seed := range uint64(40) {
		r := rand.New(rand.NewPCG(80, seed))
		size := 1 + r.IntN(maxSize)
		w, v := newTwin(t, size), newTwin(t, size)
		for range 200 {
			switch r.IntN(12) {
			case 0, 1, 2, 3:
				w.add(t, r.IntN(size+2)-1)
			case 4, 5, 6:
				w.remove(t, r.IntN(size+2)-1)
			case 7:
				v = w.copy(t)
			case 8:
				w.union(t, v)
			case 9:
				w.minus(t, v)
			case 10:
				w, v = v, w
			case 11:
				v = randomTwin(t, r, 1+r.IntN(maxSize))
			}
			size = len(w.in)
			w.compare(t)
			v.compare(t)
		}
	}
}

// R8

// answers are the results of all calls, one after the other: two sets that behave alike return equal ones.
func answers(s *slotset.Set) string {
	var got []any
	note := func(x ...any) { got = append(got, x...) }
	for i := -1; i < 10; i++ {
		next, has := s.Next(i)
		least, any := s.Lowest()
		note(s.Has(i), next, has, least, any, s.Len(), text(s), text(s.Copy()))
		note(s.Add(i), text(s), s.Remove(9-i), text(s))
		note(s.Union(built(i, i/2)), text(s), s.Minus(built(i+1)), text(s))
	}
	note(s.Minus(s), text(s), s.Union(s), text(s), s.Union(nil))
	return fmt.Sprint(got...)
}

func TestEqualSetsReturnEqualResults(t *testing.T) {
	want := answers(built(1, 4, 6))
	for name, original := range originals {
		s := original()
		c := s.Copy()
		d := c.Copy()
		for _, s := range []*slotset.Set{s, c, d} {
			if got := answers(s); got != want {
				t.Errorf("%s: %s, not %s", name, got, want)
			}
		}
	}
}

// R1, R2

// invalid checks that a set answers as one that is not valid.
func invalid(t *testing.T, name string, s *slotset.Set) {
	t.Helper()
	valid := built(1, 4, 6)
	// The second time tells whether the first one has changed the set.
	for range 2 {
		for _, i := range numbers(8) {
			if e := s.Add(i); e != api.ErrNil {
				t.Errorf("%s: Add(%d) is %d", name, i, e)
			}
			if e := s.Remove(i); e != api.ErrNil {
				t.Errorf("%s: Remove(%d) is %d", name, i, e)
			}
			if s.Has(i) {
				t.Errorf("%s: Has(%d) is true", name, i)
			}
			if slot, has := s.Next(i); slot != 0 || has {
				t.Errorf("%s: Next(%d) is %d, %t", name, i, slot, has)
			}
		}
		if slot, has := s.Lowest(); slot != 0 || has {
			t.Errorf("%s: Lowest is %d, %t", name, slot, has)
		}
		if s.Len() != 0 || s.Size() != 0 || s.Copy() != nil {
			t.Errorf("%s: Len is %d, Size %d, Copy %v", name, s.Len(), s.Size(), s.Copy())
		}
		if s.All() == nil || len(slices.Collect(s.All())) > 0 {
			t.Errorf("%s: All is nil, or yields something", name)
		}
		for _, u := range []*slotset.Set{valid, built(), s, nil, {}} {
			if e := s.Union(u); e != api.ErrNil {
				t.Errorf("%s: Union with %s is %d", name, text(u), e)
			}
			if e := s.Minus(u); e != api.ErrNil {
				t.Errorf("%s: Minus with %s is %d", name, text(u), e)
			}
		}
		if e := valid.Union(s); e != api.ErrNil || text(valid) != "8:[1 4 6]" {
			t.Errorf("%s: Union with it is %d, %s", name, e, text(valid))
		}
		if e := valid.Minus(s); e != api.ErrNil || text(valid) != "8:[1 4 6]" {
			t.Errorf("%s: Minus with it is %d, %s", name, e, text(valid))
		}
	}
}

func TestSetsThatAreNotValid(t *testing.T) {
	var zero slotset.Set
	invalid(t, "nil", nil)
	invalid(t, "zero", &zero)
	invalid(t, "new", new(slotset.Set))
	invalid(t, "literal", &slotset.Set{})
	refused, _ := slotset.New(35)
	invalid(t, "refused", refused)
	var none *slotset.Set
	invalid(t, "copy of nil", none.Copy())
	invalid(t, "copy of zero", zero.Copy())
	sets := make([]slotset.Set, 2)
	invalid(t, "element", &sets[1])
}

// TestAssignedSetsAreNotValid: New and Copy return pointers; what they point to, assigned to a variable, is a set that neither of them returned.
func TestAssignedSetsAreNotValid(t *testing.T) {
	for _, s := range []*slotset.Set{built(), built(1, 4, 6), built(0, 7), built(1, 4, 6).Copy()} {
		unchanged := text(s)
		assigned := *s
		invalid(t, "assigned", &assigned)
		if e := s.Union(&assigned); e != api.ErrNil {
			t.Errorf("%s: Union with a set that it was assigned to is %d", unchanged, e)
		}
		if text(s) != unchanged {
			t.Errorf("%s became %s", unchanged, text(s))
		}
		if e := s.Add(3); e != api.OK || !s.Has(3) {
			t.Error("a set that was assigned is not valid itself any more", e)
		}
		invalid(t, "assigned", &assigned)
	}
}

func TestCopiesAreValid(t *testing.T) {
	for _, c := range []*slotset.Set{built().Copy(), built(4).Copy(), built(1, 7).Copy().Copy()} {
		n := c.Len()
		if e := c.Add(0); e != api.OK || c.Len() != n+1 {
			t.Error(e, c.Len())
		}
		if e := built(2).Union(c); e != api.OK {
			t.Error(e)
		}
	}
}

// P1

// FuzzCalls makes the calls that the bytes say: three bits for the call, and five for a number.
func FuzzCalls(f *testing.F) {
	f.Add(8, []byte(""))
	f.Add(maxSize, []byte("drumlin"))
	f.Add(1, []byte{0, 8, 16, 24, 32, 40, 48, 56, 255})
	f.Add(20, []byte("\x08\x10\x19\x04\x02\x0b\x13\x05\x06\x07\xff\xfe\xfd"))
	f.Add(-1, []byte("slots"))
	f.Fuzz(func(t *testing.T, size int, calls []byte) {
		if size < 1 || size > maxSize {
			if s, e := slotset.New(size); s != nil || e != api.ErrArg {
				t.Errorf("New(%d) is %v, %d", size, s, e)
			}
			return
		}
		w, v := newTwin(t, size), newTwin(t, size)
		for _, c := range calls[:min(len(calls), 300)] {
			i := int(c/8)*2 - 14
			switch c % 8 {
			case 0, 1:
				w.add(t, i)
				w.add(t, i+1)
			case 2:
				w.remove(t, i)
			case 3:
				w.remove(t, i+1)
			case 4:
				v = w.copy(t)
			case 5:
				w.union(t, v)
			case 6:
				w.minus(t, v)
			case 7:
				w, v = v, w
			}
		}
		w.compare(t)
		v.compare(t)
	})
}
