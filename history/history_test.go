package history_test

import (
	"fmt"
	"iter"
	"math"
	"math/rand/v2"
	"slices"
	"strconv"
	"strings"
	"testing"

	"drumlin/api"
	"drumlin/history"
)

// What follows up to the first test is the chapter's definitions, with elements that say themselves whether they are marked.

type place[T any] struct {
	x      T
	marked bool
}

// twin is a list, and the elements that it has to have.
type twin[T any] struct {
	l      *history.List[T]
	limit  int
	places []place[T]
	equal  func(a, b T) bool
}

func twinOf[T any](t *testing.T, limit int, equal func(a, b T) bool) *twin[T] {
	t.Helper()
	l, e := history.New[T](limit)
	if l == nil || e != api.OK {
		t.Fatalf("New(%d) is %v, %d", limit, l, e)
	}
	return &twin[T]{l: l, limit: limit, equal: equal}
}

func newTwin[T comparable](t *testing.T, limit int) *twin[T] {
	t.Helper()
	return twinOf(t, limit, func(a, b T) bool { return a == b })
}

// fullTwin has the numbers from 0 to n - 1, of which the first ones are marked, and room for two more.
func fullTwin(t *testing.T, n, marked int) *twin[int] {
	t.Helper()
	w := newTwin[int](t, n+2)
	for i := range n {
		if i == marked {
			w.mark()
		}
		w.add(t, i)
	}
	if marked == n {
		w.mark()
	}
	return w
}

func (w *twin[T]) elements() []T {
	var all []T
	for _, p := range w.places {
		all = append(all, p.x)
	}
	return all
}

// parts returns the elements that are marked, and those that are not.
func (w *twin[T]) parts() (marked, since []T) {
	for _, p := range w.places {
		if p.marked {
			marked = append(marked, p.x)
		} else {
			since = append(since, p.x)
		}
	}
	return marked, since
}

func (w *twin[T]) add(t *testing.T, x T) {
	t.Helper()
	want := api.ErrFull
	if len(w.places) < w.limit {
		want = api.OK
	}
	if e := w.l.Add(x); e != want {
		t.Errorf("%v: Add(%v) is %d", w.places, x, e)
	}
	if want == api.OK {
		w.places = append(slices.Clip(w.places), place[T]{x, false})
	}
}

func (w *twin[T]) mark() {
	w.l.Mark()
	for i := range w.places {
		w.places[i].marked = true
	}
}

func (w *twin[T]) cut(t *testing.T, n int) {
	t.Helper()
	want := api.OK
	if n < 0 || n > len(w.places) {
		want = api.ErrRange
	} else if slices.ContainsFunc(w.places[n:], func(p place[T]) bool { return p.marked }) {
		want = api.ErrRange
	}
	if e := w.l.Cut(n); e != want {
		t.Errorf("%v: Cut(%d) is %d", w.places, n, e)
	}
	if want == api.OK {
		w.places = w.places[:n]
	}
}

func (w *twin[T]) clear() {
	w.l.Clear()
	w.places = nil
}

func (w *twin[T]) copy(t *testing.T) *twin[T] {
	t.Helper()
	c := w.l.Copy()
	if c == nil || c == w.l {
		t.Fatalf("%v: Copy returned nil, or the list itself", w.places)
	}
	return &twin[T]{c, w.limit, slices.Clone(w.places), w.equal}
}

// compare asks a list everything that does not change it, with each of its indexes and others, and compares it with the definitions.
func (w *twin[T]) compare(t *testing.T) {
	t.Helper()
	marked, since := w.parts()
	if n := w.l.Len(); n != len(w.places) {
		t.Errorf("%v: Len is %d", w.places, n)
	}
	if n := w.l.Marked(); n != len(marked) {
		t.Errorf("%v: Marked is %d", w.places, n)
	}
	if got := collect(t, w.l.All()); !slices.EqualFunc(got, w.elements(), w.equal) {
		t.Errorf("%v: All yields %v", w.places, got)
	}
	if got := slices.Collect(w.l.Since()); !slices.EqualFunc(got, since, w.equal) {
		t.Errorf("%v: Since yields %v", w.places, got)
	}
	for i := -2; i < len(w.places)+3; i++ {
		w.compareAt(t, i)
	}
	for _, i := range outside(len(w.places)) {
		w.compareAt(t, i)
	}
}

func (w *twin[T]) compareAt(t *testing.T, i int) {
	t.Helper()
	var x T
	want := api.ErrRange
	if 0 <= i && i < len(w.places) {
		x, want = w.places[i].x, api.OK
	}
	if got, e := w.l.At(i); e != want || !w.equal(got, x) {
		t.Errorf("%v: At(%d) is %v, %d", w.places, i, got, e)
	}
}

// collect returns the elements, and checks that their indexes are 0, 1, 2 and so on.
func collect[T any](t *testing.T, s iter.Seq2[int, T]) []T {
	t.Helper()
	var all []T
	for i, x := range s {
		if i != len(all) {
			t.Errorf("the index %d stands before the element %v, which is yielded as number %d", i, x, len(all))
		}
		all = append(all, x)
	}
	return all
}

// outside returns indexes that a list with n elements does not have, and to which it can't be cut.
func outside(n int) []int {
	return []int{-1, -2, -n - 1, -100_000, -1 << 32, math.MinInt + 1, math.MinInt, n + 1, n + 2, 2*n + 1, n + 100_000, 1 << 32, 1<<32 + n, math.MaxInt - 1, math.MaxInt}
}

// built returns a list with the limit 6; "|" in the words stands for Mark.
func built(words string) *history.List[string] {
	l, _ := history.New[string](6)
	for _, word := range strings.Fields(words) {
		if word == "|" {
			l.Mark()
		} else {
			l.Add(word)
		}
	}
	return l
}

// text returns the words from which built makes the list.
func text(l *history.List[string]) string {
	words := make([]string, 0)
	for i, x := range l.All() {
		if i == l.Marked() {
			words = append(words, "|")
		}
		words = append(words, x)
	}
	if l.Marked() == l.Len() {
		words = append(words, "|")
	}
	return strings.Join(words, " ")
}

// TestExamples makes the calls of the chapter's table, in their order.
func TestExamples(t *testing.T) {
	l, e := history.New[string](3)
	if l == nil || e != api.OK {
		t.Fatal(l, e)
	}
	add := func(x string, want api.Errno) {
		t.Helper()
		if e := l.Add(x); e != want {
			t.Error("Add", x, e)
		}
	}
	cut := func(n int, want api.Errno) {
		t.Helper()
		if e := l.Cut(n); e != want {
			t.Error("Cut", n, e)
		}
	}
	at := func(i int, want string, wantError api.Errno) {
		t.Helper()
		if x, e := l.At(i); x != want || e != wantError {
			t.Error("At", i, x, e)
		}
	}
	count := func(marked, n int) {
		t.Helper()
		if l.Marked() != marked || l.Len() != n {
			t.Error("Marked", l.Marked(), "Len", l.Len())
		}
	}
	add("a", api.OK)
	l.Mark()
	add("b", api.OK)
	add("c", api.OK)
	add("d", api.ErrFull)
	count(1, 3)
	if got := slices.Collect(l.Since()); !slices.Equal(got, []string{"b", "c"}) {
		t.Error("Since", got)
	}
	cut(0, api.ErrRange)
	cut(4, api.ErrRange)
	cut(2, api.OK)
	count(1, 2)
	l.Mark()
	cut(1, api.ErrRange)
	at(1, "b", api.OK)
	at(2, "", api.ErrRange)
	l.Clear()
	count(0, 0)
	add("x", api.OK)
	for _, most := range []int{-1, 100_001} {
		if l, e := history.New[string](most); l != nil || e != api.ErrArg {
			t.Error("New", most, l, e)
		}
	}
}

// P7.1

func TestNewWithSmallLimits(t *testing.T) {
	for limit := range 200 {
		w := newTwin[int](t, limit)
		w.compare(t)
		for i := range limit + 3 {
			w.add(t, i)
		}
		w.compare(t)
		if n := w.l.Len(); n != limit {
			t.Errorf("limit %d: %d elements", limit, n)
		}
	}
}

func TestNewWithGreatLimits(t *testing.T) {
	for _, limit := range []int{1_023, 1_024, 1_025, 1<<16 - 1, 1 << 16, 1<<16 + 1, 99_998, 99_999, 100_000} {
		w := newTwin[int](t, limit)
		for i := range limit {
			if e := w.l.Add(i * 3); e != api.OK {
				t.Fatalf("limit %d: Add is %d, with %d elements", limit, e, i)
			}
			w.places = append(w.places, place[int]{i * 3, false})
		}
		for range 2 {
			w.add(t, -1)
		}
		w.compare(t)
	}
}

func TestNewWithOtherLimits(t *testing.T) {
	for _, most := range []int{-1, -2, -100_000, -100_001, -1 << 32, math.MinInt, math.MinInt + 1, 100_001, 100_002, 1 << 17, 1 << 31, 1 << 32, 1<<32 + 5, math.MaxInt - 1, math.MaxInt} {
		if l, e := history.New[int](most); l != nil || e != api.ErrArg {
			t.Errorf("New(%d) is %v, %d", most, l, e)
		}
		if l, e := history.New[string](most); l != nil || e != api.ErrArg {
			t.Errorf("New(%d) of strings is %v, %d", most, l, e)
		}
	}
}

func TestNewIsEmpty(t *testing.T) {
	for _, limit := range []int{0, 1, 2, 3, 99_999, 100_000} {
		newTwin[int](t, limit).compare(t)
		newTwin[string](t, limit).compare(t)
		newTwin[*int](t, limit).compare(t)
	}
}

func TestNewListsAreIndependent(t *testing.T) {
	a, b := built("a | b"), built("c d |")
	if text(a) != "a | b" || text(b) != "c d |" || text(built("")) != "|" {
		t.Error(text(a), text(b), text(built("")))
	}
	b.Clear()
	if text(a) != "a | b" {
		t.Error(text(a))
	}
}

func TestCopyHasTheSameElementsAndMark(t *testing.T) {
	for n := range 9 {
		for marked := range n + 1 {
			w := fullTwin(t, n, marked)
			c := w.copy(t)
			c.compare(t)
			c.copy(t).compare(t)
			w.compare(t)
			c.cut(t, marked-1)
			c.cut(t, marked)
			c.compare(t)
			w.compare(t)
		}
	}
}

func TestCopyHasTheSameLimit(t *testing.T) {
	for _, limit := range []int{0, 1, 2, 3, 7, 8, 9, 300} {
		for _, n := range []int{0, limit / 2, limit} {
			w := newTwin[int](t, limit)
			for i := range n {
				w.add(t, i)
			}
			c := w.copy(t).copy(t)
			for i := range limit + 2 {
				c.add(t, -i)
			}
			c.compare(t)
			w.compare(t)
			c.clear()
			for i := range limit + 2 {
				c.add(t, i)
			}
			c.compare(t)
			w.compare(t)
		}
	}
}

// changes are all kinds of changes of a list with the words "a b | c d".
var changes = []struct {
	name   string
	change func(*history.List[string])
	want   string
}{
	{"one more", func(l *history.List[string]) { l.Add("e") }, "a b | c d e"},
	{"another one more", func(l *history.List[string]) { l.Add("f") }, "a b | c d f"},
	{"as many as fit", func(l *history.List[string]) { l.Add("g"); l.Add("h"); l.Add("i") }, "a b | c d g h"},
	{"another mark", func(l *history.List[string]) { l.Mark() }, "a b c d |"},
	{"another mark and more", func(l *history.List[string]) { l.Mark(); l.Add("j") }, "a b c d | j"},
	{"one less", func(l *history.List[string]) { l.Cut(3) }, "a b | c"},
	{"only what is marked", func(l *history.List[string]) { l.Cut(2) }, "a b |"},
	{"another one", func(l *history.List[string]) { l.Cut(3); l.Add("k") }, "a b | c k"},
	{"other ones", func(l *history.List[string]) { l.Cut(2); l.Add("l"); l.Add("m") }, "a b | l m"},
	{"other ones, marked", func(l *history.List[string]) { l.Cut(2); l.Add("n"); l.Add("o"); l.Mark() }, "a b n o |"},
	{"nothing", func(l *history.List[string]) { l.Clear() }, "|"},
	{"one of its own", func(l *history.List[string]) { l.Clear(); l.Add("p") }, "| p"},
	{"all of its own", func(l *history.List[string]) {
		l.Clear()
		for _, x := range []string{"q", "r", "s", "t"} {
			l.Add(x)
			l.Mark()
		}
	}, "q r s t |"},
}

// originals return lists with the words "a b | c d" and different histories.
var originals = map[string]func() *history.List[string]{
	"built": func() *history.List[string] { return built("a b | c d") },
	"longer before": func() *history.List[string] {
		l := built("a b | c d e f")
		l.Cut(4)
		return l
	},
	"other before": func() *history.List[string] {
		l := built("a b | x y z")
		l.Cut(2)
		l.Add("c")
		l.Add("d")
		return l
	},
	"cleared before": func() *history.List[string] {
		l := built("u v w | x y z")
		l.Clear()
		l.Add("a")
		l.Add("b")
		l.Mark()
		l.Add("c")
		l.Add("d")
		return l
	},
	"copied": func() *history.List[string] { return built("a b | c d").Copy() },
}

func TestCopyIsIndependent(t *testing.T) {
	const unchanged = "a b | c d"
	for name, original := range originals {
		for _, first := range changes {
			for _, second := range changes {
				l := original()
				c, d := l.Copy(), l.Copy()
				first.change(c)
				if text(l) != unchanged || text(d) != unchanged || text(c) != first.want {
					t.Errorf("%s; the copy has %s: %q, %q and %q", name, first.name, text(l), text(d), text(c))
				}
				second.change(l)
				if text(l) != second.want || text(d) != unchanged || text(c) != first.want {
					t.Errorf("%s; the copy has %s, the list %s: %q, %q and %q", name, first.name, second.name, text(l), text(d), text(c))
				}
			}
		}
	}
}

func TestCopyOfEmptyMarkedAndCutLists(t *testing.T) {
	for n := range 6 {
		for marked := range n + 1 {
			for k := marked; k <= n; k++ {
				w := fullTwin(t, n, marked)
				w.cut(t, k)
				c := w.copy(t)
				c.add(t, 50)
				c.mark()
				w.cut(t, marked)
				w.add(t, 60)
				d := w.copy(t)
				d.clear()
				d.add(t, 70)
				d.mark()
				c.compare(t)
				w.compare(t)
				d.compare(t)
			}
		}
	}
}

// TestCopyByAssignment: a pointer or a slice refers to the same memory in both lists, an array or a struct does not.
func TestCopyByAssignment(t *testing.T) {
	pointers, _ := history.New[*int](2)
	n := 5
	pointers.Add(&n)
	if p, e := pointers.Copy().At(0); p != &n || e != api.OK {
		t.Error(p, e)
	}
	lists, _ := history.New[[]int](2)
	lists.Add([]int{1, 2, 3})
	a, _ := lists.At(0)
	b, _ := lists.Copy().At(0)
	if len(a) != 3 || len(b) != 3 || &a[0] != &b[0] {
		t.Error(a, b)
	}
	arrays, _ := history.New[[3]int](2)
	arrays.Add([3]int{1, 2, 3})
	x, _ := arrays.At(0)
	x[0] = 7
	for _, y := range arrays.All() {
		y[1] = 8
	}
	for y := range arrays.Since() {
		y[2] = 9
	}
	for _, l := range []*history.List[[3]int]{arrays, arrays.Copy()} {
		if y, _ := l.At(0); y != [3]int{1, 2, 3} {
			t.Error(y)
		}
	}
}

// P7.2

func TestAddToFullLists(t *testing.T) {
	for limit := range 6 {
		w := newTwin[int](t, limit)
		fill := func() {
			t.Helper()
			for i := range limit + 2 {
				w.add(t, 10*limit+i)
				w.compare(t)
			}
			if w.l.Len() != limit {
				t.Errorf("limit %d: %d elements", limit, w.l.Len())
			}
		}
		fill()
		for n := limit; n >= 0; n-- {
			w.cut(t, n)
			fill()
		}
		w.mark()
		fill()
		w.cut(t, limit)
		fill()
		w.clear()
		fill()
		w.clear()
		w.add(t, 1)
		w.mark()
		fill()
	}
}

func TestNewElementsAreNotMarked(t *testing.T) {
	w := newTwin[int](t, 20)
	for i := range 20 {
		w.add(t, i)
		w.compare(t)
		if i%3 == 1 {
			w.mark()
			w.compare(t)
		}
	}
}

// TestEqualElements: an element that is there already is appended again.
func TestEqualElements(t *testing.T) {
	w := newTwin[string](t, 5)
	for _, x := range []string{"a", "a", "", "a", "", "b"} {
		w.add(t, x)
		w.compare(t)
	}
}

// P7.3

func TestMark(t *testing.T) {
	for n := range 6 {
		w := newTwin[int](t, 8)
		// The first of these marks an empty list, and the second of each two marks nothing.
		for range 3 {
			w.mark()
			w.compare(t)
			w.mark()
			w.compare(t)
			for i := range n {
				w.add(t, i)
				w.compare(t)
			}
		}
		w.mark()
		if w.l.Marked() != w.l.Len() {
			t.Error(w.l.Marked(), w.l.Len())
		}
		w.clear()
		w.mark()
		w.compare(t)
		w.add(t, 9)
		w.compare(t)
	}
}

// TestMarkedOfCutLists: the mark does not move to elements that come behind a Cut.
func TestMarkedOfCutLists(t *testing.T) {
	for marked := range 5 {
		w := fullTwin(t, 6, marked)
		w.cut(t, marked)
		w.compare(t)
		w.add(t, 70)
		w.add(t, 71)
		w.compare(t)
		w.cut(t, marked+1)
		w.mark()
		w.compare(t)
		w.cut(t, marked)
		w.compare(t)
	}
}

// P7.4, P7.5

// edges are the indexes beside the mark and beside the end, and those of outside.
func edges(n, marked int) []int {
	return append([]int{marked - 2, marked - 1, marked, marked + 1, n - 2, n - 1, n}, outside(n)...)
}

func TestAt(t *testing.T) {
	for n := range 9 {
		for marked := range n + 1 {
			w := fullTwin(t, n, marked)
			for _, i := range edges(n, marked) {
				w.compareAt(t, i)
			}
			// The elements behind a Cut are there no more.
			for k := n; k >= marked; k-- {
				w.cut(t, k)
				for _, i := range edges(n, marked) {
					w.compareAt(t, i)
				}
			}
		}
	}
}

func TestCut(t *testing.T) {
	for n := range 9 {
		for marked := range n + 1 {
			for k := -2; k < n+3; k++ {
				w := fullTwin(t, n, marked)
				w.cut(t, k)
				w.compare(t)
				w.cut(t, k)
				w.compare(t)
				w.add(t, 50)
				w.add(t, 51)
				w.compare(t)
			}
			w := fullTwin(t, n, marked)
			for _, k := range outside(n) {
				w.cut(t, k)
			}
			w.compare(t)
		}
	}
}

// TestCutKeepsOlderCopies adds where something was cut, of which a copy was made before.
func TestCutKeepsOlderCopies(t *testing.T) {
	for n := range 9 {
		for marked := range n + 1 {
			for k := marked; k <= n; k++ {
				w := fullTwin(t, n, marked)
				before := w.copy(t)
				w.cut(t, k)
				between := w.copy(t)
				for i := range 3 {
					w.add(t, 90+i)
				}
				after := w.copy(t)
				between.add(t, 80)
				before.compare(t)
				between.compare(t)
				after.compare(t)
				w.cut(t, k)
				w.add(t, 70)
				w.compare(t)
				after.compare(t)
			}
		}
	}
}

// P7.6

func TestClear(t *testing.T) {
	for n := range 6 {
		for marked := range n + 1 {
			w := fullTwin(t, n, marked)
			older := w.copy(t)
			for range 2 {
				w.clear()
				w.compare(t)
			}
			// Elements that were marked may be cut off now.
			for i := range n + 3 {
				w.add(t, 60+i)
				w.compare(t)
			}
			w.cut(t, 1)
			w.cut(t, 0)
			w.compare(t)
			older.compare(t)
		}
	}
}

// P7.7

func TestLoopsStopEarly(t *testing.T) {
	l := built("a b | c d e f")
	unchanged := text(l)
	all, since := l.All(), l.Since()
	for n := 1; n <= 6; n++ {
		var got []string
		// The iterators are called as functions, since a loop would panic, and not count, if they went on.
		all(func(i int, x string) bool {
			got = append(got, x)
			return len(got) < n
		})
		if !slices.Equal(got, []string{"a", "b", "c", "d", "e", "f"}[:n]) {
			t.Errorf("All, stopped after %d elements: %v", n, got)
		}
	}
	for n := 1; n <= 4; n++ {
		var got []string
		since(func(x string) bool {
			got = append(got, x)
			return len(got) < n
		})
		if !slices.Equal(got, []string{"c", "d", "e", "f"}[:n]) {
			t.Errorf("Since, stopped after %d elements: %v", n, got)
		}
	}
	if text(l) != unchanged {
		t.Error(text(l))
	}
}

func TestLoopsBeginAnew(t *testing.T) {
	l := built("a | b c d")
	all, since := l.All(), l.Since()
	for range 3 {
		for i := range all {
			if i == 1 {
				break
			}
		}
		for x := range since {
			if x == "c" {
				break
			}
		}
		if got := collect(t, all); !slices.Equal(got, []string{"a", "b", "c", "d"}) {
			t.Error("All", got)
		}
		if got := slices.Collect(since); !slices.Equal(got, []string{"b", "c", "d"}) {
			t.Error("Since", got)
		}
	}
}

// TestLoopsInLoops: loops over one iterator, one in the other, do not know of each other.
func TestLoopsInLoops(t *testing.T) {
	l := built("a | b c")
	all, since := l.All(), l.Since()
	var got []string
	for i, x := range all {
		for y := range since {
			if y == "c" && i == 0 {
				break
			}
			for _, z := range all {
				if z == "c" {
					break
				}
				got = append(got, x+y+z)
			}
		}
	}
	if s := strings.Join(got, " "); s != "aba abb bba bbb bca bcb cba cbb cca ccb" {
		t.Error(s)
	}
}

// TestQuestionsInLoops: what is asked in a loop changes neither the loop nor the answers.
func TestQuestionsInLoops(t *testing.T) {
	l := built("a b | c d")
	var got []string
	for i, x := range l.All() {
		if y, e := l.At(i); y != x || e != api.OK || l.Len() != 4 || l.Marked() != 2 || text(l.Copy()) != "a b | c d" {
			t.Error(i, x, y, e)
		}
		got = append(got, x)
	}
	for x := range l.Since() {
		if l.Len() != 4 || l.Marked() != 2 || l.Cut(1) != api.ErrRange {
			t.Error(x, l.Len(), l.Marked())
		}
		got = append(got, x)
	}
	if !slices.Equal(got, []string{"a", "b", "c", "d", "c", "d"}) {
		t.Error(got)
	}
}

// R7

func TestLoopsYieldWhatTheListHasWhenTheyBegin(t *testing.T) {
	w := newTwin[int](t, 8)
	all, since := w.l.All(), w.l.Since()
	check := func() {
		t.Helper()
		if got := collect(t, all); !slices.Equal(got, w.elements()) {
			t.Errorf("%v: All yields %v", w.places, got)
		}
		_, want := w.parts()
		if got := slices.Collect(since); !slices.Equal(got, want) {
			t.Errorf("%v: Since yields %v", w.places, got)
		}
	}
	check()
	for i := range 9 {
		w.add(t, i)
		check()
		if i%4 == 2 {
			w.mark()
			check()
		}
	}
	w.cut(t, 7)
	check()
	w.clear()
	check()
	w.add(t, 20)
	check()
	w.mark()
	check()
}

// P7.8

// TestMarkedElementsStay makes many calls, and looks after each of them for the elements that were marked before.
func TestMarkedElementsStay(t *testing.T) {
	for seed := range uint64(60) {
		r := rand.New(rand.NewPCG(7, seed))
		l, _ := history.New[int](5 + r.IntN(40))
		var marked []int
		for i := range 400 {
			switch r.IntN(10) {
			case 0, 1, 2, 3, 4:
				l.Add(i)
			case 5:
				l.Mark()
				marked = collect(t, l.All())
			case 6, 7, 8:
				l.Cut(r.IntN(l.Len() + 2))
			case 9:
				if r.IntN(8) == 0 {
					l.Clear()
					marked = nil
				}
			}
			all := collect(t, l.All())
			if l.Marked() != len(marked) || len(all) < len(marked) || !slices.Equal(all[:len(marked)], marked) {
				t.Fatalf("%d of %v are marked, not %v", l.Marked(), all, marked)
			}
		}
	}
}

// P7.9

// TestParts compares a list with itself: it needs no other one.
func TestParts(t *testing.T) {
	r := rand.New(rand.NewPCG(7, 9))
	for range 300 {
		l, _ := history.New[int](50)
		for i := range r.IntN(80) {
			switch r.IntN(8) {
			case 0:
				l.Mark()
			case 1:
				l.Cut(r.IntN(l.Len() + 1))
			default:
				l.Add(i)
			}
			var parts []int
			for i := range l.Marked() {
				x, _ := l.At(i)
				parts = append(parts, x)
			}
			parts = slices.AppendSeq(parts, l.Since())
			if all := collect(t, l.All()); !slices.Equal(parts, all) || len(all) != l.Len() {
				t.Errorf("All yields %v, the parts are %v", all, parts)
			}
		}
	}
}

// P7.10

// ask calls each function that may not change a list, and each other one so that it returns an error, if there is such a call.
func ask[T any](l *history.List[T], full bool) {
	l.Len()
	l.Marked()
	l.Copy()
	l.All()
	l.Since()
	for range l.All() {
	}
	for range l.Since() {
	}
	for _, i := range append(outside(l.Len()), 0, l.Len()-1, l.Len(), l.Marked()) {
		l.At(i)
	}
	for _, n := range append(outside(l.Len()), l.Marked()-1) {
		l.Cut(n)
	}
	if full {
		var x T
		l.Add(x)
	}
}

func TestQuestionsAndErrorsChangeNothing(t *testing.T) {
	for n := range 8 {
		for marked := range n + 1 {
			w := fullTwin(t, n, marked)
			for range 3 {
				ask(w.l, false)
				w.compare(t)
			}
			w.add(t, 30)
			w.add(t, 31)
			ask(w.l, true)
			w.compare(t)
			// Changes after the questions do what they do without them.
			w.cut(t, marked+1)
			w.add(t, 40)
			w.compare(t)
			w.mark()
			ask(w.l, false)
			w.compare(t)
		}
	}
}

// calls are the calls of TestEachSequence; k is the number of the call, by which the elements differ.
var calls = []func(t *testing.T, w *twin[int], k int){
	func(t *testing.T, w *twin[int], k int) { w.add(t, k) },
	func(t *testing.T, w *twin[int], k int) { w.mark() },
	func(t *testing.T, w *twin[int], k int) { w.clear() },
	func(t *testing.T, w *twin[int], k int) { w.cut(t, 0) },
	func(t *testing.T, w *twin[int], k int) { w.cut(t, 1) },
	func(t *testing.T, w *twin[int], k int) { w.cut(t, len(w.places)-1) },
}

// TestEachSequence makes all sequences of up to five calls, of which each may also be that a copy takes the list's place, or is put aside.
func TestEachSequence(t *testing.T) {
	const limit = 3
	kinds := len(calls) + 2
	for length, sequences := 0, 1; length <= 5; length, sequences = length+1, sequences*kinds {
		for code := range sequences {
			w := newTwin[int](t, limit)
			var aside []*twin[int]
			for k, rest := 0, code; k < length; k, rest = k+1, rest/kinds {
				switch kind := rest % kinds; kind {
				case len(calls):
					aside = append(aside, w.copy(t))
				case len(calls) + 1:
					aside = append(aside, w)
					w = w.copy(t)
				default:
					calls[kind](t, w, k)
				}
			}
			for _, other := range append(aside, w) {
				other.compare(t)
			}
		}
	}
}

func TestMixedCalls(t *testing.T) {
	for seed := range uint64(60) {
		r := rand.New(rand.NewPCG(70, seed))
		w := newTwin[int](t, 1+r.IntN(60))
		older := w.copy(t)
		for i := range 300 {
			switch r.IntN(12) {
			case 0, 1, 2, 3, 4, 5:
				w.add(t, i)
			case 6:
				w.mark()
			case 7, 8, 9:
				w.cut(t, r.IntN(len(w.places)+4)-2)
			case 10:
				older = w.copy(t)
			case 11:
				if r.IntN(6) == 0 {
					w.clear()
				}
			}
			w.compare(t)
			older.compare(t)
		}
	}
}

// R8

// answers are the results of all calls, one after the other: two lists that behave alike return equal ones.
func answers(l *history.List[string]) string {
	var b strings.Builder
	note := func(x ...any) { fmt.Fprintln(&b, x...) }
	for n := range 8 {
		x, e := l.At(n)
		note(x, e, l.Len(), l.Marked(), text(l), slices.Collect(l.Since()))
		note(l.Add(strconv.Itoa(n)), text(l))
		note(l.Cut(n), text(l))
		if n == 3 {
			l.Mark()
		}
		note(text(l.Copy()))
	}
	l.Clear()
	for range 7 {
		note(l.Add("x"), text(l))
	}
	return b.String()
}

func TestEqualListsReturnEqualResults(t *testing.T) {
	want := answers(built("a b | c d"))
	for name, original := range originals {
		l := original()
		c := l.Copy()
		d := c.Copy()
		for _, l := range []*history.List[string]{l, c, d} {
			if got := answers(l); got != want {
				t.Errorf("%s: %s, not %s", name, got, want)
			}
		}
	}
}

// R1, R2

// invalid checks that a list answers as one that is not valid.
func invalid[T any](t *testing.T, name string, l *history.List[T], x T) {
	t.Helper()
	// The second time tells whether the first one has changed the list.
	for range 2 {
		if e := l.Add(x); e != api.ErrNil {
			t.Errorf("%s: Add is %d", name, e)
		}
		for _, i := range append(outside(0), 0, 1, 2) {
			var none T
			if got, e := l.At(i); e != api.ErrNil || fmt.Sprint(got) != fmt.Sprint(none) {
				t.Errorf("%s: At(%d) is %v, %d", name, i, got, e)
			}
			if e := l.Cut(i); e != api.ErrNil {
				t.Errorf("%s: Cut(%d) is %d", name, i, e)
			}
		}
		if l.Len() != 0 || l.Marked() != 0 || l.Copy() != nil {
			t.Errorf("%s: Len is %d, Marked %d, Copy %v", name, l.Len(), l.Marked(), l.Copy())
		}
		if l.All() == nil || len(collect(t, l.All())) > 0 {
			t.Errorf("%s: All is nil, or yields something", name)
		}
		if l.Since() == nil || len(slices.Collect(l.Since())) > 0 {
			t.Errorf("%s: Since is nil, or yields something", name)
		}
		l.Mark()
		l.Clear()
	}
}

func TestListsThatAreNotValid(t *testing.T) {
	var zero history.List[int]
	invalid(t, "nil", nil, 5)
	invalid(t, "zero", &zero, 5)
	invalid(t, "new", new(history.List[int]), 0)
	invalid(t, "literal", &history.List[int]{}, math.MinInt)
	invalid(t, "nil, strings", nil, "a")
	invalid(t, "zero, strings", &history.List[string]{}, "")
	invalid(t, "zero, slices", &history.List[[]int]{}, []int{1})
	invalid(t, "zero, no bytes", &history.List[struct{}]{}, struct{}{})
	refused, _ := history.New[uint8](100_001)
	invalid(t, "refused", refused, 1)
	var none *history.List[string]
	invalid(t, "copy of nil", none.Copy(), "a")
}

// TestAssignedListsAreNotValid: New and Copy return pointers; what they point to, assigned to a variable, is a list that neither of them returned.
func TestAssignedListsAreNotValid(t *testing.T) {
	for _, l := range []*history.List[string]{built(""), built("a | b"), built("a b |"), built("a | b").Copy()} {
		unchanged := text(l)
		assigned := *l
		invalid(t, "assigned", &assigned, "x")
		if text(l) != unchanged {
			t.Errorf("%q became %q", unchanged, text(l))
		}
		if e := l.Add("y"); e != api.OK {
			t.Error("a list that was assigned is not valid itself any more", e)
		}
		invalid(t, "assigned", &assigned, "x")
	}
}

func TestCopiesAreValid(t *testing.T) {
	for _, c := range []*history.List[string]{built("").Copy(), built("a |").Copy(), built("a | b").Copy().Copy()} {
		n := c.Len()
		if e := c.Add("x"); e != api.OK || c.Len() != n+1 {
			t.Error(e, c.Len())
		}
	}
}

// Types of elements

// sweep makes calls of each kind with elements of a type.
func sweep[T any](t *testing.T, equal func(a, b T) bool, elements ...T) {
	t.Helper()
	w := twinOf(t, 2*len(elements), equal)
	w.compare(t)
	for i, x := range elements {
		w.add(t, x)
		w.compare(t)
		if i%2 == 0 {
			w.mark()
			w.compare(t)
		}
	}
	older := w.copy(t)
	for range len(elements) + 1 {
		w.add(t, elements[0])
	}
	w.compare(t)
	for n := 2 * len(elements); n > 0; n-- {
		w.cut(t, n)
		w.compare(t)
	}
	w.clear()
	w.add(t, elements[len(elements)-1])
	w.compare(t)
	older.compare(t)
}

func same[T comparable](a, b T) bool { return a == b }

type pair struct {
	name   string
	number int
}

type level int8

func TestElementsOfEachType(t *testing.T) {
	sweep(t, same, "a", "", "a", "\xff", strings.Repeat("long", 1000))
	sweep(t, same, math.MinInt, -1, 0, 1, math.MaxInt)
	sweep(t, same, uint8(0), 255, 1)
	sweep(t, same, uint64(math.MaxUint64), 0, 1<<63)
	sweep(t, same, true, false, true)
	sweep(t, same, 0.5, math.Inf(1), -2)
	sweep(t, same, level(-5), 0, 5)
	sweep(t, same, pair{"a", 1}, pair{}, pair{"b", -2})
	sweep(t, same, [2]pair{{"a", 1}, {"b", 2}}, [2]pair{}, [2]pair{{"", 3}, {"c", 0}})
	sweep(t, same, new(int), nil, &pairOf("x").number)
	sweep(t, same, pairOf("a"), nil, pairOf("a"))
	sweep(t, same, struct{}{}, struct{}{}, struct{}{})
	sweep(t, same, make(chan int), nil, make(chan int, 3))
	sweep[any](t, same, "a", nil, 5, pair{"c", 3}, api.ErrNil)
	sweep(t, same, api.OK, api.ErrNil, api.ErrOver)
	sweep(t, same, api.Rec{Key: "a"}, api.Rec{}, api.Rec{Key: "b"})
	sweep(t, same, built("a"), nil, built("a"))
}

func pairOf(name string) *pair { return &pair{name: name} }

// TestElementsThatAreNotComparable: these types have no ==, except with nil.
func TestElementsThatAreNotComparable(t *testing.T) {
	sweep(t, slices.Equal, []int{1, 2}, nil, []int{}, []int{3})
	sweep(t, func(a, b [][]string) bool { return slices.EqualFunc(a, b, slices.Equal) }, [][]string{{"a"}, nil}, nil, [][]string{{}, {"b", "c"}})
	sweep(t, func(a, b map[string]int) bool { return fmt.Sprint(a) == fmt.Sprint(b) && (a == nil) == (b == nil) }, map[string]int{"a": 1}, nil, map[string]int{})
	sweep(t, func(a, b func() int) bool { return (a == nil) == (b == nil) && (a == nil || a() == b()) }, func() int { return 1 }, nil, func() int { return 2 })
}

// TestNoElementIsEqualToItself: the list does not compare its elements.
func TestNoElementIsEqualToItself(t *testing.T) {
	l, _ := history.New[float64](3)
	for range 3 {
		l.Add(math.NaN())
		l.Mark()
	}
	if l.Len() != 3 || l.Marked() != 3 || l.Add(1) != api.ErrFull {
		t.Error(l.Len(), l.Marked())
	}
	for i, x := range l.Copy().All() {
		if x == x {
			t.Error(i, x)
		}
	}
}

// Limits

// TestGreatestList fills a list of the greatest limit, and changes it everywhere.
func TestGreatestList(t *testing.T) {
	const most = 100_000
	w := newTwin[int](t, most)
	fill := func(first int) {
		t.Helper()
		for i := w.l.Len(); i < most; i++ {
			if e := w.l.Add(first + i); e != api.OK {
				t.Fatal(i, e)
			}
			w.places = append(w.places, place[int]{first + i, false})
		}
		w.add(t, -1)
		w.compare(t)
	}
	fill(0)
	w.cut(t, most/2)
	w.mark()
	fill(most)
	older := w.copy(t)
	w.cut(t, most/2-1)
	w.cut(t, most/2+1)
	fill(2 * most)
	w.mark()
	w.cut(t, most-1)
	w.cut(t, most)
	w.compare(t)
	older.compare(t)
	w.clear()
	fill(3 * most)
	older.compare(t)
}
