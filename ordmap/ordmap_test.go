package ordmap_test

import (
	"cmp"
	"iter"
	"maps"
	"math"
	"slices"
	"strconv"
	"strings"
	"testing"

	"drumlin/api"
	"drumlin/ordmap"
)

// What follows up to the first test is the chapter's definitions: a map of Go, of which all keys are looked at for each question.

// rank counts the keys that are less than k.
func rank[K cmp.Ordered, V any](r map[K]V, k K) int {
	n := 0
	for key := range r {
		if key < k {
			n++
		}
	}
	return n
}

// byRank returns the keys, each at its index.
func byRank[K cmp.Ordered, V any](r map[K]V) []K {
	l := make([]K, len(r))
	for key := range r {
		l[rank(r, key)] = key
	}
	return l
}

// best returns the key that is asked for and before which, by better, no other one comes.
func best[K cmp.Ordered, V any](r map[K]V, asked func(K) bool, better func(a, b K) bool) (K, V, bool) {
	var found K
	var has bool
	for key := range r {
		if asked(key) && (!has || better(key, found)) {
			found, has = key, true
		}
	}
	// Where nothing was found r might have the zero key all the same.
	if !has {
		var v V
		return found, v, false
	}
	return found, r[found], true
}

func less[K cmp.Ordered](a, b K) bool { return a < b }

func greater[K cmp.Ordered](a, b K) bool { return a > b }

func every[K cmp.Ordered](K) bool { return true }

// item is what a call returns that finds a key, or an element of an iterator (Has is true then).
type item[K cmp.Ordered, V any] struct {
	Key   K
	Value V
	Has   bool
}

func itemOf[K cmp.Ordered, V any](k K, v V, has bool) item[K, V] {
	return item[K, V]{k, v, has}
}

func collect[K cmp.Ordered, V any](s iter.Seq2[K, V]) []item[K, V] {
	var l []item[K, V]
	for k, v := range s {
		l = append(l, item[K, V]{k, v, true})
	}
	return l
}

// itemsFrom returns the items of the keys of l that are not less than k.
func itemsFrom[K cmp.Ordered, V any](r map[K]V, l []K, k K) []item[K, V] {
	var items []item[K, V]
	for _, key := range l {
		if key >= k {
			items = append(items, item[K, V]{key, r[key], true})
		}
	}
	return items
}

// compare asks a map everything, with each of the keys and with those that it has, and compares it with the definitions.
func compare[K cmp.Ordered, V comparable](t *testing.T, m *ordmap.Map[K, V], r map[K]V, keys []K) {
	t.Helper()
	l := byRank(r)
	if n := m.Len(); n != len(r) {
		t.Errorf("%v: Len is %d", r, n)
	}
	if got, want := itemOf(m.Min()), itemOf(best(r, every, less)); got != want {
		t.Errorf("%v: Min is %v", r, got)
	}
	if got, want := itemOf(m.Max()), itemOf(best(r, every, greater)); got != want {
		t.Errorf("%v: Max is %v", r, got)
	}
	var all []item[K, V]
	for _, key := range l {
		all = append(all, item[K, V]{key, r[key], true})
	}
	if got := collect(m.All()); !slices.Equal(got, all) {
		t.Errorf("%v: All yields %v", r, got)
	}
	for i := -2; i < len(l)+3; i++ {
		compareAt(t, m, r, l, i)
	}
	for _, k := range slices.Concat(keys, l) {
		compareKey(t, m, r, l, k)
	}
}

func compareAt[K cmp.Ordered, V comparable](t *testing.T, m *ordmap.Map[K, V], r map[K]V, l []K, i int) {
	t.Helper()
	var key K
	var value V
	wantErr := api.ErrRange
	if i >= 0 && i < len(l) {
		key, value, wantErr = l[i], r[l[i]], api.OK
	}
	if k, v, e := m.At(i); k != key || v != value || e != wantErr {
		t.Errorf("%v: At(%d) is %v, %v, %d", r, i, k, v, e)
	}
}

func compareKey[K cmp.Ordered, V comparable](t *testing.T, m *ordmap.Map[K, V], r map[K]V, l []K, k K) {
	t.Helper()
	value, want := r[k]
	if v, has := m.Get(k); v != value || has != want {
		t.Errorf("%v: Get(%v) is %v, %v", r, k, v, has)
	}
	if got, want := itemOf(m.Floor(k)), itemOf(best(r, func(key K) bool { return !(key > k) }, greater)); got != want {
		t.Errorf("%v: Floor(%v) is %v", r, k, got)
	}
	if got, want := itemOf(m.Ceil(k)), itemOf(best(r, func(key K) bool { return !(key < k) }, less)); got != want {
		t.Errorf("%v: Ceil(%v) is %v", r, k, got)
	}
	if n := m.Rank(k); n != rank(r, k) {
		t.Errorf("%v: Rank(%v) is %d", r, k, n)
	}
	if got := collect(m.From(k)); !slices.Equal(got, itemsFrom(r, l, k)) {
		t.Errorf("%v: From(%v) yields %v", r, k, got)
	}
}

// set sets a key in both maps, and compares what Set returns.
func set[K cmp.Ordered, V comparable](t *testing.T, m *ordmap.Map[K, V], r map[K]V, k K, v V) {
	t.Helper()
	value, want := r[k]
	if old, had, e := m.Set(k, v); old != value || had != want || e != api.OK {
		t.Errorf("%v: Set(%v, %v) is %v, %v, %d", r, k, v, old, had, e)
	}
	r[k] = v
}

// remove deletes a key from both maps, and compares what Delete returns.
func remove[K cmp.Ordered, V comparable](t *testing.T, m *ordmap.Map[K, V], r map[K]V, k K) {
	t.Helper()
	value, want := r[k]
	if old, had := m.Delete(k); old != value || had != want {
		t.Errorf("%v: Delete(%v) is %v, %v", r, k, old, had)
	}
	delete(r, k)
}

// built returns a map whose keys were set in the order of the arguments, each with its text as the value.
func built(keys ...int) *ordmap.Map[int, string] {
	m := ordmap.New[int, string]()
	for _, k := range keys {
		m.Set(k, strconv.Itoa(k))
	}
	return m
}

func text(m *ordmap.Map[int, string]) string {
	var b strings.Builder
	for k, v := range m.All() {
		b.WriteString(strconv.Itoa(k) + "=" + v + " ")
	}
	return strings.TrimSpace(b.String())
}

// noise returns n numbers, others for another seed.
func noise(n int, seed uint64) []int {
	l := make([]int, n)
	for i := range l {
		seed = seed*6364136223846793005 + 1442695040888963407
		l[i] = int(seed >> 33)
	}
	return l
}

// permutations returns all orders of the numbers.
func permutations(l []int) [][]int {
	if len(l) == 0 {
		return [][]int{nil}
	}
	var all [][]int
	for i, first := range l {
		for _, p := range permutations(slices.Concat(l[:i], l[i+1:])) {
			all = append(all, append([]int{first}, p...))
		}
	}
	return all
}

var probes = []int{math.MinInt, -1, 0, 1, 2, 3, 4, 5, 6, 7, 8, 9, 10, math.MaxInt}

// TestExamples makes the calls of the chapter's table, in their order.
func TestExamples(t *testing.T) {
	m := ordmap.New[int, string]()
	for i, x := range []struct {
		k   int
		v   string
		old string
		had bool
	}{{5, "a", "", false}, {2, "b", "", false}, {9, "c", "", false}, {5, "d", "a", true}} {
		if old, had, e := m.Set(x.k, x.v); old != x.old || had != x.had || e != api.OK {
			t.Error("Set", i, old, had, e)
		}
	}
	if v, has := m.Get(5); v != "d" || !has {
		t.Error("Get(5)", v, has)
	}
	if v, has := m.Get(4); v != "" || has {
		t.Error("Get(4)", v, has)
	}
	if n := m.Len(); n != 3 {
		t.Error("Len", n)
	}
	for i, x := range []struct{ got, want item[int, string] }{
		{itemOf(m.Floor(4)), item[int, string]{2, "b", true}},
		{itemOf(m.Ceil(4)), item[int, string]{5, "d", true}},
		{itemOf(m.Floor(1)), item[int, string]{}},
		{itemOf(m.Ceil(10)), item[int, string]{}},
	} {
		if x.got != x.want {
			t.Error("Floor, Ceil", i, x.got)
		}
	}
	for _, x := range []struct {
		i, k int
		v    string
		e    api.Errno
	}{{0, 2, "b", api.OK}, {2, 9, "c", api.OK}, {3, 0, "", api.ErrRange}, {-1, 0, "", api.ErrRange}} {
		if k, v, e := m.At(x.i); k != x.k || v != x.v || e != x.e {
			t.Error("At", x.i, k, v, e)
		}
	}
	if a, b, c := m.Rank(2), m.Rank(3), m.Rank(100); a != 0 || b != 1 || c != 3 {
		t.Error("Rank", a, b, c)
	}
	if l := collect(m.From(3)); !slices.Equal(l, []item[int, string]{{5, "d", true}, {9, "c", true}}) {
		t.Error("From(3)", l)
	}
	if v, had := m.Delete(2); v != "b" || !had {
		t.Error("Delete(2)", v, had)
	}
	if v, had := m.Delete(2); v != "" || had {
		t.Error("Delete(2) again", v, had)
	}
	if k, v, has := m.Min(); k != 5 || v != "d" || !has {
		t.Error("Min", k, v, has)
	}
}

// P3.1

func TestNewIsEmpty(t *testing.T) {
	m := ordmap.New[int, string]()
	if m == nil {
		t.Fatal("New returned nil")
	}
	compare(t, m, nil, probes)
	compare(t, ordmap.New[string, int](), nil, []string{"", "a", "\xff"})
	compare(t, ordmap.New[float64, bool](), nil, []float64{math.Inf(-1), 0, math.Inf(1)})
	if old, had, e := m.Set(1, "a"); old != "" || had || e != api.OK {
		t.Error("an empty map can't be set", old, had, e)
	}
}

func TestNewMapsAreIndependent(t *testing.T) {
	a, b := ordmap.New[int, string](), ordmap.New[int, string]()
	a.Set(1, "a")
	b.Set(2, "b")
	if text(a) != "1=a" || text(b) != "2=b" {
		t.Error(text(a), text(b))
	}
	if c := ordmap.New[int, string](); c.Len() != 0 {
		t.Error(text(c))
	}
}

func TestCopyHasTheSameKeys(t *testing.T) {
	for n := range 40 {
		m, r := ordmap.New[int, string](), map[int]string{}
		for _, k := range noise(n, uint64(n)) {
			set(t, m, r, k%50, strconv.Itoa(k))
		}
		c := m.Copy()
		if c == nil || c == m {
			t.Fatal("Copy returned nil, or the map itself")
		}
		compare(t, c, r, probes)
		compare(t, c.Copy(), r, probes)
		compare(t, m, r, probes)
	}
}

// changes are all kinds of changes of a map with the keys 2, 4 and 6.
var changes = []struct {
	name   string
	change func(*ordmap.Map[int, string])
	want   string
}{
	{"another value", func(m *ordmap.Map[int, string]) { m.Set(4, "x") }, "2=2 4=x 6=6"},
	{"a new first key", func(m *ordmap.Map[int, string]) { m.Set(1, "x") }, "1=x 2=2 4=4 6=6"},
	{"a new key", func(m *ordmap.Map[int, string]) { m.Set(3, "x") }, "2=2 3=x 4=4 6=6"},
	{"a new last key", func(m *ordmap.Map[int, string]) { m.Set(7, "x") }, "2=2 4=4 6=6 7=x"},
	{"no first key", func(m *ordmap.Map[int, string]) { m.Delete(2) }, "4=4 6=6"},
	{"no middle key", func(m *ordmap.Map[int, string]) { m.Delete(4) }, "2=2 6=6"},
	{"no last key", func(m *ordmap.Map[int, string]) { m.Delete(6) }, "2=2 4=4"},
	{"no key, and another one", func(m *ordmap.Map[int, string]) { m.Delete(6); m.Set(8, "x") }, "2=2 4=4 8=x"},
	{"no keys", func(m *ordmap.Map[int, string]) { m.Delete(2); m.Delete(4); m.Delete(6) }, ""},
}

func TestCopyIsIndependent(t *testing.T) {
	const before = "2=2 4=4 6=6"
	for _, first := range changes {
		for _, second := range changes {
			m := built(2, 4, 6)
			c := m.Copy()
			first.change(c)
			if text(m) != before || text(c) != first.want {
				t.Errorf("the copy has %s: %q and %q", first.name, text(m), text(c))
			}
			second.change(m)
			if text(m) != second.want || text(c) != first.want {
				t.Errorf("the copy has %s, the map %s: %q and %q", first.name, second.name, text(m), text(c))
			}
		}
	}
}

// TestCopyOfSpareMemory copies a map that has had more keys, and room for more.
func TestCopyOfSpareMemory(t *testing.T) {
	m := built(noise(100, 3)...)
	for range m.Len() - 3 {
		k, _, _ := m.Min()
		m.Delete(k)
	}
	m.Set(math.MaxInt, "m")
	a, b := m.Copy(), m.Copy()
	before := text(m)
	a.Set(math.MinInt, "a")
	b.Set(math.MinInt, "b")
	m.Set(math.MinInt, "m")
	for s, c := range map[string]*ordmap.Map[int, string]{"a": a, "b": b, "m": m} {
		if want := strconv.Itoa(math.MinInt) + "=" + s + " " + before; text(c) != want {
			t.Errorf("%q, not %q", text(c), want)
		}
	}
}

func TestCopyAssignsValues(t *testing.T) {
	slicesOf := ordmap.New[string, []int]()
	shared := []int{1, 2, 3}
	slicesOf.Set("a", shared)
	c, _ := slicesOf.Copy().Get("a")
	if len(c) != 3 || &c[0] != &shared[0] {
		t.Error("a slice of the copy has other memory")
	}
	pointers := ordmap.New[string, *int]()
	pointers.Set("a", &shared[1])
	if p, _ := pointers.Copy().Get("a"); p != &shared[1] {
		t.Error("a pointer of the copy is another one")
	}
	arrays := ordmap.New[string, [2]int]()
	arrays.Set("a", [2]int{1, 2})
	a := arrays.Copy()
	a.Set("a", [2]int{3, 4})
	if v, _ := arrays.Get("a"); v != [2]int{1, 2} {
		t.Error("an array of the copy is that of the map", v)
	}
}

// P3.2

func TestSetReturnsThePreviousValue(t *testing.T) {
	m, r := ordmap.New[int, string](), map[int]string{}
	for _, k := range []int{5, 1, 9, 3, 7} {
		set(t, m, r, k, "")
		compare(t, m, r, probes)
	}
	for _, k := range []int{1, 3, 5, 7, 9, 2, 0, 10} {
		for _, v := range []string{"a", "a", "", "b"} {
			set(t, m, r, k, v)
			compare(t, m, r, probes)
		}
	}
}

// TestSetAfterDelete: the value that a key had before it was deleted is no previous one.
func TestSetAfterDelete(t *testing.T) {
	for _, k := range []int{2, 4, 6} {
		m := built(2, 4, 6)
		m.Delete(k)
		if old, had, e := m.Set(k, "x"); old != "" || had || e != api.OK {
			t.Error(k, old, had, e)
		}
		if old, had, e := m.Set(k, "y"); old != "x" || !had || e != api.OK {
			t.Error(k, old, had, e)
		}
	}
}

// P3.3

func TestGetAndDelete(t *testing.T) {
	for _, k := range probes {
		m, r := ordmap.New[int, string](), map[int]string{}
		for _, key := range []int{3, 9, 1, 7, 5} {
			set(t, m, r, key, strconv.Itoa(key))
		}
		remove(t, m, r, k)
		compare(t, m, r, probes)
		remove(t, m, r, k)
		compare(t, m, r, probes)
	}
}

func TestGetAndDeleteOfZeroValues(t *testing.T) {
	m := ordmap.New[int, string]()
	m.Set(0, "")
	if v, has := m.Get(0); v != "" || !has {
		t.Error(v, has)
	}
	if v, had := m.Delete(0); v != "" || !had {
		t.Error(v, had)
	}
	if v, has := m.Get(0); v != "" || has {
		t.Error(v, has)
	}
	if v, had := m.Delete(0); v != "" || had {
		t.Error(v, had)
	}
}

func TestDeleteInEachOrder(t *testing.T) {
	for _, order := range permutations([]int{1, 3, 5, 7, 9}) {
		m, r := built(1, 3, 5, 7, 9), map[int]string{1: "1", 3: "3", 5: "5", 7: "7", 9: "9"}
		for _, k := range order {
			remove(t, m, r, k)
			compare(t, m, r, probes)
		}
		set(t, m, r, 4, "x")
		compare(t, m, r, probes)
	}
}

// P3.4 to P3.7

// TestEachSubset asks everything of each map that has some of six keys.
func TestEachSubset(t *testing.T) {
	keys := []int{math.MinInt, 1, 3, 4, 8, math.MaxInt}
	for bits := range 1 << len(keys) {
		m, r := ordmap.New[int, string](), map[int]string{}
		for i, k := range keys {
			if bits>>i&1 == 1 {
				set(t, m, r, k, strconv.Itoa(k))
			}
		}
		compare(t, m, r, probes)
	}
}

func TestMinAndMax(t *testing.T) {
	m := ordmap.New[int, string]()
	for _, x := range []struct{ k, least, greatest int }{{5, 5, 5}, {7, 5, 7}, {6, 5, 7}, {-3, -3, 7}, {0, -3, 7}, {math.MaxInt, -3, math.MaxInt}, {math.MinInt, math.MinInt, math.MaxInt}} {
		m.Set(x.k, strconv.Itoa(x.k))
		if k, v, has := m.Min(); k != x.least || v != strconv.Itoa(k) || !has {
			t.Error("Min", x, k, v, has)
		}
		if k, v, has := m.Max(); k != x.greatest || v != strconv.Itoa(k) || !has {
			t.Error("Max", x, k, v, has)
		}
	}
}

func TestFloorAndCeilAtBothEnds(t *testing.T) {
	m := built(-10, 0, 10)
	none := item[int, string]{}
	for _, x := range []struct {
		k           int
		floor, ceil item[int, string]
	}{
		{math.MinInt, none, item[int, string]{-10, "-10", true}},
		{-11, none, item[int, string]{-10, "-10", true}},
		{-10, item[int, string]{-10, "-10", true}, item[int, string]{-10, "-10", true}},
		{-9, item[int, string]{-10, "-10", true}, item[int, string]{0, "0", true}},
		{0, item[int, string]{0, "0", true}, item[int, string]{0, "0", true}},
		{9, item[int, string]{0, "0", true}, item[int, string]{10, "10", true}},
		{10, item[int, string]{10, "10", true}, item[int, string]{10, "10", true}},
		{11, item[int, string]{10, "10", true}, none},
		{math.MaxInt, item[int, string]{10, "10", true}, none},
	} {
		if got := itemOf(m.Floor(x.k)); got != x.floor {
			t.Errorf("Floor(%d) is %v", x.k, got)
		}
		if got := itemOf(m.Ceil(x.k)); got != x.ceil {
			t.Errorf("Ceil(%d) is %v", x.k, got)
		}
	}
}

func TestAtWithIndexesThatDoNotExist(t *testing.T) {
	for _, m := range []*ordmap.Map[int, string]{built(), built(1), built(1, 2, 3)} {
		n := m.Len()
		for _, i := range []int{n, n + 1, n + 64, 1 << 32, 1<<32 + 1, math.MaxInt - 1, math.MaxInt, -1, -2, -n - 1, -1 << 32, math.MinInt + 1, math.MinInt} {
			if k, v, e := m.At(i); k != 0 || v != "" || e != api.ErrRange {
				t.Errorf("%d keys: At(%d) is %d, %q, %d", n, i, k, v, e)
			}
		}
	}
}

func TestLoopsStopEarly(t *testing.T) {
	m := built(1, 2, 3, 4, 5, 6)
	for _, x := range []struct {
		name  string
		s     iter.Seq2[int, string]
		first int
	}{{"All", m.All(), 1}, {"From(3)", m.From(3), 3}, {"From(0)", m.From(0), 1}} {
		for n := 1; n < 8-x.first; n++ {
			var got []int
			// The iterator is called as a function, since a loop would panic, and not count, if it went on.
			x.s(func(k int, v string) bool {
				got = append(got, k)
				return len(got) < n
			})
			if len(got) != n || got[0] != x.first || got[n-1] != x.first+n-1 {
				t.Errorf("%s, stopped after %d keys: %v", x.name, n, got)
			}
		}
	}
	if text(m) != text(built(1, 2, 3, 4, 5, 6)) {
		t.Error("a loop that stopped early has changed the map")
	}
}

func TestLoopsBeginAnew(t *testing.T) {
	m := built(1, 2, 3, 4)
	all, from := m.All(), m.From(3)
	for range 3 {
		for k := range all {
			if k == 2 {
				break
			}
		}
		for range from {
			break
		}
		if l := collect(all); len(l) != 4 || l[0].Key != 1 {
			t.Error("All", l)
		}
		if l := collect(from); len(l) != 2 || l[0].Key != 3 {
			t.Error("From(3)", l)
		}
	}
}

// TestLoopsInLoops: loops over one iterator, one in the other, do not know of each other.
func TestLoopsInLoops(t *testing.T) {
	m := built(1, 2, 3)
	all, from := m.All(), m.From(2)
	var l []int
	for a := range all {
		for b := range from {
			for c := range all {
				if c == 3 {
					break
				}
				l = append(l, 100*a+10*b+c)
			}
		}
	}
	if !slices.Equal(l, []int{121, 122, 131, 132, 221, 222, 231, 232, 321, 322, 331, 332}) {
		t.Error(l)
	}
}

// R7

func TestLoopsYieldWhatTheMapHasWhenTheyBegin(t *testing.T) {
	m, r := ordmap.New[int, string](), map[int]string{}
	all, from := m.All(), m.From(4)
	check := func() {
		t.Helper()
		if got, want := collect(all), itemsFrom(r, byRank(r), math.MinInt); !slices.Equal(got, want) {
			t.Errorf("All yields %v, not %v", got, want)
		}
		if got, want := collect(from), itemsFrom(r, byRank(r), 4); !slices.Equal(got, want) {
			t.Errorf("From(4) yields %v, not %v", got, want)
		}
	}
	check()
	for _, k := range []int{5, 3, 4, 1, 9, 2, 8, 0} {
		set(t, m, r, k, strconv.Itoa(k))
		check()
	}
	for _, k := range []int{5, 0, 9, 4} {
		set(t, m, r, k, "x")
		check()
		remove(t, m, r, k)
		check()
	}
}

// P3.8

// TestMixedCalls compares after each of many calls; the keys are few, so that they are set again and deleted.
func TestMixedCalls(t *testing.T) {
	for seed := range uint64(30) {
		m, r := ordmap.New[int, int](), map[int]int{}
		for i, x := range noise(150, seed) {
			k := x / 4 % 12
			if x%4 == 0 {
				remove(t, m, r, k)
			} else {
				set(t, m, r, k, i)
			}
			compare(t, m, r, probes)
		}
	}
}

func TestOtherKeysKeepTheirValues(t *testing.T) {
	keys := []int{2, 4, 6, 8}
	for _, k := range probes {
		for name, change := range map[string]func(*ordmap.Map[int, string]){
			"Set":    func(m *ordmap.Map[int, string]) { m.Set(k, "x") },
			"Delete": func(m *ordmap.Map[int, string]) { m.Delete(k) },
		} {
			m := built(keys...)
			change(m)
			for _, other := range keys {
				if v, has := m.Get(other); other != k && (v != strconv.Itoa(other) || !has) {
					t.Errorf("%s(%d): Get(%d) is %q, %v", name, k, other, v, has)
				}
			}
		}
	}
}

// P3.9

// consistent compares a map with itself: it needs no other one.
func consistent[K cmp.Ordered, V comparable](t *testing.T, m *ordmap.Map[K, V]) {
	t.Helper()
	l := collect(m.All())
	if len(l) != m.Len() {
		t.Errorf("All yields %d keys, Len is %d", len(l), m.Len())
	}
	for i, x := range l {
		k, v, e := m.At(i)
		if k != x.Key || v != x.Value || e != api.OK || m.Rank(k) != i {
			t.Errorf("At(%d) is %v, %v, %d, and the rank of %v is %d", i, k, v, e, k, m.Rank(k))
		}
		if i > 0 && !(l[i-1].Key < k) {
			t.Errorf("%v comes before %v", l[i-1].Key, k)
		}
		if floor, ceil := itemOf(m.Floor(k)), itemOf(m.Ceil(k)); floor != x || ceil != x {
			t.Errorf("Floor(%v) is %v, Ceil(%v) is %v", k, floor, k, ceil)
		}
		if got := collect(m.From(k)); !slices.Equal(got, l[i:]) {
			t.Errorf("From(%v) yields %v", k, got)
		}
	}
	var first, last item[K, V]
	if len(l) > 0 {
		first, last = l[0], l[len(l)-1]
	}
	if a, b := itemOf(m.Min()), itemOf(m.Max()); a != first || b != last {
		t.Errorf("Min is %v, Max is %v", a, b)
	}
}

func TestMapsAreConsistent(t *testing.T) {
	for n := range 70 {
		m := built(noise(n, uint64(n))...)
		consistent(t, m)
		for i := 0; i < m.Len(); i++ {
			k, _, _ := m.At(i)
			m.Delete(k)
			consistent(t, m)
		}
	}
}

// TestManyKeys has so many keys that a faulty search for them, or a faulty move of them, has room to show.
func TestManyKeys(t *testing.T) {
	const n = 50000
	for name, key := range map[string]func(int) int{
		"increasing": func(i int) int { return i },
		"decreasing": func(i int) int { return n - 1 - i },
		"mixed":      func(i int) int { return i * 7919 % n },
	} {
		m := ordmap.New[int, int]()
		for i := range n {
			m.Set(2*key(i), key(i))
		}
		if m.Len() != n {
			t.Errorf("%s: %d keys", name, m.Len())
		}
		for i := range n {
			k, v, e := m.At(i)
			above, _, has := m.Ceil(2*i - 1)
			if k != 2*i || v != i || e != api.OK || m.Rank(k) != i || above != k || !has {
				t.Fatalf("%s: At(%d) is %d, %d, %d", name, i, k, v, e)
			}
		}
		for i := range n {
			if v, had := m.Delete(2 * key(i)); v != key(i) || !had {
				t.Fatalf("%s: Delete(%d) is %d, %v", name, 2*key(i), v, had)
			}
		}
		compare(t, m, nil, probes)
	}
}

// P3.10

// ask calls each function that may not change a map, with all probes.
func ask(m *ordmap.Map[int, string]) {
	m.Len()
	m.Min()
	m.Max()
	m.All()
	m.Copy()
	for range m.All() {
	}
	for _, i := range probes {
		m.Get(i)
		m.Floor(i)
		m.Ceil(i)
		m.Rank(i)
		m.At(i)
		m.From(i)
		for range m.From(i) {
		}
	}
}

func TestQuestionsChangeNothing(t *testing.T) {
	for n := range 12 {
		m, r := ordmap.New[int, string](), map[int]string{}
		for k := range n {
			set(t, m, r, k, strconv.Itoa(k))
		}
		for range 3 {
			ask(m)
			compare(t, m, r, probes)
		}
		c := m.Copy()
		ask(c)
		compare(t, m, r, probes)
		compare(t, c, r, probes)
		// Changes after the questions do what they do without them.
		set(t, m, r, -1, "x")
		remove(t, m, r, 5)
		compare(t, m, r, probes)
	}
}

// R1, R2

// invalid checks that a map answers as one that is not valid.
func invalid[K cmp.Ordered, V comparable](t *testing.T, name string, m *ordmap.Map[K, V], k K, v V) {
	t.Helper()
	var none item[K, V]
	for range 2 {
		if old, had, e := m.Set(k, v); old != none.Value || had || e != api.ErrNil {
			t.Errorf("%s: Set is %v, %v, %d", name, old, had, e)
		}
		for _, i := range []int{0, -1, 1, math.MinInt, math.MaxInt} {
			if key, value, e := m.At(i); key != none.Key || value != none.Value || e != api.ErrNil {
				t.Errorf("%s: At(%d) is %v, %v, %d", name, i, key, value, e)
			}
		}
		if value, has := m.Get(k); value != none.Value || has {
			t.Errorf("%s: Get is %v, %v", name, value, has)
		}
		if value, had := m.Delete(k); value != none.Value || had {
			t.Errorf("%s: Delete is %v, %v", name, value, had)
		}
		for i, x := range []item[K, V]{itemOf(m.Min()), itemOf(m.Max()), itemOf(m.Floor(k)), itemOf(m.Ceil(k))} {
			if x != none {
				t.Errorf("%s: Min, Max, Floor, Ceil: %d is %v", name, i, x)
			}
		}
		if m.Len() != 0 || m.Rank(k) != 0 || m.Copy() != nil {
			t.Errorf("%s: Len is %d, Rank %d, Copy %v", name, m.Len(), m.Rank(k), m.Copy())
		}
		if m.All() == nil || m.From(k) == nil || len(collect(m.All())) > 0 || len(collect(m.From(k))) > 0 {
			t.Errorf("%s: All or From is nil, or yields something", name)
		}
	}
}

func TestMapsThatAreNotValid(t *testing.T) {
	var zero ordmap.Map[int, string]
	invalid(t, "nil", nil, 5, "a")
	invalid(t, "zero", &zero, 5, "a")
	invalid(t, "new", new(ordmap.Map[int, string]), 0, "")
	invalid(t, "literal", &ordmap.Map[int, string]{}, math.MaxInt, "a")
	invalid(t, "nil, strings", nil, "", 0)
	invalid(t, "zero, strings", &ordmap.Map[string, int]{}, "a", 1)
	invalid(t, "zero, floats", &ordmap.Map[float64, [3]int]{}, math.Inf(1), [3]int{1})
	invalid(t, "zero, NaN", &ordmap.Map[float64, [3]int]{}, math.NaN(), [3]int{1})
}

// TestAssignedMapsAreNotValid: New and Copy return pointers; what they point to, assigned to a variable, is a map that neither of them returned.
func TestAssignedMapsAreNotValid(t *testing.T) {
	for _, m := range []*ordmap.Map[int, string]{built(), built(1, 2, 3), built(1, 2, 3).Copy()} {
		before := text(m)
		assigned := *m
		for _, k := range []int{0, 1, 2, 4} {
			invalid(t, "assigned", &assigned, k, "x")
		}
		if text(m) != before {
			t.Errorf("%q became %q", before, text(m))
		}
		if _, _, e := m.Set(4, "4"); e != api.OK {
			t.Error("a map that was assigned is not valid itself any more")
		}
		invalid(t, "assigned", &assigned, 4, "x")
	}
}

func TestCopiesAreValid(t *testing.T) {
	for _, c := range []*ordmap.Map[int, string]{built().Copy(), built(1, 2).Copy(), built(1, 2).Copy().Copy()} {
		n := c.Len()
		if old, had, e := c.Set(7, "x"); old != "" || had || e != api.OK || c.Len() != n+1 {
			t.Error(old, had, e, c.Len())
		}
	}
}

// Types of keys and values

// sweep sets the keys in several orders, and deletes them again.
func sweep[K cmp.Ordered, V comparable](t *testing.T, keys []K, value func(K) V) {
	t.Helper()
	backwards := slices.Clone(keys)
	slices.Reverse(backwards)
	for _, l := range [][]K{keys, backwards, slices.Concat(keys[len(keys)/2:], keys)} {
		m, r := ordmap.New[K, V](), map[K]V{}
		for _, k := range l {
			set(t, m, r, k, value(k))
			compare(t, m, r, keys)
		}
		consistent(t, m)
		consistent(t, m.Copy())
		for _, k := range l {
			remove(t, m, r, k)
			compare(t, m, r, keys)
		}
	}
}

func TestStringsAreOrderedByTheirBytes(t *testing.T) {
	keys := []string{"b", "", "a", "ab", "aa", "\x00", "a\x00", "B", "Z", "z", "é", "e", "\xff", "\xff\xff", "\x7f", "\x80", "10", "9", strings.Repeat("a", 1000), strings.Repeat("a", 999)}
	sweep(t, keys, func(k string) int { return len(k) })
	m := ordmap.New[string, int]()
	for i, k := range keys {
		m.Set(k, i)
	}
	want := []string{"", "\x00", "10", "9", "B", "Z", "a", "a\x00", "aa", strings.Repeat("a", 999), strings.Repeat("a", 1000), "ab", "b", "e", "z", "\x7f", "\x80", "é", "\xff", "\xff\xff"}
	var got []string
	for k := range m.All() {
		got = append(got, k)
	}
	if !slices.Equal(got, want) {
		t.Errorf("%q", got)
	}
}

type level int8

type name string

func TestKeysOfEachType(t *testing.T) {
	sweep(t, []int{math.MinInt, -1, 0, 1, math.MaxInt}, strconv.Itoa)
	sweep(t, []int8{-128, -1, 0, 1, 127}, func(k int8) bool { return k > 0 })
	sweep(t, []int64{math.MinInt64, -1 << 32, -1, 0, 1, 1 << 32, 1<<32 + 1, math.MaxInt64}, func(k int64) int64 { return -k })
	sweep(t, []uint8{255, 128, 127, 0, 1}, func(k uint8) [2]uint8 { return [2]uint8{k, ^k} })
	sweep(t, []uint64{0, 1, math.MaxInt64, 1 << 63, math.MaxUint64}, func(k uint64) float64 { return float64(k) })
	sweep(t, []uintptr{0, 1, math.MaxUint32, math.MaxUint64}, func(k uintptr) struct{} { return struct{}{} })
	sweep(t, []float32{-math.MaxFloat32, -1, 0, math.SmallestNonzeroFloat32, 1, math.MaxFloat32}, func(k float32) any { return k })
	sweep(t, []float64{math.Inf(-1), -math.MaxFloat64, -0.5, -math.SmallestNonzeroFloat64, 0, math.SmallestNonzeroFloat64, 0.1, 0.2, 0.1 + 0.2, math.MaxFloat64, math.Inf(1)}, func(k float64) item[float64, string] { return item[float64, string]{Key: k} })
	sweep(t, []rune{'a', 'ä', 0x1F600, -1, 0}, func(k rune) string { return string(k) })
	sweep(t, []level{-5, 0, 5}, func(k level) *int { return new(int) })
	sweep(t, []name{"x", "", "y"}, func(k name) name { return k + k })
}

// TestBothZeros: neither of 0 and -0 is less than the other one, so they are one key.
func TestBothZeros(t *testing.T) {
	minus := math.Copysign(0, -1)
	for _, x := range [][2]float64{{0, minus}, {minus, 0}} {
		m, r := ordmap.New[float64, string](), map[float64]string{}
		set(t, m, r, -1, "c")
		set(t, m, r, x[0], "a")
		set(t, m, r, x[1], "b")
		if m.Len() != 2 {
			t.Error(m.Len())
		}
		compare(t, m, r, []float64{0, minus, 1})
		remove(t, m, r, x[0])
		compare(t, m, r, []float64{0, minus, 1})
	}
}

// TestValuesThatCannotBeCompared: a map asks nothing of its values.
func TestValuesThatCannotBeCompared(t *testing.T) {
	functions := ordmap.New[int, func() int]()
	for i := range 5 {
		functions.Set(i, func() int { return 10 * i })
	}
	old, had, _ := functions.Set(3, nil)
	if !had || old() != 30 {
		t.Error("the previous function")
	}
	f, has := functions.Get(4)
	if !has || f() != 40 {
		t.Error("a function")
	}
	if f, has := functions.Get(3); f != nil || !has {
		t.Error("a function that is nil")
	}
	// A map can have maps as values, and is not changed with them.
	nested := ordmap.New[string, *ordmap.Map[int, string]]()
	nested.Set("a", built(1, 2))
	nested.Copy()
	m, _ := nested.Get("a")
	m.Set(3, "3")
	if m, _ := nested.Get("a"); text(m) != "1=1 2=2 3=3" {
		t.Error(text(m))
	}
}

// R4

func TestSetDoesNotTouchItsValue(t *testing.T) {
	m := ordmap.New[int, []int]()
	whole := []int{1, 2, 3, 4}
	m.Set(1, whole[:2])
	m.Set(1, whole[1:3])
	m.Set(0, nil)
	m.Delete(1)
	if !slices.Equal(whole, []int{1, 2, 3, 4}) {
		t.Error(whole)
	}
	if v, has := m.Get(0); v != nil || !has {
		t.Error(v, has)
	}
}

// R8

// TestOrderOfCallsDoesNotMatter: maps with the same keys and values are alike, whatever was called before.
func TestOrderOfCallsDoesNotMatter(t *testing.T) {
	r := map[int]string{1: "1", 3: "3", 5: "5", 6: "6", 8: "8"}
	for _, order := range permutations(slices.Collect(maps.Keys(r))) {
		m := built(order...)
		compare(t, m, r, probes)
		for _, k := range order {
			m.Delete(k)
			m.Set(4, "x")
			m.Set(k, strconv.Itoa(k))
			m.Delete(4)
		}
		compare(t, m, r, probes)
	}
}

func TestEqualCallsReturnEqualResults(t *testing.T) {
	type results struct {
		text         string
		items        [4]item[int, string]
		old, removed string
		e            api.Errno
	}
	all := func(m *ordmap.Map[int, string]) results {
		var x results
		x.old, _, x.e = m.Set(7, "x")
		x.removed, _ = m.Delete(2)
		x.items = [4]item[int, string]{itemOf(m.Min()), itemOf(m.Max()), itemOf(m.Floor(5)), itemOf(m.Ceil(5))}
		x.text = text(m)
		return x
	}
	m := built(9, 2, 7, 4, 6)
	c := m.Copy()
	if a, b, d := all(m), all(c), all(built(2, 4, 6, 7, 9)); a != b || a != d {
		t.Error(a, b, d)
	}
}

// P1

// TestNaNEnds: what a map does with NaN is not specified, but its functions end, and do not panic.
func TestNaNEnds(t *testing.T) {
	m := ordmap.New[float64, int]()
	keys := []float64{1, math.NaN(), -1, math.NaN(), math.Inf(1), 0, math.NaN(), math.Inf(-1), 2}
	for i, k := range slices.Concat(keys, keys) {
		m.Set(k, i)
		for _, k := range keys {
			m.Get(k)
			m.Floor(k)
			m.Ceil(k)
			m.Rank(k)
			collect(m.From(k))
		}
	}
	m.Min()
	m.Max()
	m.At(m.Len() / 2)
	collect(m.Copy().All())
	for _, k := range slices.Concat(keys, keys) {
		m.Delete(k)
	}
}

// FuzzCalls makes the calls that the bytes say: two bits for the call, the others for the key.
func FuzzCalls(f *testing.F) {
	f.Add([]byte(""))
	f.Add([]byte("drumlin"))
	f.Add([]byte{20, 8, 36, 20, 21, 22, 8, 9, 8})
	f.Add([]byte("\x00\x04\x08\x0c\x10\xfc\xf8\x03\x07\x0b\x01\x02\xff\xfe\xfd"))
	f.Fuzz(func(t *testing.T, calls []byte) {
		m, r := ordmap.New[uint8, int](), map[uint8]int{}
		for i, c := range calls[:min(len(calls), 300)] {
			switch c % 4 {
			case 0, 1:
				set(t, m, r, c/4, i)
			case 2:
				remove(t, m, r, c/4)
			case 3:
				m = m.Copy()
				compareKey(t, m, r, byRank(r), c/4)
				compareAt(t, m, r, byRank(r), int(c/4))
			}
		}
		compare(t, m, r, []uint8{0, 1, 31, 63, 64, 255})
		consistent(t, m)
	})
}
