package pqueue_test

import (
	"cmp"
	"iter"
	"math"
	"math/rand/v2"
	"slices"
	"strconv"
	"strings"
	"testing"

	"drumlin/api"
	"drumlin/pqueue"
)

// What follows up to the first test is the chapter's definitions: a map of Go, of which all ids are looked at for each question.

// item is an id with its priority, or what a call returns that finds one; Has is true then.
type item[P cmp.Ordered] struct {
	ID  int
	P   P
	Has bool
}

func itemOf[P cmp.Ordered](id int, p P, has bool) item[P] {
	return item[P]{id, p, has}
}

// below says what cmp.Compare does: NaN is below all other numbers, and equal to itself.
func below[P cmp.Ordered](a, b P) bool {
	return a < b || a != a && b == b
}

func equal[P cmp.Ordered](a, b P) bool {
	return !below(a, b) && !below(b, a)
}

func same[P cmp.Ordered](a, b item[P]) bool {
	return a.ID == b.ID && equal(a.P, b.P) && a.Has == b.Has
}

func before[P cmp.Ordered](a, b item[P]) bool {
	return below(a.P, b.P) || equal(a.P, b.P) && a.ID < b.ID
}

// twin is a queue, and the ids that it has to have.
type twin[P cmp.Ordered] struct {
	q    *pqueue.Queue[P]
	size int
	ids  map[int]P
}

func newTwin[P cmp.Ordered](t *testing.T, size int) twin[P] {
	t.Helper()
	q, e := pqueue.New[P](size)
	if q == nil || e != api.OK {
		t.Fatalf("New(%d) is %v, %d", size, q, e)
	}
	return twin[P]{q, size, map[int]P{}}
}

// inOrder returns the items, each at the number of those that come before it.
func (w twin[P]) inOrder() []item[P] {
	l := make([]item[P], len(w.ids))
	for id, p := range w.ids {
		n := 0
		for other, priority := range w.ids {
			if before(itemOf(other, priority, true), itemOf(id, p, true)) {
				n++
			}
		}
		l[n] = itemOf(id, p, true)
	}
	return l
}

func (w twin[P]) first() item[P] {
	if l := w.inOrder(); len(l) > 0 {
		return l[0]
	}
	return item[P]{}
}

func (w twin[P]) inRange(id int) bool {
	return 0 <= id && id < w.size
}

func (w twin[P]) push(t *testing.T, id int, p P) {
	t.Helper()
	want := api.OK
	if _, has := w.ids[id]; has {
		want = api.ErrHave
	}
	if !w.inRange(id) {
		want = api.ErrRange
	}
	if e := w.q.Push(id, p); e != want {
		t.Errorf("%v: Push(%d, %v) is %d", w.ids, id, p, e)
	}
	if want == api.OK {
		w.ids[id] = p
	}
}

func (w twin[P]) change(t *testing.T, id int, p P) {
	t.Helper()
	want := api.ErrNone
	if _, has := w.ids[id]; has {
		want = api.OK
		w.ids[id] = p
	}
	if !w.inRange(id) {
		want = api.ErrRange
	}
	if e := w.q.Change(id, p); e != want {
		t.Errorf("%v: Change(%d, %v) is %d", w.ids, id, p, e)
	}
}

func (w twin[P]) remove(t *testing.T, id int) {
	t.Helper()
	p, want := w.ids[id]
	if got, had := w.q.Remove(id); !equal(got, p) || had != want {
		t.Errorf("%v: Remove(%d) is %v, %v", w.ids, id, got, had)
	}
	delete(w.ids, id)
}

func (w twin[P]) pop(t *testing.T) {
	t.Helper()
	want := w.first()
	if got := itemOf(w.q.Pop()); !same(got, want) {
		t.Errorf("%v: Pop is %v", w.ids, got)
	}
	if want.Has {
		delete(w.ids, want.ID)
	}
}

// compare asks a queue everything, with each of its ids and some that it can't have, and compares it with the definitions.
func (w twin[P]) compare(t *testing.T) {
	t.Helper()
	l := w.inOrder()
	if n := w.q.Len(); n != len(l) {
		t.Errorf("%v: Len is %d", w.ids, n)
	}
	if got := itemOf(w.q.Peek()); !same(got, w.first()) {
		t.Errorf("%v: Peek is %v", w.ids, got)
	}
	if got := collect(w.q.All()); !slices.EqualFunc(got, l, same[P]) {
		t.Errorf("%v: All yields %v", w.ids, got)
	}
	for id := -2; id < w.size+3; id++ {
		w.comparePriority(t, id)
	}
	for _, id := range outside(w.size) {
		w.comparePriority(t, id)
	}
	c := w.q.Copy()
	if got := popped(c); !slices.EqualFunc(got, l, same[P]) {
		t.Errorf("%v: Pop of a copy returns %v", w.ids, got)
	}
}

func (w twin[P]) comparePriority(t *testing.T, id int) {
	t.Helper()
	p, want := w.ids[id]
	if got, has := w.q.Priority(id); !equal(got, p) || has != want {
		t.Errorf("%v: Priority(%d) is %v, %v", w.ids, id, got, has)
	}
}

func collect[P cmp.Ordered](s iter.Seq2[int, P]) []item[P] {
	var l []item[P]
	for id, p := range s {
		l = append(l, itemOf(id, p, true))
	}
	return l
}

// popped empties a queue.
func popped[P cmp.Ordered](q *pqueue.Queue[P]) []item[P] {
	var l []item[P]
	for id, p, has := q.Pop(); has; id, p, has = q.Pop() {
		l = append(l, itemOf(id, p, true))
	}
	return l
}

// outside returns ids that a queue of this size can't have.
func outside(size int) []int {
	return []int{-1, -2, -size, -size - 1, -1024, -1 << 32, math.MinInt + 1, math.MinInt, size, size + 1, size + 64, 2 * size, 1024, 1025, 1 << 32, 1<<32 + 1, math.MaxInt - 1, math.MaxInt}
}

// built returns a queue of the size 8 with these ids and priorities, one after the other.
func built(l ...int) *pqueue.Queue[int] {
	q, _ := pqueue.New[int](8)
	for i := 0; i < len(l); i += 2 {
		q.Push(l[i], l[i+1])
	}
	return q
}

func text(q *pqueue.Queue[int]) string {
	var b strings.Builder
	for id, p := range q.All() {
		b.WriteString(strconv.Itoa(id) + "=" + strconv.Itoa(p) + " ")
	}
	return strings.TrimSpace(b.String())
}

// orderOf returns the order of the numbers below n that a code names; the codes below the factorial of n name all of them.
func orderOf(n, code int) []int {
	var l []int
	for i := range n {
		l = slices.Insert(l, code%(i+1), i)
		code /= i + 1
	}
	return l
}

// TestExamples makes the calls of the chapter's table, in their order.
func TestExamples(t *testing.T) {
	q, e := pqueue.New[int](8)
	if e != api.OK {
		t.Fatal(e)
	}
	for _, x := range []struct {
		id, p int
		want  api.Errno
	}{{3, 10, api.OK}, {1, 10, api.OK}, {5, 4, api.OK}, {5, 1, api.ErrHave}, {8, 1, api.ErrRange}} {
		if e := q.Push(x.id, x.p); e != x.want {
			t.Error("Push", x, e)
		}
	}
	if got := itemOf(q.Peek()); got != (item[int]{5, 4, true}) {
		t.Error("Peek", got)
	}
	if e := q.Change(3, 2); e != api.OK {
		t.Error("Change(3, 2)", e)
	}
	if got := itemOf(q.Peek()); got != (item[int]{3, 2, true}) {
		t.Error("Peek after Change", got)
	}
	if e := q.Change(0, 2); e != api.ErrNone {
		t.Error("Change(0, 2)", e)
	}
	if p, had := q.Remove(5); p != 4 || !had {
		t.Error("Remove(5)", p, had)
	}
	if p, had := q.Remove(5); p != 0 || had {
		t.Error("Remove(5) again", p, had)
	}
	if l := collect(q.All()); !slices.Equal(l, []item[int]{{3, 2, true}, {1, 10, true}}) {
		t.Error("All", l)
	}
	for i, want := range []item[int]{{3, 2, true}, {1, 10, true}, {}} {
		if got := itemOf(q.Pop()); got != want {
			t.Error("Pop", i, got)
		}
	}
}

// P4.1

func TestNewWithEachSize(t *testing.T) {
	for size := 1; size <= 1024; size++ {
		q, e := pqueue.New[int](size)
		if q == nil || e != api.OK {
			t.Fatalf("New(%d) is %v, %d", size, q, e)
		}
		if e := q.Push(size, 1); e != api.ErrRange {
			t.Errorf("size %d: Push of the size is %d", size, e)
		}
		if q.Len() != 0 {
			t.Errorf("size %d: %d ids", size, q.Len())
		}
		if e := q.Push(size-1, 1); e != api.OK {
			t.Errorf("size %d: Push of the last id is %d", size, e)
		}
		if p, has := q.Priority(size - 1); p != 1 || !has {
			t.Errorf("size %d: Priority of the last id is %d, %v", size, p, has)
		}
	}
}

func TestNewWithOtherSizes(t *testing.T) {
	for _, size := range []int{0, -1, -2, -1023, -1024, math.MinInt, math.MinInt + 1, -1 << 32, 1025, 1026, 2048, 1 << 16, 1 << 32, 1<<32 + 1, math.MaxInt} {
		if q, e := pqueue.New[int](size); q != nil || e != api.ErrArg {
			t.Errorf("New(%d) is %v, %d", size, q, e)
		}
		if q, e := pqueue.New[string](size); q != nil || e != api.ErrArg {
			t.Errorf("New(%d) of strings is %v, %d", size, q, e)
		}
	}
}

func TestNewIsEmpty(t *testing.T) {
	for _, size := range []int{1, 2, 3, 1023, 1024} {
		newTwin[int](t, size).compare(t)
		newTwin[string](t, size).compare(t)
		newTwin[float64](t, size).compare(t)
	}
}

func TestNewQueuesAreIndependent(t *testing.T) {
	a, b := built(1, 10), built(2, 20)
	if text(a) != "1=10" || text(b) != "2=20" || text(built()) != "" {
		t.Error(text(a), text(b), text(built()))
	}
}

func TestCopyHasTheSameIDs(t *testing.T) {
	r := rand.New(rand.NewPCG(4, 1))
	for n := range 40 {
		w := newTwin[int](t, 40)
		for _, id := range r.Perm(40)[:n] {
			w.push(t, id, r.IntN(8))
		}
		c := w
		c.q = w.q.Copy()
		if c.q == nil || c.q == w.q {
			t.Fatal("Copy returned nil, or the queue itself")
		}
		c.compare(t)
		c.q = c.q.Copy()
		c.compare(t)
		w.compare(t)
	}
}

func TestCopyHasTheSameSize(t *testing.T) {
	for _, size := range []int{1, 2, 8, 1023, 1024} {
		w := newTwin[int](t, size)
		w.q = w.q.Copy()
		w.push(t, size-1, 5)
		w.push(t, size, 5)
		w.compare(t)
	}
}

// changes are all kinds of changes of a queue with the ids 2, 4 and 6, whose priorities are 20, 40 and 60.
var changes = []struct {
	name   string
	change func(*pqueue.Queue[int])
	want   string
}{
	{"a new first id", func(q *pqueue.Queue[int]) { q.Push(1, 10) }, "1=10 2=20 4=40 6=60"},
	{"a new id", func(q *pqueue.Queue[int]) { q.Push(3, 30) }, "2=20 3=30 4=40 6=60"},
	{"a new last id", func(q *pqueue.Queue[int]) { q.Push(7, 70) }, "2=20 4=40 6=60 7=70"},
	{"a lower priority", func(q *pqueue.Queue[int]) { q.Change(6, 0) }, "6=0 2=20 4=40"},
	{"a greater priority", func(q *pqueue.Queue[int]) { q.Change(2, 80) }, "4=40 6=60 2=80"},
	{"no first id", func(q *pqueue.Queue[int]) { q.Pop() }, "4=40 6=60"},
	{"no middle id", func(q *pqueue.Queue[int]) { q.Remove(4) }, "2=20 6=60"},
	{"no last id", func(q *pqueue.Queue[int]) { q.Remove(6) }, "2=20 4=40"},
	{"no last id, and another one", func(q *pqueue.Queue[int]) { q.Remove(6); q.Push(0, 50) }, "2=20 4=40 0=50"},
	{"no ids", func(q *pqueue.Queue[int]) { q.Pop(); q.Pop(); q.Pop() }, ""},
}

func TestCopyIsIndependent(t *testing.T) {
	const unchanged = "2=20 4=40 6=60"
	for _, first := range changes {
		for _, second := range changes {
			q := built(6, 60, 4, 40, 2, 20)
			c := q.Copy()
			first.change(c)
			if text(q) != unchanged || text(c) != first.want {
				t.Errorf("the copy has %s: %q and %q", first.name, text(q), text(c))
			}
			second.change(q)
			if text(q) != second.want || text(c) != first.want {
				t.Errorf("the copy has %s, the queue %s: %q and %q", first.name, second.name, text(q), text(c))
			}
		}
	}
}

// TestCopyOfSpareMemory copies a queue that has had more ids, and room for more.
func TestCopyOfSpareMemory(t *testing.T) {
	q := built(0, 0, 1, 10, 2, 20, 3, 30, 4, 40, 5, 50, 6, 60)
	for _, id := range []int{0, 3, 4, 6} {
		q.Remove(id)
	}
	a, b := q.Copy(), q.Copy()
	a.Push(3, 1)
	b.Push(4, 2)
	q.Push(6, 3)
	if text(a) != "3=1 1=10 2=20 5=50" || text(b) != "4=2 1=10 2=20 5=50" || text(q) != "6=3 1=10 2=20 5=50" {
		t.Error(text(a), text(b), text(q))
	}
}

// P4.2

func TestPushAndChange(t *testing.T) {
	w := newTwin[int](t, 8)
	for _, id := range []int{5, 1, 7, 0, 3} {
		w.change(t, id, 4)
		w.compare(t)
		w.push(t, id, 2*id)
		w.compare(t)
		w.push(t, id, 9)
		w.compare(t)
		w.change(t, id, 7-id)
		w.compare(t)
	}
	for id := range 8 {
		for _, p := range []int{4, 4, 0, -3, math.MaxInt, math.MinInt, id} {
			w.change(t, id, p)
			w.compare(t)
		}
		w.push(t, id, 100)
		w.compare(t)
	}
}

// TestIDsOutOfRange: the range comes before whether the id is there, and before the size of the array that the ids may be kept in.
func TestIDsOutOfRange(t *testing.T) {
	for _, size := range []int{1, 2, 8, 1023, 1024} {
		w := newTwin[int](t, size)
		for range 2 {
			for _, id := range outside(size) {
				w.push(t, id, -5)
				w.change(t, id, -5)
				w.remove(t, id)
			}
			w.compare(t)
			w.push(t, 0, 3)
			w.push(t, size-1, 2)
		}
	}
}

// TestIDsThatWereRemoved: an id that was removed is none of the queue, and can be pushed again.
func TestIDsThatWereRemoved(t *testing.T) {
	removals := map[string]func(twin[int]){
		"Remove": func(w twin[int]) { w.remove(t, 4) },
		"Pop":    func(w twin[int]) { w.pop(t) },
	}
	for name, removal := range removals {
		w := newTwin[int](t, 8)
		for _, id := range []int{2, 4, 6} {
			w.push(t, id, 10*id)
		}
		w.change(t, 4, 1)
		for range 3 {
			removal(w)
			if _, has := w.ids[4]; has {
				t.Fatal(name, "has not removed 4")
			}
			w.change(t, 4, 5)
			w.remove(t, 4)
			w.compare(t)
			w.push(t, 4, 7)
			w.compare(t)
		}
	}
}

// P4.3

func TestRemoveAndPriority(t *testing.T) {
	for id := -1; id <= 8; id++ {
		w := newTwin[int](t, 8)
		for _, other := range []int{3, 0, 7, 5, 2} {
			w.push(t, other, other*other%11)
		}
		for range 2 {
			w.remove(t, id)
			w.compare(t)
		}
	}
}

func TestZeroPriorities(t *testing.T) {
	q := built(0, 0)
	if p, has := q.Priority(0); p != 0 || !has {
		t.Error("Priority", p, has)
	}
	if got := itemOf(q.Peek()); got != (item[int]{0, 0, true}) {
		t.Error("Peek", got)
	}
	if p, had := q.Remove(0); p != 0 || !had {
		t.Error("Remove", p, had)
	}
	if p, has := q.Priority(0); p != 0 || has {
		t.Error("Priority of an id that was removed", p, has)
	}
	if p, had := q.Remove(0); p != 0 || had {
		t.Error("Remove of an id that was removed", p, had)
	}
	q.Push(0, 0)
	if got := itemOf(q.Pop()); got != (item[int]{0, 0, true}) {
		t.Error("Pop", got)
	}
	if got := itemOf(q.Pop()); got != (item[int]{}) {
		t.Error("Pop of an empty queue", got)
	}
}

// TestRemoveInEachHeap builds a queue in each order, and removes each id of it.
func TestRemoveInEachHeap(t *testing.T) {
	const n = 6
	for code := range 720 {
		for id := range n {
			w := newTwin[int](t, n)
			for p, other := range orderOf(n, code) {
				w.push(t, other, p)
			}
			w.remove(t, id)
			w.compare(t)
		}
	}
}

// TestRemoveInEachOrder empties a queue whose ids with equal priorities are in each other's way.
func TestRemoveInEachOrder(t *testing.T) {
	const n = 6
	for code := range 720 {
		w := newTwin[int](t, n)
		for id := range n {
			w.push(t, id, id*5%3)
		}
		for _, id := range orderOf(n, code) {
			w.remove(t, id)
			w.compare(t)
		}
	}
}

// P4.4

func TestPeekAndPopOfAnEmptyQueue(t *testing.T) {
	q := built()
	for range 2 {
		if got := itemOf(q.Peek()); got != (item[int]{}) {
			t.Error("Peek", got)
		}
		if got := itemOf(q.Pop()); got != (item[int]{}) {
			t.Error("Pop", got)
		}
		// The second time the queue has had an id.
		q.Push(5, 50)
		q.Pop()
	}
	if e := q.Push(3, 30); e != api.OK || text(q) != "3=30" {
		t.Error("an empty queue can't be filled again", e, text(q))
	}
}

func TestPeekAndPop(t *testing.T) {
	w := newTwin[int](t, 8)
	for _, x := range [][2]int{{4, 50}, {6, 50}, {2, 50}, {7, 40}, {0, 60}, {1, 40}, {3, -1}, {5, math.MinInt}} {
		w.push(t, x[0], x[1])
		for range 2 {
			if got := itemOf(w.q.Peek()); got != w.first() {
				t.Errorf("%v: Peek is %v", w.ids, got)
			}
		}
	}
	for range 10 {
		w.pop(t)
		w.compare(t)
	}
}

// P4.5

// TestEachSubset asks everything of each queue that has some of seven ids, each with one of two priorities.
func TestEachSubset(t *testing.T) {
	const n = 7
	for code := range 2187 {
		w := newTwin[int](t, n)
		for id := range n {
			if code%3 > 0 {
				w.push(t, id, code%3)
			}
			code /= 3
		}
		w.compare(t)
	}
}

func TestLoopsStopEarly(t *testing.T) {
	q := built(6, 1, 5, 2, 4, 3, 3, 4, 2, 5, 1, 6)
	all := q.All()
	for n := 1; n <= 6; n++ {
		var got []int
		// The iterator is called as a function, since a loop would panic, and not count, if it went on.
		all(func(id, p int) bool {
			got = append(got, id)
			return len(got) < n
		})
		if !slices.Equal(got, []int{6, 5, 4, 3, 2, 1}[:n]) {
			t.Errorf("stopped after %d ids: %v", n, got)
		}
		if s := text(q); s != "6=1 5=2 4=3 3=4 2=5 1=6" {
			t.Errorf("a loop that stopped after %d ids has changed the queue: %s", n, s)
		}
	}
}

func TestLoopsBeginAnew(t *testing.T) {
	q := built(1, 10, 2, 5, 3, 20)
	all := q.All()
	for range 3 {
		for id := range all {
			if id == 1 {
				break
			}
		}
		if l := collect(all); !slices.Equal(l, []item[int]{{2, 5, true}, {1, 10, true}, {3, 20, true}}) {
			t.Error(l)
		}
	}
}

// TestLoopsInLoops: loops over one iterator, one in the other, do not know of each other.
func TestLoopsInLoops(t *testing.T) {
	q := built(1, 3, 2, 2, 3, 1)
	all, again := q.All(), q.All()
	var l []int
	for a := range all {
		for b := range again {
			if b == 1 {
				break
			}
			for c := range all {
				if c == 2 {
					break
				}
				l = append(l, 100*a+10*b+c)
			}
		}
	}
	if !slices.Equal(l, []int{333, 323, 233, 223, 133, 123}) {
		t.Error(l)
	}
}

// TestQuestionsInLoops: what is asked in a loop changes neither the loop nor the answers.
func TestQuestionsInLoops(t *testing.T) {
	q := built(1, 3, 2, 2, 3, 1)
	n := 0
	for id, p := range q.All() {
		if got, has := q.Priority(id); got != p || !has || q.Len() != 3 {
			t.Error(id, got, has, q.Len())
		}
		if got := itemOf(q.Peek()); got != (item[int]{3, 1, true}) {
			t.Error(id, got)
		}
		n += id
	}
	if n != 6 {
		t.Error(n)
	}
}

// R7

func TestLoopsYieldWhatTheQueueHasWhenTheyBegin(t *testing.T) {
	w := newTwin[int](t, 8)
	all := w.q.All()
	check := func() {
		t.Helper()
		if got := collect(all); !slices.Equal(got, w.inOrder()) {
			t.Errorf("%v: All yields %v", w.ids, got)
		}
	}
	check()
	for _, id := range []int{5, 3, 4, 1, 7} {
		w.push(t, id, id%4)
		check()
	}
	for _, id := range []int{5, 7, 3} {
		w.change(t, id, -id)
		check()
		w.remove(t, id)
		check()
	}
	w.pop(t)
	check()
}

// TestLoopsWorkOnACopy is the chapter's section Ways: a loop does not see what is changed while it runs.
func TestLoopsWorkOnACopy(t *testing.T) {
	q := built(1, 10, 2, 20, 3, 30)
	var l []int
	for id := range q.All() {
		l = append(l, id)
		q.Remove(4 - id)
		q.Push(id+3, 0)
		q.Change(2, 40)
	}
	if !slices.Equal(l, []int{1, 2, 3}) {
		t.Error(l)
	}
	if s := text(q); s != "4=0 5=0 6=0" {
		t.Error(s)
	}
}

// P4.6

// TestPopReturnsWhatAllYields compares a queue with itself: it needs no other one.
func TestPopReturnsWhatAllYields(t *testing.T) {
	r := rand.New(rand.NewPCG(4, 6))
	for range 200 {
		q, _ := pqueue.New[int](100)
		for range 150 {
			q.Push(r.IntN(100), r.IntN(12))
			q.Change(r.IntN(100), r.IntN(12))
			q.Remove(r.IntN(300))
		}
		all, n := collect(q.All()), q.Len()
		if l := popped(q); !slices.Equal(l, all) || len(l) != n || q.Len() != 0 {
			t.Errorf("All yields %v, Pop returns %v", all, l)
		}
		for i := 1; i < n; i++ {
			a, b := all[i-1], all[i]
			if a.P > b.P || a.P == b.P && a.ID >= b.ID {
				t.Errorf("%v comes before %v", a, b)
			}
		}
	}
}

// TestFullQueues have all their ids, in several orders.
func TestFullQueues(t *testing.T) {
	orders := map[string]func(id int) int{
		"increasing": func(id int) int { return id },
		"decreasing": func(id int) int { return -id },
		"equal":      func(id int) int { return 7 },
		"mixed":      func(id int) int { return id * 389 % 1021 },
		"few":        func(id int) int { return id * 389 % 5 },
	}
	for _, size := range []int{1, 2, 3, 1023, 1024} {
		for name, priority := range orders {
			w := newTwin[int](t, size)
			for i := range size {
				id := i * 5 % size
				w.push(t, id, priority(id))
			}
			if w.q.Len() != size {
				t.Fatalf("%s: %d ids of %d", name, w.q.Len(), size)
			}
			w.compare(t)
			w.push(t, 0, -1)
			w.push(t, size-1, -1)
			w.push(t, size, -1)
			want := w.inOrder()
			if got := popped(w.q); !slices.Equal(got, want) {
				t.Errorf("%s: Pop of %d ids returns %v", name, size, got)
			}
			// All ids can be pushed again.
			for id := range size {
				if e := w.q.Push(id, 0); e != api.OK {
					t.Fatal(name, id, e)
				}
			}
		}
	}
}

// P4.7

// answers are the results of all calls, one after the other: two queues that behave alike return equal ones.
func answers(q *pqueue.Queue[int]) string {
	var b strings.Builder
	note := func(l ...int) {
		for _, n := range l {
			b.WriteString(strconv.Itoa(n) + " ")
		}
	}
	noteItem := func(id, p int, has bool) { note(id, p); b.WriteString(strconv.FormatBool(has) + " ") }
	noteItem(q.Peek())
	for id := range 9 {
		p, has := q.Priority(id)
		noteItem(id, p, has)
		note(int(q.Push(id, 3)), int(q.Change(8-id, id)), q.Len())
		p, has = q.Remove(id * 3 % 8)
		noteItem(id, p, has)
		b.WriteString(text(q) + " ")
		noteItem(q.Pop())
	}
	for _, x := range popped(q.Copy()) {
		note(x.ID, x.P)
	}
	return b.String()
}

func TestOrderOfCallsDoesNotMatter(t *testing.T) {
	priorities := []int{5, 3, 5, 3, 9, 1}
	want := ""
	for code := range 720 {
		order := orderOf(len(priorities), code)
		q, detour := built(), built(6, 0, 7, 9)
		for _, id := range order {
			q.Push(id, priorities[id])
			detour.Push(id, 4)
		}
		for i, id := range order {
			detour.Change(id, i)
			detour.Remove(order[0])
			detour.Push(order[0], 8)
		}
		detour.Remove(7)
		detour.Pop()
		for id := range 8 {
			detour.Push(id, 0)
		}
		detour.Remove(6)
		detour.Remove(7)
		for _, id := range order {
			detour.Push(id, 0)
			detour.Change(id, priorities[id])
		}
		if code == 0 {
			want = answers(q.Copy())
		}
		for name, q := range map[string]*pqueue.Queue[int]{"pushed": q, "detour": detour, "copied": q.Copy()} {
			if got := answers(q); got != want {
				t.Fatalf("%s in the order %v: %s, not %s", name, order, got, want)
			}
		}
	}
}

// TestEqualCallsReturnEqualResults is R8.
func TestEqualCallsReturnEqualResults(t *testing.T) {
	q := built(3, 1, 1, 2, 7, 1, 0, 5)
	c := q.Copy()
	d := c.Copy()
	if a, b := answers(q), answers(c); a != b || a != answers(d) {
		t.Error(a, b)
	}
	if text(q) != text(c) || text(q) != text(d) {
		t.Error(text(q), text(c), text(d))
	}
}

// P4.8

// ask calls each function that may not change a queue of the size 8, and each other one so that it returns an error or finds nothing.
func ask(q *pqueue.Queue[int]) {
	q.Len()
	q.Peek()
	q.All()
	q.Copy()
	for range q.All() {
	}
	for _, id := range append(outside(8), 0, 1, 2, 3, 4, 5, 6, 7) {
		if _, has := q.Priority(id); has {
			q.Push(id, -9)
		} else {
			q.Change(id, -9)
			q.Remove(id)
		}
	}
	for _, id := range outside(8) {
		q.Push(id, -9)
	}
	if q.Len() == 0 {
		q.Pop()
	}
}

func TestQuestionsAndErrorsChangeNothing(t *testing.T) {
	for n := range 9 {
		w := newTwin[int](t, 8)
		for id := range n {
			w.push(t, id, id*3%4)
		}
		for range 3 {
			ask(w.q)
			w.compare(t)
		}
		c := w
		c.q = w.q.Copy()
		ask(c.q)
		c.compare(t)
		w.compare(t)
		// Changes after the questions do what they do without them.
		w.change(t, n/2, 2)
		w.pop(t)
		w.push(t, 7, 0)
		w.compare(t)
	}
}

// TestMixedCalls compares after each of many calls: no call changes an id that it neither names nor returns.
func TestMixedCalls(t *testing.T) {
	for seed := range uint64(100) {
		r := rand.New(rand.NewPCG(4, seed))
		size := 1 + r.IntN(24)
		w := newTwin[int](t, size)
		for range 300 {
			id, p := r.IntN(size+2)-1, r.IntN(6)
			switch r.IntN(7) {
			case 0, 1, 2:
				w.push(t, id, p)
			case 3, 4:
				w.change(t, id, p)
			case 5:
				w.remove(t, id)
			case 6:
				w.pop(t)
			}
			w.compare(t)
		}
	}
}

// R1, R2

// invalid checks that a queue answers as one that is not valid.
func invalid[P cmp.Ordered](t *testing.T, name string, q *pqueue.Queue[P], p P) {
	t.Helper()
	var none item[P]
	for _, id := range append(outside(8), 0, 1, 2, 3) {
		if e := q.Push(id, p); e != api.ErrNil {
			t.Errorf("%s: Push(%d) is %d", name, id, e)
		}
		if e := q.Change(id, p); e != api.ErrNil {
			t.Errorf("%s: Change(%d) is %d", name, id, e)
		}
		if got, had := q.Remove(id); !equal(got, none.P) || had {
			t.Errorf("%s: Remove(%d) is %v, %v", name, id, got, had)
		}
		if got, has := q.Priority(id); !equal(got, none.P) || has {
			t.Errorf("%s: Priority(%d) is %v, %v", name, id, got, has)
		}
	}
	if a, b := itemOf(q.Peek()), itemOf(q.Pop()); !same(a, none) || !same(b, none) {
		t.Errorf("%s: Peek is %v, Pop %v", name, a, b)
	}
	if q.Len() != 0 || q.Copy() != nil {
		t.Errorf("%s: Len is %d, Copy %v", name, q.Len(), q.Copy())
	}
	if q.All() == nil || len(collect(q.All())) > 0 {
		t.Errorf("%s: All is nil, or yields something", name)
	}
}

func TestQueuesThatAreNotValid(t *testing.T) {
	var zero pqueue.Queue[int]
	invalid(t, "nil", nil, 5)
	invalid(t, "zero", &zero, 5)
	invalid(t, "new", new(pqueue.Queue[int]), 0)
	invalid(t, "literal", &pqueue.Queue[int]{}, math.MinInt)
	invalid(t, "nil, strings", nil, "a")
	invalid(t, "zero, strings", &pqueue.Queue[string]{}, "")
	invalid(t, "zero, floats", &pqueue.Queue[float64]{}, math.NaN())
	refused, _ := pqueue.New[uint8](1025)
	invalid(t, "refused", refused, 1)
}

// TestAssignedQueuesAreNotValid: New and Copy return pointers; what they point to, assigned to a variable, is a queue that neither of them returned.
func TestAssignedQueuesAreNotValid(t *testing.T) {
	for _, q := range []*pqueue.Queue[int]{built(), built(1, 10, 2, 5), built(1, 10, 2, 5).Copy()} {
		unchanged := text(q)
		assigned := *q
		invalid(t, "assigned", &assigned, 3)
		if text(q) != unchanged {
			t.Errorf("%q became %q", unchanged, text(q))
		}
		if e := q.Push(3, 7); e != api.OK {
			t.Error("a queue that was assigned is not valid itself any more", e)
		}
		invalid(t, "assigned", &assigned, 3)
	}
}

func TestCopiesAreValid(t *testing.T) {
	for _, c := range []*pqueue.Queue[int]{built().Copy(), built(1, 10).Copy(), built(1, 10).Copy().Copy()} {
		n := c.Len()
		if e := c.Push(7, 1); e != api.OK || c.Len() != n+1 {
			t.Error(e, c.Len())
		}
	}
}

// Types of priorities

// sweep gives each two ids each two priorities of a list, in both orders, and all of them to one queue.
func sweep[P cmp.Ordered](t *testing.T, l ...P) {
	t.Helper()
	for _, a := range l {
		for _, b := range l {
			for _, id := range []int{0, 2} {
				w := newTwin[P](t, 3)
				w.push(t, 1, a)
				w.push(t, id, b)
				w.compare(t)
				w.change(t, 1, b)
				w.change(t, id, a)
				w.compare(t)
				w.pop(t)
				w.compare(t)
				w.pop(t)
				w.pop(t)
			}
		}
	}
	w := newTwin[P](t, 2*len(l))
	for i := range 2 * len(l) {
		w.push(t, i, l[i%len(l)])
		w.compare(t)
	}
	for i := range 2 * len(l) {
		w.change(t, i, l[i/2])
		w.compare(t)
	}
	for i := range l {
		w.remove(t, 2*i)
		w.pop(t)
		w.compare(t)
	}
}

type level int8

type name string

func TestPrioritiesOfEachType(t *testing.T) {
	sweep(t, math.MinInt, -1, 0, 1, math.MaxInt)
	sweep(t, int8(-128), -1, 0, 1, 127)
	sweep(t, int64(math.MinInt64), -1<<32, -1, 0, 1, 1<<32, 1<<32+1, math.MaxInt64)
	sweep(t, uint8(255), 128, 127, 0, 1)
	sweep(t, uint64(0), 1, math.MaxInt64, 1<<63, math.MaxUint64)
	sweep(t, uintptr(0), 1, math.MaxUint32, math.MaxUint64)
	sweep(t, float32(-math.MaxFloat32), -1, 0, math.SmallestNonzeroFloat32, 1, math.MaxFloat32)
	sweep(t, 'a', 'ä', 0x1F600, -1, 0)
	sweep(t, level(-5), 0, 5)
	sweep(t, name("x"), "", "y")
}

func TestPrioritiesOfStrings(t *testing.T) {
	sweep(t, "b", "", "a", "ab", "aa", "\x00", "a\x00", "B", "é", "e", "\xff", "\xff\xff", "\x7f", "\x80", "10", "9", strings.Repeat("a", 1000), strings.Repeat("a", 999))
	q, _ := pqueue.New[string](8)
	for id, p := range []string{"b", "", "\xff", "é", "10", "9", "B", ""} {
		q.Push(id, p)
	}
	var ids []int
	for id := range q.All() {
		ids = append(ids, id)
	}
	if !slices.Equal(ids, []int{1, 7, 4, 5, 6, 0, 3, 2}) {
		t.Error(ids)
	}
}

// TestPrioritiesOfFloats: NaN comes before all other numbers, and is equal to itself.
func TestPrioritiesOfFloats(t *testing.T) {
	minus := math.Copysign(0, -1)
	sweep(t, math.Inf(-1), -math.MaxFloat64, -math.SmallestNonzeroFloat64, minus, 0, math.SmallestNonzeroFloat64, 0.1, 0.2, 0.1+0.2, math.MaxFloat64, math.Inf(1), math.NaN(), -math.NaN())
	q, _ := pqueue.New[float64](8)
	for id, p := range []float64{1, math.NaN(), math.Inf(-1), 0, minus, math.NaN(), math.Inf(1), -1} {
		q.Push(id, p)
	}
	var ids []int
	for id := range q.All() {
		ids = append(ids, id)
	}
	if !slices.Equal(ids, []int{1, 5, 2, 7, 3, 4, 0, 6}) {
		t.Error(ids)
	}
	if id, p, has := q.Pop(); id != 1 || p == p || !has {
		t.Error(id, p, has)
	}
	if p, had := q.Remove(5); p == p || !had {
		t.Error(p, had)
	}
}

// TestPrioritiesAreKeptAsTheyAre: a priority that compares as equal to the one before is another one all the same.
func TestPrioritiesAreKeptAsTheyAre(t *testing.T) {
	minus := math.Copysign(0, -1)
	for _, l := range [][2]float64{{0, minus}, {minus, 0}, {math.NaN(), math.Float64frombits(math.Float64bits(math.NaN()) ^ 2)}} {
		q, _ := pqueue.New[float64](2)
		q.Push(0, l[0])
		q.Push(1, l[1])
		q.Push(0, l[1])
		for id, want := range l {
			if p, _ := q.Priority(id); math.Float64bits(p) != math.Float64bits(want) {
				t.Errorf("%x became %x", math.Float64bits(want), math.Float64bits(p))
			}
		}
		q.Change(0, l[1])
		q.Change(1, l[0])
		for id, p := range q.All() {
			if math.Float64bits(p) != math.Float64bits(l[1-id]) {
				t.Errorf("%x was changed to %x", math.Float64bits(l[1-id]), math.Float64bits(p))
			}
		}
		if id, p, _ := q.Peek(); id != 0 || math.Float64bits(p) != math.Float64bits(l[1]) {
			t.Error(id, p)
		}
	}
}
