package list_test

import (
	"math"
	"runtime"
	"slices"
	"strconv"
	"testing"
	"time"
	"weak"

	"hoard/list"
)

// model is a row written down plainly: who stands where, and which handles wait to be given anew.
type model[T comparable] struct {
	handles []int
	values  map[int]T
	removed []int
	given   int
}

func newModel[T comparable]() *model[T] { return &model[T]{values: map[int]T{}} }

func (m *model[T]) push(at int, v T) int {
	h := m.given + 1
	if n := len(m.removed); n > 0 {
		h, m.removed = m.removed[n-1], m.removed[:n-1]
	} else {
		m.given = h
	}
	m.handles = slices.Insert(m.handles, at, h)
	m.values[h] = v
	return h
}

func (m *model[T]) remove(h int) (T, bool) {
	v, ok := m.values[h]
	if ok {
		delete(m.values, h)
		m.take(h)
		m.removed = append(m.removed, h)
	}
	return v, ok
}

func (m *model[T]) take(h int) {
	at := slices.Index(m.handles, h)
	m.handles = slices.Delete(m.handles, at, at+1)
}

func (m *model[T]) move(h int, front bool) bool {
	if _, ok := m.values[h]; !ok {
		return false
	}
	m.take(h)
	if front {
		m.handles = slices.Insert(m.handles, 0, h)
	} else {
		m.handles = append(m.handles, h)
	}
	return true
}

// beside is the handle so far behind h; 0, if none is there.
func (m *model[T]) beside(h, by int) int {
	at := slices.Index(m.handles, h)
	if at < 0 || at+by < 0 || at+by >= len(m.handles) {
		return 0
	}
	return m.handles[at+by]
}

func (m *model[T]) all() []T {
	l := []T{}
	for _, h := range m.handles {
		l = append(l, m.values[h])
	}
	return l
}

func (m *model[T]) end(at int) int {
	if len(m.handles) == 0 {
		return 0
	}
	return m.handles[at*(len(m.handles)-1)]
}

// wrong is handles that are never given.
func wrong() []int {
	return []int{0, -1, -2, -3, math.MinInt, math.MinInt + 1, -(1 << 32), 1 << 32, 1<<32 + 1, math.MaxInt - 1, math.MaxInt}
}

// looked is each handle that was given, some above them, and those that never are.
func looked(given int) []int {
	l := wrong()
	for h := range given + 3 {
		l = append(l, h+1)
	}
	return l
}

// same holds all that a list tells of itself against its model.
func same[T comparable](t *testing.T, l *list.List[T], m *model[T]) {
	t.Helper()
	if got, want := l.All(), m.all(); !slices.Equal(got, want) || l.Len() != len(want) {
		t.Fatalf("All: %v, not %v; Len: %d", got, want, l.Len())
	}
	if l.Front() != m.end(0) || l.Back() != m.end(1) {
		t.Fatalf("ends: %d and %d, not %d and %d", l.Front(), l.Back(), m.end(0), m.end(1))
	}
	for _, h := range looked(m.given) {
		got, ok := l.Get(h)
		want, there := m.values[h]
		if got != want || ok != there {
			t.Fatalf("Get(%d): %v %t, not %v %t", h, got, ok, want, there)
		}
		if l.Next(h) != m.beside(h, 1) || l.Prev(h) != m.beside(h, -1) {
			t.Fatalf("beside %d: %d and %d, not %d and %d", h, l.Prev(h), l.Next(h), m.beside(h, -1), m.beside(h, 1))
		}
	}
}

// pair is a list and its model, which are told of the same.
type pair[T comparable] struct {
	t *testing.T
	l *list.List[T]
	m *model[T]
}

func newPair[T comparable](t *testing.T) pair[T] {
	return pair[T]{t, list.New[T](), newModel[T]()}
}

func (p pair[T]) front(v T) int {
	p.t.Helper()
	return p.handle(p.l.PushFront(v), p.m.push(0, v))
}

func (p pair[T]) back(v T) int {
	p.t.Helper()
	return p.handle(p.l.PushBack(v), p.m.push(len(p.m.handles), v))
}

func (p pair[T]) handle(got, want int) int {
	p.t.Helper()
	if got != want {
		p.t.Fatalf("handle: %d, not %d", got, want)
	}
	return got
}

func (p pair[T]) remove(h int) {
	p.t.Helper()
	got, ok := p.l.Remove(h)
	if want, there := p.m.remove(h); got != want || ok != there {
		p.t.Fatalf("Remove(%d): %v %t, not %v %t", h, got, ok, want, there)
	}
}

func (p pair[T]) set(h int, v T) {
	p.t.Helper()
	_, there := p.m.values[h]
	if there {
		p.m.values[h] = v
	}
	if p.l.Set(h, v) != there {
		p.t.Fatalf("Set(%d): %t", h, !there)
	}
}

func (p pair[T]) move(h int, front bool) {
	p.t.Helper()
	call := p.l.ToBack
	if front {
		call = p.l.ToFront
	}
	if want := p.m.move(h, front); call(h) != want {
		p.t.Fatalf("move of %d to the front (%t): %t", h, front, !want)
	}
}

func (p pair[T]) same() {
	p.t.Helper()
	same(p.t, p.l, p.m)
}

// filled is a pair with the values 1 to n, from the front on, under the handles 1 to n.
func filled(t *testing.T, n int) pair[int] {
	p := newPair[int](t)
	for i := range n {
		p.back(i + 1)
	}
	return p
}

func row[T comparable](t *testing.T, l *list.List[T], want ...T) {
	t.Helper()
	if got := l.All(); !slices.Equal(got, want) || l.Len() != len(want) {
		t.Fatalf("%v of %d, not %v", got, l.Len(), want)
	}
}

func handles(t *testing.T, got []int, want ...int) {
	t.Helper()
	if !slices.Equal(got, want) {
		t.Fatalf("handles: %v, not %v", got, want)
	}
}

// P4.1: the document's example.
func TestExample(t *testing.T) {
	l := list.New[string]()
	handles(t, []int{l.PushBack("a"), l.PushBack("b")}, 1, 2)
	if v, ok := l.Remove(1); v != "a" || !ok {
		t.Errorf("Remove: %q %t", v, ok)
	}
	handles(t, []int{l.PushFront("c")}, 1)
	row(t, l, "c", "b")
}

// P4.1, P4.2: a list that has nothing yet, and one that has nothing any more.
func TestEmpty(t *testing.T) {
	if list.New[int]() == nil || list.New[string]() == nil {
		t.Fatal("no list")
	}
	for _, n := range []int{0, 1, 2, 7} {
		p := filled(t, n)
		for h := range n {
			p.remove(h + 1)
		}
		p.same()
		row(t, p.l)
		if p.l.Front() != 0 || p.l.Back() != 0 {
			t.Errorf("ends of nothing: %d and %d", p.l.Front(), p.l.Back())
		}
	}
	var zero list.List[string]
	row(t, &zero)
	handles(t, []int{zero.Front(), zero.Back(), zero.PushBack("b"), zero.PushFront("a")}, 0, 0, 1, 2)
	row(t, &zero, "a", "b")
}

// P4.1, P4.2: one value alone is the front and the back, wherever it is moved.
func TestOneAlone(t *testing.T) {
	for _, begin := range []func(pair[string]) int{
		func(p pair[string]) int { return p.front("x") },
		func(p pair[string]) int { return p.back("x") },
	} {
		p := newPair[string](t)
		handles(t, []int{begin(p)}, 1)
		for range 3 {
			p.move(1, true)
			p.same()
			p.move(1, false)
			p.same()
		}
		handles(t, []int{p.l.Front(), p.l.Back(), p.l.Next(1), p.l.Prev(1), p.l.Len()}, 1, 1, 0, 0, 1)
		p.set(1, "y")
		row(t, p.l, "y")
		p.remove(1)
		p.same()
		handles(t, []int{begin(p)}, 1)
		p.same()
	}
}

// P4.1: each place of a row Removed: the front, the back and those in the midst, with All and Len behind it.
func TestRemoveAtEachPlace(t *testing.T) {
	for n := 1; n <= 6; n++ {
		for h := 1; h <= n; h++ {
			p := filled(t, n)
			p.remove(h)
			p.same()
			p.remove(h)
			p.same()
			handles(t, []int{p.front(100), p.back(200)}, h, n+1)
			p.same()
		}
	}
}

// P4.1: who was Removed last is given first, then those before it, and then one more than all that were given.
func TestHandlesGivenAnew(t *testing.T) {
	p := filled(t, 5)
	for _, h := range []int{2, 5, 1} {
		p.remove(h)
		p.same()
	}
	handles(t, []int{p.front(10), p.back(20), p.front(30), p.back(40), p.front(50)}, 1, 5, 2, 6, 7)
	row(t, p.l, 50, 30, 10, 3, 4, 20, 40)
	p.same()
}

// P4.1: a handle that was given anew doesn't come again before it is Removed again, and those below it wait on.
func TestHandlesGivenBetween(t *testing.T) {
	p := filled(t, 4)
	p.remove(3)
	p.remove(1)
	handles(t, []int{p.back(10)}, 1)
	p.remove(4)
	handles(t, []int{p.front(20), p.front(30), p.front(40)}, 4, 3, 5)
	p.remove(1)
	handles(t, []int{p.back(50), p.back(60)}, 1, 6)
	row(t, p.l, 40, 30, 20, 2, 50, 60)
	p.same()
}

// P4.1: a Remove that was refused gives no handle, and a handle that was Removed twice is given once.
func TestRemovedTwice(t *testing.T) {
	p := filled(t, 3)
	for _, h := range append(wrong(), 2, 2, 4, 2) {
		p.remove(h)
	}
	handles(t, []int{p.back(10), p.back(20), p.back(30)}, 2, 4, 5)
	row(t, p.l, 1, 3, 10, 20, 30)
	p.same()
}

// P4.1: moves and other values leave the handles' order of return as it was.
func TestMovesGiveNoHandle(t *testing.T) {
	p := filled(t, 5)
	p.remove(4)
	p.remove(2)
	for _, h := range []int{1, 2, 3, 4, 5, 6} {
		p.move(h, true)
		p.move(h, false)
		p.set(h, 10*h)
	}
	p.same()
	handles(t, []int{p.front(7), p.front(8), p.front(9)}, 2, 4, 6)
	p.same()
}

// P4.1: Set changes one value alone, at each place, to whatever value, and moves nobody.
func TestSetAtEachPlace(t *testing.T) {
	for h := 1; h <= 5; h++ {
		p := filled(t, 5)
		for _, v := range []int{100, 0, math.MinInt, math.MaxInt, h, h} {
			p.set(h, v)
			p.same()
		}
	}
}

// P4.2: each moved from each place to both ends, twice: who stands there already stays.
func TestMoveFromEachPlace(t *testing.T) {
	for n := 1; n <= 6; n++ {
		for h := 1; h <= n; h++ {
			for _, front := range []bool{true, false} {
				p := filled(t, n)
				p.move(h, front)
				p.same()
				p.move(h, front)
				p.same()
				p.move(h, !front)
				p.same()
			}
		}
	}
}

// P4.2: who stands at the front stays by ToFront, who stands at the back by ToBack.
func TestMoveToWhereItStands(t *testing.T) {
	p := filled(t, 4)
	if !p.l.ToFront(1) || !p.l.ToBack(4) || !p.l.ToFront(p.l.Front()) || !p.l.ToBack(p.l.Back()) {
		t.Error("false")
	}
	row(t, p.l, 1, 2, 3, 4)
	p.same()
}

// P4.2: Next goes from the front through all to 0, Prev from the back.
func TestWalk(t *testing.T) {
	l := list.New[string]()
	for _, v := range []string{"c", "d"} {
		l.PushBack(v)
	}
	for _, v := range []string{"b", "a"} {
		l.PushFront(v)
	}
	var there, back []int
	for h := l.Front(); h != 0 && len(there) < 9; h = l.Next(h) {
		there = append(there, h)
	}
	for h := l.Back(); h != 0 && len(back) < 9; h = l.Prev(h) {
		back = append(back, h)
	}
	handles(t, there, 4, 3, 1, 2)
	handles(t, back, 2, 1, 3, 4)
	handles(t, []int{l.Prev(l.Front()), l.Next(l.Back())}, 0, 0)
	row(t, l, "a", "b", "c", "d")
}

// refused calls all that take a handle with one that isn't there.
func refused[T comparable](t *testing.T, l *list.List[T], h int, other T) {
	t.Helper()
	var none T
	if v, ok := l.Get(h); v != none || ok {
		t.Fatalf("Get(%d): %v %t", h, v, ok)
	}
	if v, ok := l.Remove(h); v != none || ok {
		t.Fatalf("Remove(%d): %v %t", h, v, ok)
	}
	if l.Set(h, other) || l.ToFront(h) || l.ToBack(h) {
		t.Fatalf("Set, ToFront or ToBack of %d: true", h)
	}
	if l.Next(h) != 0 || l.Prev(h) != 0 {
		t.Fatalf("beside %d: %d and %d", h, l.Prev(h), l.Next(h))
	}
}

// P4.1, P4.2, W3: handles that aren't there - below 1, above all that were given, Removed - and nothing has changed.
func TestWrongHandles(t *testing.T) {
	for n := range 6 {
		for _, h := range append(wrong(), n+1, n+2, 1000) {
			p := filled(t, n)
			refused(t, p.l, h, 99)
			p.same()
			handles(t, []int{p.back(5)}, n+1)
			p.same()
		}
		for h := 1; h <= n; h++ {
			p := filled(t, n)
			p.remove(h)
			refused(t, p.l, h, 99)
			p.same()
			p.front(6)
			p.back(7)
			p.same()
		}
	}
}

// P4.1, P4.2: the same with texts, and with several that were Removed.
func TestWrongHandlesOfTexts(t *testing.T) {
	p := newPair[string](t)
	for i := range 8 {
		p.back(strconv.Itoa(i))
	}
	gone := []int{3, 8, 1, 4}
	for _, h := range gone {
		p.remove(h)
	}
	for _, h := range append(wrong(), append(gone, 9, 10)...) {
		refused(t, p.l, h, "other")
		p.same()
	}
	handles(t, []int{p.back(""), p.back("x"), p.back("x"), p.back("\x00\xff"), p.front("z")}, 4, 1, 8, 3, 9)
	p.same()
}

// P4.1, P4.2: zero values and values that are alike are values as all others.
func TestZeroValues(t *testing.T) {
	p := newPair[string](t)
	p.back("")
	p.back("")
	p.front("")
	p.same()
	p.remove(1)
	p.same()
	if v, ok := p.l.Get(2); v != "" || !ok {
		t.Errorf("Get: %q %t", v, ok)
	}
	if v, ok := p.l.Remove(2); v != "" || !ok {
		t.Errorf("Remove: %q %t", v, ok)
	}
	n := newPair[int](t)
	for _, v := range []int{0, 0, 7, 7, 0} {
		n.front(v)
	}
	n.remove(3)
	n.set(2, 0)
	n.set(4, 0)
	n.same()
}

// doing is one call that changes a list: which one, and of which handle.
func (p pair[T]) doing(which, h int, v T) {
	p.t.Helper()
	switch which {
	case 0:
		p.front(v)
	case 1:
		p.back(v)
	case 2:
		p.remove(h)
	case 3:
		p.move(h, true)
	case 4:
		p.move(h, false)
	default:
		p.set(h, v)
	}
}

// P4.1, P4.2: all rows of five calls on handles to 3, each with all that the list tells behind its last call.
func TestAllShortRows(t *testing.T) {
	type step struct{ which, h int }
	steps := []step{{0, 0}, {1, 0}}
	for h := 1; h <= 3; h++ {
		steps = append(steps, step{2, h}, step{3, h}, step{4, h})
	}
	var grow func(row []step)
	grow = func(row []step) {
		p := newPair[int](t)
		for i, s := range row {
			p.doing(s.which, s.h, 10+i)
		}
		p.same()
		if len(row) == 5 {
			return
		}
		for _, s := range steps {
			grow(append(row[:len(row):len(row)], s))
		}
	}
	grow(nil)
}

// P4.1, P4.2: long rows of mixed calls, with numbers and with texts, held against the model at each step.
func TestLongRows(t *testing.T) {
	for seed := range uint64(40) {
		mixed(t, seed, func(n int) int { return n })
		mixed(t, seed+1000, strconv.Itoa)
	}
}

func mixed[T comparable](t *testing.T, seed uint64, value func(int) T) {
	p := newPair[T](t)
	x := seed*0x9e3779b97f4a7c15 + 1
	next := func(n int) int {
		x = x*6364136223846793005 + 1442695040888963407
		return int((x >> 33) % uint64(n))
	}
	for i := range 300 {
		// A row grows for some time, and then it shrinks.
		which := next(6)
		if (i/50)%2 == 1 && which < 2 {
			which = 2
		}
		p.doing(which, next(p.m.given+3)-1, value(i))
		p.same()
	}
}

// P4.3, W6: an answer of All that is written over, or grown, changes neither the list nor another answer.
func TestAllWrittenOver(t *testing.T) {
	p := filled(t, 4)
	a, b := p.l.All(), p.l.All()
	clear(a)
	a = append(a, 100)
	_ = append(b[:2], 200)
	row(t, p.l, 1, 2, 3, 4)
	p.same()
	c := p.l.All()
	whole := c[:cap(c)]
	for i := range whole {
		whole[i] = -1
	}
	p.same()
	p.back(5)
	p.same()
	if !slices.Equal(a, []int{0, 0, 0, 0, 100}) || !slices.Equal(b, []int{1, 2, 200, 4}) {
		t.Errorf("the answers are %v and %v", a, b)
	}
}

// P4.3, W7: an answer of All stays what it is, whatever is called later.
func TestAllStays(t *testing.T) {
	p := newPair[string](t)
	for _, v := range []string{"a", "b", "c", "d"} {
		p.back(v)
	}
	was := p.l.All()
	for i, call := range []func(){
		func() { p.set(1, "A") },
		func() { p.move(3, true) },
		func() { p.move(1, false) },
		func() { p.remove(2) },
		func() { p.front("e") },
		func() { p.back("f") },
		func() { p.set(2, "E") },
		func() { p.remove(5) },
	} {
		before := p.l.All()
		held := slices.Clone(before)
		call()
		p.same()
		if !slices.Equal(before, held) || !slices.Equal(was, []string{"a", "b", "c", "d"}) {
			t.Errorf("behind call %d: %v and %v", i, before, was)
		}
	}
}

// P4.3: a value that was answered stays what it is when its handle has another one.
func TestValuesStay(t *testing.T) {
	type three [3]int
	l := list.New[three]()
	h := l.PushBack(three{1, 2, 3})
	got, _ := l.Get(h)
	l.Set(h, three{4, 5, 6})
	now, _ := l.Remove(h)
	l.PushBack(three{7, 8, 9})
	if got != (three{1, 2, 3}) || now != (three{4, 5, 6}) {
		t.Errorf("%v and %v", got, now)
	}
	got[0], now[0] = 10, 10
	if v, _ := l.Get(h); v != (three{7, 8, 9}) {
		t.Errorf("%v", v)
	}
}

// P4.1, P4.3: lists of what can't be held against each other, of pointers, of lists, and of nothing at all.
func TestOtherValues(t *testing.T) {
	f := list.New[func() int]()
	f.PushBack(func() int { return 7 })
	if v, ok := f.Get(1); !ok || v() != 7 {
		t.Error("a function")
	}
	if v, ok := f.Get(2); ok || v != nil {
		t.Error("no function")
	}
	s := list.New[[]int]()
	s.PushFront(nil)
	s.PushFront([]int{1, 2})
	if v, ok := s.Remove(2); !ok || !slices.Equal(v, []int{1, 2}) {
		t.Error("a list", v, ok)
	}
	if v, ok := s.Remove(1); !ok || v != nil {
		t.Error("a nil list", v, ok)
	}
	e := newPair[struct{}](t)
	for range 5 {
		e.back(struct{}{})
	}
	e.remove(2)
	e.move(4, true)
	e.same()
	a := newPair[any](t)
	for _, v := range []any{nil, 1, "1", nil} {
		a.back(v)
	}
	a.remove(1)
	a.same()
}

// P4.1: a value that was Removed or Set over is held no more: the memory behind it is free while the list lives on.
func TestRemovedIsNotHeld(t *testing.T) {
	l := list.New[*[64]int]()
	removed, over := new([64]int), new([64]int)
	weakly := []weak.Pointer[[64]int]{weak.Make(removed), weak.Make(over)}
	l.PushBack(removed)
	l.PushBack(over)
	l.Remove(1)
	l.Set(2, nil)
	removed, over = nil, nil
	runtime.GC()
	for i, w := range weakly {
		if w.Value() != nil {
			t.Errorf("value %d is still held", i)
		}
	}
	handles(t, []int{l.Len(), l.PushBack(nil)}, 1, 1)
}

// P4.1, P4.2: two lists do not meet.
func TestTwoLists(t *testing.T) {
	p, q := filled(t, 3), filled(t, 3)
	p.remove(2)
	q.same()
	handles(t, []int{q.back(4), p.back(40)}, 4, 2)
	q.move(1, false)
	p.set(3, 30)
	p.same()
	q.same()
}

// P4.1: handles count on to many, and come back to their last when all are Removed.
func TestManyHandles(t *testing.T) {
	const many = 1 << 16
	l := list.New[int]()
	for i := range many {
		if h := l.PushBack(i); h != i+1 {
			t.Fatalf("handle %d is %d", i+1, h)
		}
	}
	for i := range many {
		if v, ok := l.Remove(i + 1); v != i || !ok {
			t.Fatalf("Remove(%d): %d %t", i+1, v, ok)
		}
	}
	for i := range many {
		if h := l.PushFront(i); h != many-i {
			t.Fatalf("handle %d is %d", many-i, h)
		}
	}
	if h := l.PushFront(0); h != many+1 || l.Len() != many+1 {
		t.Fatalf("handle %d of %d", h, l.Len())
	}
}

// P4.3: each call takes few steps in a long row; one that went through the row would need many minutes here.
func TestFewSteps(t *testing.T) {
	const many, limit = 1 << 19, 30 * time.Second
	l := list.New[int]()
	for i := range many {
		l.PushBack(i)
	}
	// A walk over the midst, so that no end is near.
	spread := func(i int) int { return i*0x9e3779b1%many + 1 }
	for _, one := range []struct {
		name string
		call func(i int)
	}{
		{"Get", func(i int) { l.Get(spread(i)) }},
		{"Set", func(i int) { l.Set(spread(i), i) }},
		{"ToFront", func(i int) { l.ToFront(spread(i)) }},
		{"ToBack", func(i int) { l.ToBack(spread(i)) }},
		{"Front, Back, Len", func(i int) { _ = l.Front() + l.Back() + l.Len() }},
		{"Next, Prev", func(i int) { _ = l.Next(spread(i)) + l.Prev(spread(i)) }},
		{"Remove, PushFront", func(i int) { l.Remove(spread(i)); l.PushFront(i) }},
		{"Remove, PushBack", func(i int) { l.Remove(spread(i)); l.PushBack(i) }},
		{"what isn't there", func(i int) { l.Get(many + 1 + i); l.Remove(-i) }},
	} {
		begin := time.Now()
		for i := range many {
			one.call(i)
			if i%1024 == 0 && time.Since(begin) > limit {
				t.Fatalf("%s: only %d calls in %v", one.name, i, limit)
			}
		}
	}
	if l.Len() != many || len(l.All()) != many {
		t.Errorf("%d values, %d told", l.Len(), len(l.All()))
	}
}

// P4.3: a nil List has nothing in each call, and nothing happens to it, of whatever its values are.
func TestNilList(t *testing.T) {
	nilList(t, 1, 2)
	nilList(t, "a", "b")
}

func nilList[T comparable](t *testing.T, v, other T) {
	t.Helper()
	var l *list.List[T]
	for range 3 {
		handles(t, []int{l.PushFront(v), l.PushBack(v), l.Front(), l.Back(), l.Len()}, 0, 0, 0, 0, 0)
		for _, h := range append(wrong(), 1, 2, 3) {
			refused(t, l, h, other)
		}
		row(t, l)
	}
}
