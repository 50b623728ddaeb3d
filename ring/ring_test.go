package ring_test

import (
	"math"
	"runtime"
	"slices"
	"strconv"
	"testing"
	"weak"

	"hoard/ring"
)

// pair is a ring and the plain row of what must be in it, which are told of the same.
type pair[T comparable] struct {
	t    *testing.T
	r    *ring.Ring[T]
	row  []T
	room int
}

func newPair[T comparable](t *testing.T, room int) *pair[T] {
	return &pair[T]{t: t, r: ring.New[T](room), room: room}
}

func (p *pair[T]) push(v T) {
	p.t.Helper()
	fits := len(p.row) < p.room
	if got := p.r.Push(v); got != fits {
		p.t.Fatalf("Push with %d of %d there: %t", len(p.row), p.room, got)
	}
	if fits {
		p.row = append(p.row, v)
	}
	p.same()
}

func (p *pair[T]) pop() {
	p.t.Helper()
	var want T
	there := len(p.row) > 0
	if there {
		want, p.row = p.row[0], slices.Clone(p.row[1:])
	}
	if got, ok := p.r.Pop(); got != want || ok != there {
		p.t.Fatalf("Pop: %v %t, not %v %t", got, ok, want, there)
	}
	p.same()
}

// same holds all that a ring tells of itself against the plain row, twice: to be asked changes nothing.
func (p *pair[T]) same() {
	p.t.Helper()
	for range 2 {
		holds(p.t, p.r, p.room, p.row...)
	}
}

// holds tells whether a ring has that room and just those values.
func holds[T comparable](t *testing.T, r *ring.Ring[T], room int, want ...T) {
	t.Helper()
	if r.Room() != room || r.Len() != len(want) {
		t.Fatalf("%d of %d, not %d of %d", r.Len(), r.Room(), len(want), room)
	}
	if got := r.All(); !slices.Equal(got, want) {
		t.Fatalf("All: %v, not %v", got, want)
	}
	for i, w := range want {
		if v, ok := r.At(i); v != w || !ok {
			t.Fatalf("At(%d): %v %t, not %v", i, v, ok, w)
		}
	}
	for _, i := range beyond(len(want), room) {
		var none T
		if v, ok := r.At(i); v != none || ok {
			t.Fatalf("At(%d) of %d: %v %t", i, len(want), v, ok)
		}
	}
}

// beyond is places at which nothing is, among them those that would meet a value if they went round.
func beyond(length, room int) []int {
	return []int{
		length, length + 1, max(length, room-1), room, room + 1, room + length, 2 * room, 4095 + length, 4096 + length,
		-1, -2, -length, -length - 1, -room - 1, -4097,
		math.MinInt, math.MinInt + 1, math.MaxInt - 1, math.MaxInt, 1 << 32, -(1 << 32), 1 << 62, -(1 << 62),
	}
}

// P5.1: the document's example.
func TestExample(t *testing.T) {
	r := ring.New[int](2)
	if !r.Push(1) || !r.Push(2) || r.Push(3) {
		t.Fatal("Push")
	}
	if v, ok := r.Pop(); v != 1 || !ok {
		t.Fatalf("Pop: %d %t", v, ok)
	}
	if !r.Push(4) {
		t.Fatal("Push behind Pop")
	}
	holds(t, r, 2, 2, 4)
}

// P5.1: the room is held within 0 and 4096; so many go in, and no one more.
func TestRoom(t *testing.T) {
	for _, x := range []struct{ asked, room int }{
		{math.MinInt, 0}, {math.MinInt + 1, 0}, {-4096, 0}, {-2, 0}, {-1, 0}, {0, 0},
		{1, 1}, {2, 2}, {3, 3}, {7, 7}, {8, 8}, {255, 255}, {256, 256}, {4095, 4095},
		{4096, 4096}, {4097, 4096}, {5000, 4096}, {8192, 4096}, {1 << 32, 4096}, {1<<32 + 1, 4096}, {math.MaxInt - 1, 4096}, {math.MaxInt, 4096},
	} {
		r := ring.New[int](x.asked)
		if r == nil {
			t.Fatalf("New(%d): none", x.asked)
		}
		holds(t, r, x.room)
		want := []int{}
		for i := range x.room {
			if !r.Push(i) {
				t.Fatalf("New(%d): no room for value %d", x.asked, i)
			}
			want = append(want, i)
			if r.Len() != i+1 || r.Room() != x.room {
				t.Fatalf("New(%d): %d of %d behind Push %d", x.asked, r.Len(), r.Room(), i)
			}
		}
		for range 3 {
			if r.Push(-7) {
				t.Fatalf("New(%d): more than %d went in", x.asked, x.room)
			}
			holds(t, r, x.room, want...)
		}
	}
}

// P5.1: a ring without room takes nothing and has nothing.
func TestNoRoom(t *testing.T) {
	for _, room := range []int{0, -1, math.MinInt} {
		p := &pair[string]{t: t, r: ring.New[string](room)}
		for range 3 {
			p.push("a")
			p.pop()
		}
	}
}

// P5.1: with room for one, each goes out before the next goes in.
func TestRoomForOne(t *testing.T) {
	p := newPair[string](t, 1)
	for _, v := range []string{"a", "b", "", "c"} {
		p.push(v)
		p.push("too many")
		p.pop()
		p.pop()
	}
}

// P5.1, W3: a Push into a full ring is false and changes nothing, wherever the first one lies.
func TestPushIntoFull(t *testing.T) {
	for room := 1; room <= 9; room++ {
		for turned := range 2*room + 1 {
			p := newPair[int](t, room)
			for i := range room {
				p.push(i + 1)
			}
			for i := range turned {
				p.pop()
				p.push(100 + i)
			}
			for range 3 {
				p.push(-1)
			}
			for range room {
				p.pop()
			}
			p.push(7)
		}
	}
}

// P5.1, W3: a Pop from an empty ring is false, with the zero value, and changes nothing: one that was never filled, and one that is empty again.
func TestPopFromEmpty(t *testing.T) {
	for room := range 6 {
		for filled := range 2*room + 1 {
			p := newPair[string](t, room)
			for i := range filled {
				p.push(strconv.Itoa(i))
				p.pop()
			}
			for range 3 {
				p.pop()
			}
			for i := range room + 1 {
				p.push("v" + strconv.Itoa(i))
			}
		}
	}
}

// P5.1, P5.2: filled and emptied by turns, by each number at once, so that it goes round many times.
func TestGoesRound(t *testing.T) {
	for room := 1; room <= 8; room++ {
		for in := 1; in <= room+1; in++ {
			for out := 1; out <= room+1; out++ {
				turns(t, room, in, out)
			}
		}
	}
}

func turns(t *testing.T, room, in, out int) {
	t.Helper()
	p := newPair[int](t, room)
	next := 1
	for range 4 * room {
		for range in {
			p.push(next)
			next++
		}
		for range out {
			p.pop()
		}
	}
}

// P5.1: At at each place of a ring that has gone round, with nothing at Len, below 0 and far off.
func TestAtBehindRound(t *testing.T) {
	r := ring.New[string](3)
	for _, v := range []string{"a", "b", "c"} {
		r.Push(v)
	}
	for _, v := range []string{"d", "e", "f", "g", "h"} {
		r.Pop()
		r.Push(v)
	}
	for _, x := range []struct {
		i  int
		v  string
		ok bool
	}{{0, "f", true}, {1, "g", true}, {2, "h", true}, {3, "", false}, {4, "", false}, {-1, "", false}, {-3, "", false}, {math.MinInt, "", false}, {math.MaxInt, "", false}} {
		if v, ok := r.At(x.i); v != x.v || ok != x.ok {
			t.Errorf("At(%d): %q %t", x.i, v, ok)
		}
	}
	r.Pop()
	if v, ok := r.At(2); v != "" || ok {
		t.Errorf("At(2) of 2: %q %t", v, ok)
	}
	holds(t, r, 3, "g", "h")
}

// P5.1: no place near or far meets a value, at each fill and wherever the first one lies; -2^63 and 2^63 - 1 are places as others.
func TestAtBeyond(t *testing.T) {
	for _, room := range []int{1, 2, 3, 5, 8} {
		for first := range room {
			p := newPair[int](t, room)
			for i := range first {
				p.push(-i)
				p.pop()
			}
			for i := range room {
				p.push(i + 1)
				for far := range 70 {
					at := math.MaxInt - far
					if v, ok := p.r.At(at); v != 0 || ok {
						t.Fatalf("At(%d): %d %t", at, v, ok)
					}
					if v, ok := p.r.At(-at - 1); v != 0 || ok {
						t.Fatalf("At(%d): %d %t", -at-1, v, ok)
					}
				}
			}
		}
	}
}

// P5.1, P5.2: all rows of up to twelve calls of Push and Pop, in rings of small rooms, with all that the ring tells at each step.
func TestAllShortRows(t *testing.T) {
	const long = 12
	for room := range 5 {
		for calls := range 1 << long {
			p := newPair[int](t, room)
			for i := range long {
				if calls>>i&1 == 1 {
					p.push(i + 1)
				} else {
					p.pop()
				}
			}
		}
	}
}

// P5.1, P5.2: long rows of mixed calls, of numbers and of texts, that fill for some time and then empty.
func TestLongRows(t *testing.T) {
	for _, room := range []int{1, 2, 3, 6, 7, 17, 30, 64} {
		for seed := range uint64(6) {
			mixed(t, room, seed, func(n int) int { return n })
			mixed(t, room, seed+100, strconv.Itoa)
		}
	}
}

func mixed[T comparable](t *testing.T, room int, seed uint64, value func(int) T) {
	t.Helper()
	p := newPair[T](t, room)
	x := seed*0x9e3779b97f4a7c15 + 1
	for i := range 12 * room {
		x = x*6364136223846793005 + 1442695040888963407
		lot := (x >> 33) % 8
		// In each stretch of calls the one sort comes more often than the other.
		if growing := i/(2*room)%2 == 0; growing == (lot < 6) {
			p.push(value(i))
		} else {
			p.pop()
		}
	}
}

// P5.1, P5.2: the greatest room, filled, gone round by a part and more than once, and emptied: all come out in the order in which they went in.
func TestGreatestRoom(t *testing.T) {
	const room = 4096
	r := ring.New[int](room)
	in, out := 0, 0
	fill := func() {
		for r.Push(in) {
			in++
		}
		if r.Len() != room || in-out != room {
			t.Fatalf("%d there, %d went in", r.Len(), in-out)
		}
	}
	for _, n := range []int{0, 1, 4095, 4096, 17, 2048, 4096} {
		fill()
		for range n {
			if v, ok := r.Pop(); v != out || !ok {
				t.Fatalf("Pop: %d %t, not %d", v, ok, out)
			}
			out++
		}
		all := r.All()
		if len(all) != in-out || r.Len() != in-out {
			t.Fatalf("%d told of %d", len(all), in-out)
		}
		for i, v := range all {
			if at, ok := r.At(i); v != out+i || at != v || !ok {
				t.Fatalf("place %d: %d and %d, not %d", i, v, at, out+i)
			}
		}
	}
	holds(t, r, room)
}

// P5.1, P5.2: a room that is filled bit by bit while the first one moves on.
func TestFilledWhileItMoves(t *testing.T) {
	for _, room := range []int{5, 16, 33, 100} {
		p := newPair[int](t, room)
		for i := range 4 * room {
			p.push(3 * i)
			p.push(3*i + 1)
			p.push(3*i + 2)
			p.pop()
		}
		for range room + 1 {
			p.pop()
		}
	}
}

// P5.1: zero values and values that are alike are values as all others.
func TestZeroValues(t *testing.T) {
	p := newPair[string](t, 3)
	for _, v := range []string{"", "", "x", "x", ""} {
		p.push(v)
	}
	if v, ok := p.r.At(0); v != "" || !ok {
		t.Errorf("At: %q %t", v, ok)
	}
	if v, ok := p.r.Pop(); v != "" || !ok {
		t.Errorf("Pop: %q %t", v, ok)
	}
	n := newPair[int](t, 4)
	for _, v := range []int{0, 7, 7, 0} {
		n.push(v)
	}
	for range 5 {
		n.pop()
	}
}

// P5.2, W6: an answer of All that is written over, or grown, changes neither the ring nor another answer.
func TestAllWrittenOver(t *testing.T) {
	p := newPair[int](t, 4)
	for i := range 6 {
		p.push(i)
		if i >= 2 {
			p.pop()
		}
		p.push(10 * i)
	}
	want := slices.Clone(p.row)
	a, b := p.r.All(), p.r.All()
	clear(a)
	a = append(a, 100)
	_ = append(b[:1], 200)
	p.same()
	c := p.r.All()
	whole := c[:cap(c)]
	for i := range whole {
		whole[i] = -1
	}
	p.same()
	p.pop()
	p.push(300)
	if !slices.Equal(b, []int{want[0], 200, want[2], want[3]}) || !slices.Equal(a, []int{0, 0, 0, 0, 100}) {
		t.Errorf("the answers are %v and %v", a, b)
	}
}

// P5.2, W6: the room behind an answer's end is the caller's too, of an empty ring as of others, wherever the first one would lie.
func TestAllGrown(t *testing.T) {
	for gone := range 9 {
		for there := range 4 {
			p := newPair[int](t, 3)
			// Filled once, and then moved on by one at a time.
			for i := range gone {
				p.push(i)
				if i >= 2 {
					p.pop()
				}
			}
			for len(p.row) > 0 {
				p.pop()
			}
			for i := range there {
				p.push(10 + i)
			}
			grown := p.r.All()
			grown = append(grown, 100)
			p.same()
			for i := range 4 {
				p.push(20 + i)
				p.pop()
			}
			if n := len(grown) - 1; n != there || grown[n] != 100 {
				t.Fatalf("the answer is %v", grown)
			}
		}
	}
}

// P5.2, W7: an answer of All stays what it is, whatever is called later.
func TestAllStays(t *testing.T) {
	p := newPair[string](t, 3)
	var answers, held [][]string
	for i := range 20 {
		answers = append(answers, p.r.All())
		held = append(held, slices.Clone(p.row))
		if i%5 < 3 {
			p.push(strconv.Itoa(i))
		} else {
			p.pop()
		}
		for k := range answers {
			if !slices.Equal(answers[k], held[k]) {
				t.Fatalf("behind call %d: answer %d is %v, not %v", i, k, answers[k], held[k])
			}
		}
	}
}

// P5.2: a value that was answered stays what it is when another one stands at its place.
func TestValuesStay(t *testing.T) {
	type three [3]int
	r := ring.New[three](1)
	r.Push(three{1, 2, 3})
	at, _ := r.At(0)
	popped, _ := r.Pop()
	r.Push(three{4, 5, 6})
	if want := (three{1, 2, 3}); at != want || popped != want {
		t.Errorf("%v and %v", at, popped)
	}
	at[0], popped[0] = 10, 10
	holds(t, r, 1, three{4, 5, 6})
}

// P5.1, P5.2: rings of what can't be held against each other, of lists, and of nothing at all.
func TestOtherValues(t *testing.T) {
	f := ring.New[func() int](1)
	f.Push(func() int { return 7 })
	if v, ok := f.Pop(); !ok || v() != 7 {
		t.Error("a function")
	}
	if v, ok := f.Pop(); ok || v != nil {
		t.Error("no function")
	}
	l := ring.New[[]int](2)
	l.Push(nil)
	l.Push([]int{1, 2})
	if v, ok := l.Pop(); !ok || v != nil {
		t.Error("a nil list", v, ok)
	}
	if v, ok := l.At(0); !ok || !slices.Equal(v, []int{1, 2}) {
		t.Error("a list", v, ok)
	}
	e := newPair[struct{}](t, 2)
	a := newPair[any](t, 2)
	for _, v := range []any{nil, 1, "1"} {
		e.push(struct{}{})
		a.push(v)
	}
	for range 3 {
		e.pop()
		a.pop()
	}
}

// P5.1: a value that went is held no more: the memory behind it is free while the ring lives on.
func TestPoppedIsNotHeld(t *testing.T) {
	r := ring.New[*[64]int](3)
	var weakly []weak.Pointer[[64]int]
	for range 5 {
		v := new([64]int)
		weakly = append(weakly, weak.Make(v))
		r.Push(v)
		r.Push(nil)
		r.Pop()
		r.Pop()
	}
	runtime.GC()
	for i, w := range weakly {
		if w.Value() != nil {
			t.Errorf("value %d is still held", i)
		}
	}
	holds(t, r, 3)
}

// P5.1: two rings do not meet.
func TestTwoRings(t *testing.T) {
	p, q := newPair[int](t, 2), newPair[int](t, 2)
	p.push(1)
	q.same()
	q.push(2)
	p.pop()
	q.same()
	q.push(3)
	p.same()
	p.push(4)
	q.same()
}

// P5.2, W8: a nil Ring has no room in each call, and nothing happens to it, of whatever its values are; so has one that New did not make.
func TestNilRing(t *testing.T) {
	var numbers *ring.Ring[int]
	var texts *ring.Ring[string]
	nothing(t, numbers, 1)
	nothing(t, texts, "a")
	nothing(t, new(ring.Ring[int]), 1)
	nothing(t, new(ring.Ring[string]), "a")
}

func nothing[T comparable](t *testing.T, r *ring.Ring[T], v T) {
	t.Helper()
	for range 3 {
		holds(t, r, 0)
		if r.Push(v) {
			t.Fatal("Push: true")
		}
		var none T
		if got, ok := r.Pop(); got != none || ok {
			t.Fatalf("Pop: %v %t", got, ok)
		}
		holds(t, r, 0)
	}
}
