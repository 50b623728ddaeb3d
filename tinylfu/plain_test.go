package tinylfu_test

import (
	"fmt"
	"slices"
	"strings"
	"testing"

	"hoard/mix"
	"hoard/tinylfu"
)

// plain is the document's words on an engine, a Sketch and a Door, word by word, with plain rows, cells and bits.
type plain struct {
	c, forW, main, forP int
	w, a, p             []string
	cells               [4][]int
	sum                 int
	bits                []bool
	// met counts what happened on the way: how often a candidate was more often than the victim, as often, less often, and how often all was halved.
	met struct{ more, same, less, halved int }
}

func newPlain(room int) *plain {
	switch {
	case room < 1:
		room = 1
	case room > 1024:
		room = 1024
	}
	x := &plain{c: room, forW: room / 8}
	if x.forW < 1 {
		x.forW = 1
	}
	x.main = room - x.forW
	x.forP = x.main * 4 / 5
	width := 8
	for width < room {
		width *= 2
	}
	for i := range x.cells {
		x.cells[i] = make([]int, width)
	}
	x.bits = make([]bool, 8*width)
	return x
}

func (x *plain) copied() *plain {
	y := *x
	y.w, y.a, y.p, y.bits = slices.Clone(x.w), slices.Clone(x.a), slices.Clone(x.p), slices.Clone(x.bits)
	for i := range x.cells {
		y.cells[i] = slices.Clone(x.cells[i])
	}
	return &y
}

// cell is a key's cell in the row i.
func (x *plain) cell(i int, key string) *int {
	return &x.cells[i][mix.Hash(uint64(i+1), key)%uint64(len(x.cells[i]))]
}

// counted is the least of a key's cells.
func (x *plain) counted(key string) int {
	return min(*x.cell(0, key), *x.cell(1, key), *x.cell(2, key), *x.cell(3, key))
}

// door is whether all bits of a key are 1, and makes them 1, if it is to.
func (x *plain) door(key string, adds bool) bool {
	was := true
	for _, seed := range []uint64{11, 12, 13} {
		was = was && x.bits[mix.Hash(seed, key)%uint64(len(x.bits))]
	}
	for _, seed := range []uint64{11, 12, 13} {
		if adds {
			x.bits[mix.Hash(seed, key)%uint64(len(x.bits))] = true
		}
	}
	return was
}

// often is how often a key was used, about.
func (x *plain) often(key string) int {
	if x.door(key, false) {
		return x.counted(key) + 1
	}
	return x.counted(key)
}

func (x *plain) note(key string) {
	if !x.door(key, true) || x.counted(key) == 15 {
		return
	}
	least := x.counted(key)
	for i := range x.cells {
		if at := x.cell(i, key); *at == least {
			*at++
		}
	}
	if x.sum++; x.sum < 10*len(x.cells[0]) {
		return
	}
	x.sum /= 2
	for i := range x.cells {
		for k := range x.cells[i] {
			x.cells[i][k] /= 2
		}
	}
	clear(x.bits)
	x.met.halved++
}

func (x *plain) resident() int { return len(x.w) + len(x.a) + len(x.p) }

func (x *plain) has(key string) bool {
	return slices.Contains(x.w, key) || slices.Contains(x.a, key) || slices.Contains(x.p, key)
}

// leave takes a key out of a row, if it is there: whether it was.
func leave(row *[]string, key string) bool {
	at := slices.Index(*row, key)
	if at >= 0 {
		*row = slices.Delete(*row, at, at+1)
	}
	return at >= 0
}

// first takes a row's first.
func first(row *[]string) string {
	key := (*row)[0]
	*row = slices.Delete(*row, 0, 1)
	return key
}

func (x *plain) access(key string) (bool, []string) {
	x.note(key)
	switch {
	case leave(&x.w, key):
		x.w = append(x.w, key)
		return true, nil
	case leave(&x.p, key):
		x.p = append(x.p, key)
		return true, nil
	case leave(&x.a, key):
		x.p = append(x.p, key)
		for len(x.p) > x.forP {
			x.a = append(x.a, first(&x.p))
		}
		return true, nil
	}
	x.w = append(x.w, key)
	var gone []string
	for len(x.w) > x.forW {
		gone = append(gone, x.settle(first(&x.w))...)
	}
	return false, gone
}

// settle is what becomes of a candidate: what goes.
func (x *plain) settle(candidate string) []string {
	if len(x.a)+len(x.p) < x.main {
		x.a = append(x.a, candidate)
		return nil
	}
	if len(x.a)+len(x.p) == 0 {
		return []string{candidate}
	}
	victims := &x.a
	if len(x.a) == 0 {
		victims = &x.p
	}
	mine, other := x.often(candidate), x.often((*victims)[0])
	if mine > other {
		x.met.more++
		victim := first(victims)
		x.a = append(x.a, candidate)
		return []string{victim}
	}
	if mine == other {
		x.met.same++
	} else {
		x.met.less++
	}
	return []string{candidate}
}

func (x *plain) load(key string) bool {
	if x.has(key) || x.resident() == x.c {
		return false
	}
	if len(x.a)+len(x.p) < x.main {
		x.a = append(x.a, key)
	} else {
		x.w = append(x.w, key)
	}
	return true
}

func (x *plain) remove(key string) bool {
	return leave(&x.w, key) || leave(&x.a, key) || leave(&x.p, key)
}

func (x *plain) evict() (string, bool) {
	switch {
	case len(x.a) > 0:
		return first(&x.a), true
	case len(x.p) > 0:
		return first(&x.p), true
	case len(x.w) > 0:
		return first(&x.w), true
	}
	return "", false
}

func (x *plain) state() string {
	line := func(name string, row []string) string {
		return strings.Join(append([]string{name + ":"}, row...), " ")
	}
	return strings.Join([]string{line("W", x.w), line("A", x.a), line("P", x.p)}, ";")
}

// shape is how long the rows are, and whether the next candidate was more often than the next victim.
func (x *plain) shape() string {
	sign := "-"
	if main := slices.Concat(x.a, x.p); len(x.w) > 0 && len(main) > 0 {
		mine, other := x.often(x.w[0]), x.often(main[0])
		switch {
		case mine > other:
			sign = "more"
		case mine == other:
			sign = "same"
		default:
			sign = "less"
		}
	}
	return fmt.Sprint(len(x.w), len(x.a), len(x.p), sign)
}

// call is one call that may change an engine: + Access, = Load, - Remove, ! Evict.
type call struct {
	what byte
	key  string
}

func (c call) String() string { return fmt.Sprintf("%c%.40q", c.what, c.key) }

// calls is a script's words as calls: +a, =a, -a, !.
func calls(script string) []call {
	var all []call
	for _, word := range strings.Fields(script) {
		all = append(all, call{word[0], word[1:]})
	}
	return all
}

// told is what a call answered, as a word.
func told(yes bool, gone []string) string { return fmt.Sprintf("%v%q", yes, gone) }

// evicted is told of an Evict.
func evicted(key string, ok bool) string { return fmt.Sprintf("%v %q", ok, key) }

func onEngine(e *tinylfu.Engine, c call) string {
	switch c.what {
	case '+':
		return told(e.Access(c.key))
	case '=':
		return told(e.Load(c.key), nil)
	case '-':
		return told(e.Remove(c.key), nil)
	}
	return evicted(e.Evict())
}

func onPlain(x *plain, c call) string {
	switch c.what {
	case '+':
		return told(x.access(c.key))
	case '=':
		return told(x.load(c.key), nil)
	case '-':
		return told(x.remove(c.key), nil)
	}
	return evicted(x.evict())
}

// pair is an engine and the plain one, which are told of the same.
type pair struct {
	t *testing.T
	e *tinylfu.Engine
	m *plain
}

func newPair(t *testing.T, room int) *pair { return &pair{t, tinylfu.New(room), newPlain(room)} }

// does makes calls on both, and holds what is answered and all that can be asked against each other behind each.
func (x *pair) does(all ...call) {
	x.t.Helper()
	for _, c := range all {
		x.quick(c)
		x.same()
	}
}

// quick makes one call on both, and holds the answers against each other, and the engine against the bounds of P14.5.
func (x *pair) quick(c call) {
	x.t.Helper()
	was := ""
	if x.m.c <= 34 {
		was = x.m.shape()
	}
	if got, want := onEngine(x.e, c), onPlain(x.m, c); got != want {
		x.t.Fatalf("room %d, (%s), %v: %s, not %s", x.m.c, was, c, got, want)
	}
	if c.what == '+' && !x.e.Has(c.key) {
		x.t.Fatalf("room %d, (%s), %v: not resident", x.m.c, was, c)
	}
	if x.e.Len() > x.e.Room() || len(x.e.Ghosts()) > 0 {
		x.t.Fatalf("room %d, (%s), %v: beyond the bounds", x.m.c, was, c)
	}
	if w, a, p := len(x.m.w), len(x.m.a), len(x.m.p); w > x.m.forW || p > x.m.forP || a+p > x.m.main {
		x.t.Fatalf("room %d, (%s), %v: %d in W, %d in A, %d in P", x.m.c, was, c, w, a, p)
	}
}

// same holds all that can be asked against the plain one, twice: to be asked changes nothing.
func (x *pair) same() {
	x.t.Helper()
	for range 2 {
		if got, want := x.e.State(), x.m.state(); got != want {
			x.t.Fatalf("room %d: State\n%.400q, not\n%.400q", x.m.c, got, want)
		}
		if got, want := x.e.Keys(), slices.Concat(x.m.w, x.m.a, x.m.p); !slices.Equal(got, want) {
			x.t.Fatalf("room %d: Keys %.400q, not %.400q", x.m.c, got, want)
		}
		if got := x.e.Ghosts(); len(got) != 0 {
			x.t.Fatalf("room %d: Ghosts %.400q", x.m.c, got)
		}
		if x.e.Len() != x.m.resident() || x.e.Room() != x.m.c {
			x.t.Fatalf("room %d: Len %d, Room %d", x.m.c, x.e.Len(), x.e.Room())
		}
	}
}

// has holds Has of each key of the rows, and of others, against the plain one, and that it changes nothing.
func (x *pair) has(others ...string) {
	x.t.Helper()
	for _, key := range slices.Concat(x.m.w, x.m.a, x.m.p, others) {
		if got := x.e.Has(key); got != x.m.has(key) {
			x.t.Fatalf("room %d, %.400s: Has(%.40q): %v", x.m.c, x.m.state(), key, got)
		}
	}
	if got, want := x.e.State(), x.m.state(); got != want {
		x.t.Fatalf("room %d: State behind Has\n%.400q, not\n%.400q", x.m.c, got, want)
	}
}

// lots is numbers that look like any.
func lots(seed uint64) func(n int) int {
	return func(n int) int {
		seed = seed*6364136223846793005 + 1442695040888963407
		return int(seed >> 33 % uint64(n))
	}
}
