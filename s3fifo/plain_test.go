package s3fifo_test

import (
	"fmt"
	"slices"
	"strings"
	"testing"

	"hoard/s3fifo"
)

// counted is a resident key, and its count.
type counted struct {
	key   string
	count int
}

// plain is the document's words on an engine, word by word, with plain rows.
type plain struct {
	c, small, forG int
	s, m           []counted
	g              []string
}

func newPlain(room int) *plain {
	switch {
	case room < 1:
		room = 1
	case room > 1024:
		room = 1024
	}
	x := &plain{c: room, small: room / 10}
	if x.small < 1 {
		x.small = 1
	}
	x.forG = room - x.small
	if x.forG < 1 {
		x.forG = 1
	}
	return x
}

func (x *plain) copied() *plain {
	return &plain{x.c, x.small, x.forG, slices.Clone(x.s), slices.Clone(x.m), slices.Clone(x.g)}
}

func (x *plain) resident() int { return len(x.s) + len(x.m) }

// in is where a key stands in a row; -1, if it does not.
func in(row []counted, key string) int {
	return slices.IndexFunc(row, func(k counted) bool { return k.key == key })
}

func (x *plain) has(key string) bool { return in(x.s, key) >= 0 || in(x.m, key) >= 0 }

// leave takes a key out of a row, if it is there: whether it was.
func leave(row *[]counted, key string) bool {
	at := in(*row, key)
	if at >= 0 {
		*row = slices.Delete(*row, at, at+1)
	}
	return at >= 0
}

// leaveG takes a key out of G, if it is there: whether it was.
func (x *plain) leaveG(key string) bool {
	at := slices.Index(x.g, key)
	if at >= 0 {
		x.g = slices.Delete(x.g, at, at+1)
	}
	return at >= 0
}

func (x *plain) access(key string) (bool, []string) {
	for _, row := range [][]counted{x.s, x.m} {
		if at := in(row, key); at >= 0 {
			if row[at].count++; row[at].count == 4 {
				row[at].count = 3
			}
			return true, nil
		}
	}
	var gone []string
	for x.resident() == x.c {
		went, _ := x.evict()
		gone = append(gone, went)
	}
	if x.leaveG(key) {
		x.m = append(x.m, counted{key, 0})
	} else {
		x.s = append(x.s, counted{key, 0})
	}
	return false, gone
}

func (x *plain) load(key string) bool {
	if x.has(key) || x.resident() == x.c {
		return false
	}
	x.leaveG(key)
	x.m = append(x.m, counted{key, 0})
	return true
}

func (x *plain) remove(key string) bool {
	return leave(&x.s, key) || leave(&x.m, key)
}

func (x *plain) evict() (string, bool) {
	if x.resident() == 0 {
		return "", false
	}
	if len(x.s) > x.small || len(x.m) == 0 {
		return x.fromS(), true
	}
	return x.fromM(), true
}

func (x *plain) fromS() string {
	for len(x.s) > 0 {
		first := x.s[0]
		x.s = slices.Delete(x.s, 0, 1)
		if first.count == 0 || first.count == 1 {
			x.g = append(x.g, first.key)
			for len(x.g) > x.forG {
				x.g = slices.Delete(x.g, 0, 1)
			}
			return first.key
		}
		x.m = append(x.m, counted{first.key, 0})
	}
	return x.fromM()
}

func (x *plain) fromM() string {
	first := x.m[0]
	x.m = slices.Delete(x.m, 0, 1)
	if first.count == 0 {
		return first.key
	}
	x.m = append(x.m, counted{first.key, first.count - 1})
	return x.fromM()
}

// names is the keys of rows.
func names(rows ...[]counted) []string {
	var all []string
	for _, k := range slices.Concat(rows...) {
		all = append(all, k.key)
	}
	return all
}

func (x *plain) state() string {
	line := func(name string, row []counted) string {
		words := []string{name}
		for _, k := range row {
			words = append(words, fmt.Sprintf("%s/%d", k.key, k.count))
		}
		return strings.Join(words, " ")
	}
	return strings.Join([]string{line("S:", x.s), line("M:", x.m), strings.Join(append([]string{"G:"}, x.g...), " ")}, ";")
}

// shape is the counts in the rows, and how many ghosts there are: engines of one shape differ in the names of their keys alone.
func (x *plain) shape() string {
	text := []byte("S")
	for _, k := range x.s {
		text = append(text, byte('0'+k.count))
	}
	text = append(text, 'M')
	for _, k := range x.m {
		text = append(text, byte('0'+k.count))
	}
	return fmt.Sprintf("%sG%d", text, len(x.g))
}

// call is one call that may change an engine: + Access, = Load, - Remove, ! Evict.
type call struct {
	what byte
	key  string
}

func (c call) String() string { return fmt.Sprintf("%c%.40q", c.what, c.key) }

// calls is a script's words as calls: +a, =a, -a, !.
func calls(script string) []call {
	var all []call
	for _, word := range strings.Fields(script) {
		all = append(all, call{word[0], word[1:]})
	}
	return all
}

// told is what a call answered, as a word.
func told(yes bool, gone []string) string { return fmt.Sprintf("%v%q", yes, gone) }

// evicted is told of an Evict.
func evicted(key string, ok bool) string { return fmt.Sprintf("%v %q", ok, key) }

func onEngine(e *s3fifo.Engine, c call) string {
	switch c.what {
	case '+':
		return told(e.Access(c.key))
	case '=':
		return told(e.Load(c.key), nil)
	case '-':
		return told(e.Remove(c.key), nil)
	}
	return evicted(e.Evict())
}

func onPlain(x *plain, c call) string {
	switch c.what {
	case '+':
		return told(x.access(c.key))
	case '=':
		return told(x.load(c.key), nil)
	case '-':
		return told(x.remove(c.key), nil)
	}
	return evicted(x.evict())
}

// pair is an engine and the plain one, which are told of the same.
type pair struct {
	t *testing.T
	e *s3fifo.Engine
	m *plain
}

func newPair(t *testing.T, room int) *pair { return &pair{t, s3fifo.New(room), newPlain(room)} }

// does makes calls on both, and holds what is answered and all that can be asked against each other behind each.
func (x *pair) does(all ...call) {
	x.t.Helper()
	for _, c := range all {
		x.quick(c)
		x.same()
	}
}

// quick makes one call on both, and holds the answers against each other, and the engine against the bounds of P12.5.
func (x *pair) quick(c call) {
	x.t.Helper()
	was := x.m.shape()
	if got, want := onEngine(x.e, c), onPlain(x.m, c); got != want {
		x.t.Fatalf("room %d, (%.400s), %v: %s, not %s", x.m.c, was, c, got, want)
	}
	if c.what == '+' && !x.e.Has(c.key) {
		x.t.Fatalf("room %d, (%.400s), %v: not resident", x.m.c, was, c)
	}
	if x.e.Len() > x.e.Room() || len(x.e.Keys()) > x.e.Room() || len(x.e.Ghosts()) > x.m.forG {
		x.t.Fatalf("room %d, (%.400s), %v: beyond the bounds", x.m.c, was, c)
	}
}

// same holds all that can be asked against the plain one, twice: to be asked changes nothing.
func (x *pair) same() {
	x.t.Helper()
	for range 2 {
		if got, want := x.e.State(), x.m.state(); got != want {
			x.t.Fatalf("room %d: State\n%.400q, not\n%.400q", x.m.c, got, want)
		}
		if got, want := x.e.Keys(), names(x.m.s, x.m.m); !slices.Equal(got, want) {
			x.t.Fatalf("room %d: Keys %.400q, not %.400q", x.m.c, got, want)
		}
		if got := x.e.Ghosts(); !slices.Equal(got, x.m.g) {
			x.t.Fatalf("room %d: Ghosts %.400q, not %.400q", x.m.c, got, x.m.g)
		}
		if x.e.Len() != x.m.resident() || x.e.Room() != x.m.c {
			x.t.Fatalf("room %d: Len %d, Room %d", x.m.c, x.e.Len(), x.e.Room())
		}
	}
}

// has holds Has of each key of the rows, and of others, against the plain one, and that it changes nothing.
func (x *pair) has(others ...string) {
	x.t.Helper()
	for _, key := range slices.Concat(names(x.m.s, x.m.m), x.m.g, others) {
		if got := x.e.Has(key); got != x.m.has(key) {
			x.t.Fatalf("room %d, %.400s: Has(%.40q): %v", x.m.c, x.m.state(), key, got)
		}
	}
	if got, want := x.e.State(), x.m.state(); got != want {
		x.t.Fatalf("room %d: State behind Has\n%.400q, not\n%.400q", x.m.c, got, want)
	}
}

// lots is numbers that look like any.
func lots(seed uint64) func(n int) int {
	return func(n int) int {
		seed = seed*6364136223846793005 + 1442695040888963407
		return int(seed >> 33 % uint64(n))
	}
}
