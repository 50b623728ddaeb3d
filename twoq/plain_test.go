package twoq_test

import (
	"fmt"
	"slices"
	"strings"
	"testing"

	"hoard/twoq"
)

// plain is the document's words on an engine, word by word, with plain rows.
type plain struct {
	c, kin, kout   int
	in, out, again []string
}

func newPlain(room int) *plain {
	switch {
	case room < 1:
		room = 1
	case room > 1024:
		room = 1024
	}
	m := &plain{c: room, kin: room / 4, kout: room / 2}
	if m.kin < 1 {
		m.kin = 1
	}
	if m.kout < 1 {
		m.kout = 1
	}
	return m
}

func (m *plain) copied() *plain {
	return &plain{m.c, m.kin, m.kout, slices.Clone(m.in), slices.Clone(m.out), slices.Clone(m.again)}
}

func (m *plain) resident() int { return len(m.in) + len(m.again) }

func (m *plain) has(key string) bool {
	return slices.Contains(m.in, key) || slices.Contains(m.again, key)
}

// leave takes a key out of a row, if it is there: whether it was.
func leave(row *[]string, key string) bool {
	at := slices.Index(*row, key)
	if at >= 0 {
		*row = slices.Delete(*row, at, at+1)
	}
	return at >= 0
}

// first takes a row's oldest.
func first(row *[]string) string {
	key := (*row)[0]
	*row = slices.Delete(*row, 0, 1)
	return key
}

func (m *plain) access(key string) (bool, []string) {
	if leave(&m.again, key) {
		m.again = append(m.again, key)
		return true, nil
	}
	if slices.Contains(m.in, key) {
		return true, nil
	}
	if leave(&m.out, key) {
		gone := m.reclaim()
		m.again = append(m.again, key)
		return false, gone
	}
	gone := m.reclaim()
	m.in = append(m.in, key)
	return false, gone
}

func (m *plain) reclaim() []string {
	if m.resident() < m.c {
		return nil
	}
	key, _ := m.evict()
	return []string{key}
}

func (m *plain) evict() (string, bool) {
	if m.resident() == 0 {
		return "", false
	}
	if len(m.in) > m.kin || len(m.again) == 0 {
		key := first(&m.in)
		m.out = append(m.out, key)
		for len(m.out) > m.kout {
			first(&m.out)
		}
		return key, true
	}
	return first(&m.again), true
}

func (m *plain) load(key string) bool {
	if m.has(key) || m.resident() == m.c {
		return false
	}
	leave(&m.out, key)
	m.again = append(m.again, key)
	return true
}

func (m *plain) remove(key string) bool {
	return leave(&m.in, key) || leave(&m.again, key)
}

func (m *plain) state() string {
	line := func(name string, row []string) string {
		return strings.Join(append([]string{name + ":"}, row...), " ")
	}
	return strings.Join([]string{line("A1in", m.in), line("A1out", m.out), line("Am", m.again)}, ";")
}

// shape is how long the lists are: engines of one shape differ in the names of their keys alone.
func (m *plain) shape() string {
	return fmt.Sprint(len(m.in), len(m.out), len(m.again))
}

// call is one call that may change an engine: + Access, = Load, - Remove, ! Evict.
type call struct {
	what byte
	key  string
}

func (c call) String() string { return fmt.Sprintf("%c%.40q", c.what, c.key) }

// calls is a script's words as calls: +a, =a, -a, !.
func calls(script string) []call {
	var all []call
	for _, word := range strings.Fields(script) {
		all = append(all, call{word[0], word[1:]})
	}
	return all
}

// told is what a call answered, as a word.
func told(yes bool, gone []string) string { return fmt.Sprintf("%v%q", yes, gone) }

// evicted is told of an Evict.
func evicted(key string, ok bool) string { return fmt.Sprintf("%v %q", ok, key) }

func onEngine(e *twoq.Engine, c call) string {
	switch c.what {
	case '+':
		return told(e.Access(c.key))
	case '=':
		return told(e.Load(c.key), nil)
	case '-':
		return told(e.Remove(c.key), nil)
	}
	return evicted(e.Evict())
}

func onPlain(m *plain, c call) string {
	switch c.what {
	case '+':
		return told(m.access(c.key))
	case '=':
		return told(m.load(c.key), nil)
	case '-':
		return told(m.remove(c.key), nil)
	}
	return evicted(m.evict())
}

// pair is an engine and the plain one, which are told of the same.
type pair struct {
	t *testing.T
	e *twoq.Engine
	m *plain
}

func newPair(t *testing.T, room int) *pair { return &pair{t, twoq.New(room), newPlain(room)} }

// does makes calls on both, and holds what is answered and all that can be asked against each other behind each.
func (x *pair) does(all ...call) {
	x.t.Helper()
	for _, c := range all {
		x.quick(c)
		x.same()
	}
}

// quick makes one call on both, and holds the answers against each other, and the engine against the bounds of P11.5.
func (x *pair) quick(c call) {
	x.t.Helper()
	was := x.m.shape()
	if got, want := onEngine(x.e, c), onPlain(x.m, c); got != want {
		x.t.Fatalf("room %d, (%s), %v: %s, not %s", x.m.c, was, c, got, want)
	}
	if c.what == '+' && !x.e.Has(c.key) {
		x.t.Fatalf("room %d, (%s), %v: not resident", x.m.c, was, c)
	}
	if x.e.Len() > x.e.Room() || len(x.e.Keys()) > x.e.Room() || len(x.e.Ghosts()) > max(x.e.Room()/2, 1) {
		x.t.Fatalf("room %d, (%s), %v: beyond the bounds", x.m.c, was, c)
	}
}

// same holds all that can be asked against the plain one, twice: to be asked changes nothing.
func (x *pair) same() {
	x.t.Helper()
	for range 2 {
		if got, want := x.e.State(), x.m.state(); got != want {
			x.t.Fatalf("room %d: State\n%.400q, not\n%.400q", x.m.c, got, want)
		}
		if got, want := x.e.Keys(), slices.Concat(x.m.in, x.m.again); !slices.Equal(got, want) {
			x.t.Fatalf("room %d: Keys %.400q, not %.400q", x.m.c, got, want)
		}
		if got := x.e.Ghosts(); !slices.Equal(got, x.m.out) {
			x.t.Fatalf("room %d: Ghosts %.400q, not %.400q", x.m.c, got, x.m.out)
		}
		if x.e.Len() != x.m.resident() || x.e.Room() != x.m.c {
			x.t.Fatalf("room %d: Len %d, Room %d", x.m.c, x.e.Len(), x.e.Room())
		}
	}
}

// has holds Has of each key of the rows, and of others, against the plain one.
func (x *pair) has(others ...string) {
	x.t.Helper()
	for _, key := range slices.Concat(x.m.in, x.m.out, x.m.again, others) {
		if got := x.e.Has(key); got != x.m.has(key) {
			x.t.Fatalf("room %d, %.400s: Has(%.40q): %v", x.m.c, x.m.state(), key, got)
		}
	}
}

// lots is numbers that look like any.
func lots(seed uint64) func(n int) int {
	return func(n int) int {
		seed = seed*6364136223846793005 + 1442695040888963407
		return int(seed >> 33 % uint64(n))
	}
}
