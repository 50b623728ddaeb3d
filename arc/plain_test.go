package arc_test

import (
	"fmt"
	"slices"
	"strings"
	"testing"

	"hoard/arc"
)

// plain is the document's words on an engine, word by word, with plain rows.
type plain struct {
	c, p           int
	t1, t2, b1, b2 []string
}

func newPlain(room int) *plain {
	switch {
	case room < 1:
		room = 1
	case room > 1024:
		room = 1024
	}
	return &plain{c: room}
}

func (m *plain) copied() *plain {
	return &plain{m.c, m.p, slices.Clone(m.t1), slices.Clone(m.t2), slices.Clone(m.b1), slices.Clone(m.b2)}
}

func (m *plain) resident() int { return len(m.t1) + len(m.t2) }
func (m *plain) ghosts() int   { return len(m.b1) + len(m.b2) }

func (m *plain) has(key string) bool {
	return slices.Contains(m.t1, key) || slices.Contains(m.t2, key)
}

// leave takes a key out of all rows.
func (m *plain) leave(key string) {
	for _, row := range []*[]string{&m.t1, &m.t2, &m.b1, &m.b2} {
		if at := slices.Index(*row, key); at >= 0 {
			*row = slices.Delete(*row, at, at+1)
		}
	}
}

// first takes a row's oldest.
func first(row *[]string) string {
	key := (*row)[0]
	*row = slices.Delete(*row, 0, 1)
	return key
}

func (m *plain) access(key string) (bool, []string) {
	if m.has(key) {
		m.leave(key)
		m.t2 = append(m.t2, key)
		return true, nil
	}
	if slices.Contains(m.b1, key) {
		more := max(len(m.b2)/len(m.b1), 1)
		m.p = min(m.p+more, m.c)
		gone := m.replace(key)
		m.leave(key)
		m.t2 = append(m.t2, key)
		return false, gone
	}
	if slices.Contains(m.b2, key) {
		less := max(len(m.b1)/len(m.b2), 1)
		m.p = max(m.p-less, 0)
		gone := m.replace(key)
		m.leave(key)
		m.t2 = append(m.t2, key)
		return false, gone
	}
	gone := m.unknown(key)
	m.t1 = append(m.t1, key)
	return false, gone
}

// unknown is what comes ahead of a key that is in none of the rows.
func (m *plain) unknown(key string) []string {
	four := m.resident() + m.ghosts()
	if len(m.t1)+len(m.b1) == m.c {
		if len(m.t1) < m.c {
			first(&m.b1)
			return m.replace(key)
		}
		return []string{first(&m.t1)}
	}
	if four < m.c {
		return nil
	}
	if four >= 2*m.c {
		first(&m.b2)
	}
	return m.replace(key)
}

func (m *plain) replace(key string) []string {
	if m.resident() < m.c {
		return nil
	}
	just := len(m.t1) == m.p && slices.Contains(m.b2, key)
	if len(m.t1) > 0 && (len(m.t1) > m.p || just || len(m.t2) == 0) {
		return []string{m.ghost(&m.t1, &m.b1)}
	}
	return []string{m.ghost(&m.t2, &m.b2)}
}

// ghost makes the oldest of one row the newest of another one.
func (m *plain) ghost(from, to *[]string) string {
	key := first(from)
	*to = append(*to, key)
	return key
}

func (m *plain) load(key string) bool {
	if m.has(key) || m.resident() == m.c {
		return false
	}
	m.leave(key)
	m.t1 = append(m.t1, key)
	for len(m.t1)+len(m.b1) > m.c {
		first(&m.b1)
	}
	for m.resident()+m.ghosts() > 2*m.c {
		first(&m.b2)
	}
	return true
}

func (m *plain) remove(key string) bool {
	if !m.has(key) {
		return false
	}
	m.leave(key)
	return true
}

func (m *plain) evict() (string, bool) {
	if m.resident() == 0 {
		return "", false
	}
	if len(m.t1) > 0 && (len(m.t1) > m.p || len(m.t2) == 0) {
		return m.ghost(&m.t1, &m.b1), true
	}
	return m.ghost(&m.t2, &m.b2), true
}

func (m *plain) state() string {
	line := func(name string, row []string) string {
		return strings.Join(append([]string{name + ":"}, row...), " ")
	}
	return strings.Join([]string{line("T1", m.t1), line("T2", m.t2), line("B1", m.b1), line("B2", m.b2), fmt.Sprint("p: ", m.p)}, ";")
}

// shape is how long the lists are, and p: engines of one shape differ in the names of their keys alone.
func (m *plain) shape() string {
	return fmt.Sprint(len(m.t1), len(m.t2), len(m.b1), len(m.b2), m.p)
}

// call is one call that may change an engine: + Access, = Load, - Remove, ! Evict.
type call struct {
	what byte
	key  string
}

func (c call) String() string { return fmt.Sprintf("%c%.40q", c.what, c.key) }

// calls is a script's words as calls: +a, =a, -a, !.
func calls(script string) []call {
	var all []call
	for _, word := range strings.Fields(script) {
		all = append(all, call{word[0], word[1:]})
	}
	return all
}

// told is what a call answered, as a word.
func told(yes bool, gone []string) string { return fmt.Sprintf("%v%q", yes, gone) }

// evicted is told of an Evict.
func evicted(key string, ok bool) string { return fmt.Sprintf("%v %q", ok, key) }

func onEngine(e *arc.Engine, c call) string {
	switch c.what {
	case '+':
		return told(e.Access(c.key))
	case '=':
		return told(e.Load(c.key), nil)
	case '-':
		return told(e.Remove(c.key), nil)
	}
	return evicted(e.Evict())
}

func onPlain(m *plain, c call) string {
	switch c.what {
	case '+':
		return told(m.access(c.key))
	case '=':
		return told(m.load(c.key), nil)
	case '-':
		return told(m.remove(c.key), nil)
	}
	return evicted(m.evict())
}

// pair is an engine and the plain one, which are told of the same.
type pair struct {
	t *testing.T
	e *arc.Engine
	m *plain
}

func newPair(t *testing.T, room int) *pair { return &pair{t, arc.New(room), newPlain(room)} }

// does makes calls on both, and holds what is answered and all that can be asked against each other behind each.
func (x *pair) does(all ...call) {
	x.t.Helper()
	for _, c := range all {
		x.quick(c)
		x.same()
	}
}

// quick makes one call on both, and holds the answers and the bounds of P10.5 against each other.
func (x *pair) quick(c call) {
	x.t.Helper()
	was := x.m.shape()
	if got, want := onEngine(x.e, c), onPlain(x.m, c); got != want {
		x.t.Fatalf("room %d, (%s), %v: %s, not %s", x.m.c, was, c, got, want)
	}
	if c.what == '+' && !x.e.Has(c.key) {
		x.t.Fatalf("room %d, (%s), %v: not resident", x.m.c, was, c)
	}
	if x.e.Len() > x.m.c || len(x.m.t1)+len(x.m.b1) > x.m.c || x.m.resident()+x.m.ghosts() > 2*x.m.c || x.m.p < 0 || x.m.p > x.m.c {
		x.t.Fatalf("room %d, (%s), %v: beyond the bounds", x.m.c, was, c)
	}
}

// same holds all that can be asked against the plain one, twice: to be asked changes nothing.
func (x *pair) same() {
	x.t.Helper()
	for range 2 {
		if got, want := x.e.State(), x.m.state(); got != want {
			x.t.Fatalf("room %d: State\n%.400q, not\n%.400q", x.m.c, got, want)
		}
		if got, want := x.e.Keys(), slices.Concat(x.m.t1, x.m.t2); !slices.Equal(got, want) {
			x.t.Fatalf("room %d: Keys %.400q, not %.400q", x.m.c, got, want)
		}
		if got, want := x.e.Ghosts(), slices.Concat(x.m.b1, x.m.b2); !slices.Equal(got, want) {
			x.t.Fatalf("room %d: Ghosts %.400q, not %.400q", x.m.c, got, want)
		}
		if x.e.Len() != x.m.resident() || x.e.Room() != x.m.c {
			x.t.Fatalf("room %d: Len %d, Room %d", x.m.c, x.e.Len(), x.e.Room())
		}
	}
}

// has holds Has of each key of the rows, and of others, against the plain one.
func (x *pair) has(others ...string) {
	x.t.Helper()
	for _, key := range slices.Concat(x.m.t1, x.m.t2, x.m.b1, x.m.b2, others) {
		if got := x.e.Has(key); got != x.m.has(key) {
			x.t.Fatalf("room %d, %.400s: Has(%.40q): %v", x.m.c, x.m.state(), key, got)
		}
	}
}

// lots is numbers that look like any.
func lots(seed uint64) func(n int) int {
	return func(n int) int {
		seed = seed*6364136223846793005 + 1442695040888963407
		return int(seed >> 33 % uint64(n))
	}
}
