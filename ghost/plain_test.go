package ghost_test

import (
	"fmt"
	"slices"
	"strings"
	"testing"

	"hoard/ghost"
)

// plain is the document's words on a Ghost, word by word, with a plain list of texts, the oldest first.
type plain struct {
	room int
	keys []string
}

func newPlain(room int) *plain {
	switch {
	case room < 1:
		room = 1
	case room > 1024:
		room = 1024
	}
	return &plain{room: room}
}

// take takes a key out of the list, if it is there: whether it was.
func (m *plain) take(key string) bool {
	at := slices.Index(m.keys, key)
	if at >= 0 {
		m.keys = slices.Delete(m.keys, at, at+1)
	}
	return at >= 0
}

func (m *plain) add(key string) (string, bool) {
	m.take(key)
	m.keys = append(m.keys, key)
	if len(m.keys) <= m.room {
		return "", false
	}
	oldest := m.keys[0]
	m.keys = slices.Delete(m.keys, 0, 1)
	return oldest, true
}

// call is one call on a key: + Add, - Take, ? Has.
type call struct {
	what byte
	key  string
}

func (c call) String() string { return fmt.Sprintf("%c%.40q", c.what, c.key) }

// calls is a script's words as calls: +a, -a, ?a.
func calls(script string) []call {
	var all []call
	for _, word := range strings.Fields(script) {
		all = append(all, call{word[0], word[1:]})
	}
	return all
}

// told is what a call answered, as a word.
func told(key string, yes bool) string { return fmt.Sprintf("%v %q", yes, key) }

func onGhost(g *ghost.Ghost, c call) string {
	switch c.what {
	case '+':
		return told(g.Add(c.key))
	case '-':
		return told("", g.Take(c.key))
	}
	return told("", g.Has(c.key))
}

func onPlain(m *plain, c call) string {
	switch c.what {
	case '+':
		return told(m.add(c.key))
	case '-':
		return told("", m.take(c.key))
	}
	return told("", slices.Contains(m.keys, c.key))
}

// pair is a Ghost and the plain one, which are told of the same.
type pair struct {
	t *testing.T
	g *ghost.Ghost
	m *plain
}

func newPair(t *testing.T, room int) *pair { return &pair{t, ghost.New(room), newPlain(room)} }

// does makes calls on both, and holds what is answered and all that can be asked against each other behind each.
func (x *pair) does(all ...call) {
	x.t.Helper()
	for _, c := range all {
		x.quick(c)
		x.same(c.key)
	}
}

// quick makes one call on both, and holds the answers against each other, and the Ghost against what follows of them.
func (x *pair) quick(c call) {
	x.t.Helper()
	were := len(x.m.keys)
	if got, want := onGhost(x.g, c), onPlain(x.m, c); got != want {
		x.t.Fatalf("room %d, %d there, %v: %s, not %s", x.m.room, were, c, got, want)
	}
	if c.what != '?' && x.g.Has(c.key) != (c.what == '+') {
		x.t.Fatalf("room %d, %d there, %v: Has %v", x.m.room, were, c, c.what != '+')
	}
	if x.g.Len() != len(x.m.keys) || x.g.Len() > x.m.room {
		x.t.Fatalf("room %d, %v: %d are there, not %d", x.m.room, c, x.g.Len(), len(x.m.keys))
	}
}

// same holds all that can be asked, Has of each key there and of others, against the plain one, twice: to be asked changes nothing.
func (x *pair) same(others ...string) {
	x.t.Helper()
	for range 2 {
		got := x.g.Keys()
		if !slices.Equal(got, x.m.keys) {
			x.t.Fatalf("room %d: Keys %.400q, not %.400q", x.m.room, got, x.m.keys)
		}
		if x.g.Len() != len(x.m.keys) {
			x.t.Fatalf("room %d: Len %d, not %d", x.m.room, x.g.Len(), len(x.m.keys))
		}
		if slices.Sort(got); len(slices.Compact(got)) != len(x.m.keys) {
			x.t.Fatalf("room %d: a key is there twice: %.400q", x.m.room, x.m.keys)
		}
		for _, key := range x.m.keys {
			if !x.g.Has(key) {
				x.t.Fatalf("room %d: Has(%.40q) of %.400q: false", x.m.room, key, x.m.keys)
			}
		}
		for _, key := range others {
			if got := x.g.Has(key); got != slices.Contains(x.m.keys, key) {
				x.t.Fatalf("room %d: Has(%.40q) of %.400q: %v", x.m.room, key, x.m.keys, got)
			}
		}
	}
}

// lots is numbers that look like any.
func lots(seed uint64) func(n int) int {
	return func(n int) int {
		seed = seed*6364136223846793005 + 1442695040888963407
		return int(seed >> 33 % uint64(n))
	}
}
