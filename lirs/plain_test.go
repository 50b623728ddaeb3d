package lirs_test

import (
	"fmt"
	"slices"
	"strings"
	"testing"

	"hoard/lirs"
)

// stands is a key of S, and what it is there: h, c or g.
type stands struct {
	key  string
	what byte
}

// plain is the document's words on an engine, word by word, with plain rows that are searched.
type plain struct {
	c, forCold int
	s          []stands
	q          []string
}

func newPlain(room int) *plain {
	switch {
	case room < 1:
		room = 1
	case room > 1024:
		room = 1024
	}
	x := &plain{c: room, forCold: room / 10}
	if x.forCold < 1 {
		x.forCold = 1
	}
	return x
}

func (x *plain) copied() *plain {
	return &plain{x.c, x.forCold, slices.Clone(x.s), slices.Clone(x.q)}
}

// of is the keys of S that are h, c or g, from the bottom on.
func (x *plain) of(what byte) []string {
	var keys []string
	for _, k := range x.s {
		if k.what == what {
			keys = append(keys, k.key)
		}
	}
	return keys
}

func (x *plain) cmax() int     { return x.c - x.forCold }
func (x *plain) hots() int     { return len(x.of('h')) }
func (x *plain) resident() int { return x.hots() + len(x.q) }

// known is all keys of both rows: what is cold in S stands in Q, too.
func (x *plain) known() []string { return slices.Concat(x.q, x.of('h'), x.of('g')) }

// in is where a key stands in S; -1, if it does not.
func (x *plain) in(key string) int {
	return slices.IndexFunc(x.s, func(k stands) bool { return k.key == key })
}

func (x *plain) has(key string) bool {
	at := x.in(key)
	return slices.Contains(x.q, key) || at >= 0 && x.s[at].what == 'h'
}

// leaveS and leaveQ take a key out of a row, if it is there.
func (x *plain) leaveS(key string) {
	x.s = slices.DeleteFunc(x.s, func(k stands) bool { return k.key == key })
}

func (x *plain) leaveQ(key string) {
	x.q = slices.DeleteFunc(x.q, func(k string) bool { return k == key })
}

// top makes a key the top of S, wherever it stood there.
func (x *plain) top(key string, what byte) {
	x.leaveS(key)
	x.s = append(x.s, stands{key, what})
}

// end makes a key the end of Q, wherever it stood there.
func (x *plain) end(key string) {
	x.leaveQ(key)
	x.q = append(x.q, key)
}

func (x *plain) prune() {
	for len(x.s) > 0 && x.s[0].what != 'h' {
		x.s = slices.Delete(x.s, 0, 1)
	}
}

// chill makes a cold one of the hot one nearest to the bottom.
func (x *plain) chill() {
	key := x.of('h')[0]
	x.leaveS(key)
	x.end(key)
	x.prune()
}

func (x *plain) cool() {
	if x.hots() > x.cmax() {
		x.chill()
	}
}

func (x *plain) forget() {
	for len(x.of('g')) > x.c {
		x.leaveS(x.of('g')[0])
	}
	x.prune()
}

func (x *plain) access(key string) (bool, []string) {
	defer x.prune()
	if x.has(key) {
		x.use(key)
		return true, nil
	}
	var gone []string
	if x.resident() == x.c {
		went, _ := x.evict()
		gone = append(gone, went)
	}
	if x.hots() < x.cmax() {
		x.top(key, 'h')
	} else if x.in(key) >= 0 {
		x.top(key, 'h')
		x.cool()
	} else {
		x.top(key, 'c')
		x.end(key)
	}
	x.forget()
	return false, gone
}

func (x *plain) use(key string) {
	if !slices.Contains(x.q, key) {
		x.top(key, 'h')
		return
	}
	if x.in(key) < 0 {
		x.top(key, 'c')
		x.end(key)
		return
	}
	x.top(key, 'h')
	x.leaveQ(key)
	x.cool()
}

func (x *plain) load(key string) bool {
	if x.has(key) || x.resident() == x.c {
		return false
	}
	x.leaveS(key)
	if x.hots() < x.cmax() {
		x.top(key, 'h')
	} else {
		x.top(key, 'c')
		x.end(key)
	}
	x.prune()
	return true
}

func (x *plain) remove(key string) bool {
	if !x.has(key) {
		return false
	}
	x.leaveS(key)
	x.leaveQ(key)
	x.prune()
	return true
}

func (x *plain) evict() (string, bool) {
	if x.resident() == 0 {
		return "", false
	}
	if len(x.q) == 0 {
		x.chill()
	}
	key := x.q[0]
	x.leaveQ(key)
	if at := x.in(key); at >= 0 {
		x.s[at].what = 'g'
	}
	x.forget()
	return key, true
}

func (x *plain) keys() []string { return slices.Concat(x.q, x.of('h')) }

func (x *plain) state() string {
	words := []string{"S:"}
	for _, k := range x.s {
		words = append(words, k.key+"/"+string(rune(k.what)))
	}
	return strings.Join(words, " ") + ";" + strings.Join(append([]string{"Q:"}, x.q...), " ")
}

// bounds tells whether all that P13.5 says of the rows holds, and the word of Hot: so many may be cold.
func (x *plain) bounds() bool {
	return x.resident() <= x.c && x.hots() <= x.cmax() && len(x.q) <= x.forCold &&
		(len(x.s) == 0 || x.s[0].what == 'h') && len(x.of('g')) <= x.c
}

// shape is the letters of S, and for each key of Q whether it is in S: engines of one shape differ in the names of their keys alone.
func (x *plain) shape() string {
	text := []byte("S")
	for _, k := range x.s {
		text = append(text, k.what)
	}
	text = append(text, 'Q')
	for _, key := range x.q {
		if x.in(key) >= 0 {
			text = append(text, '1')
		} else {
			text = append(text, '0')
		}
	}
	return string(text)
}

// call is one call that may change an engine: + Access, = Load, - Remove, ! Evict.
type call struct {
	what byte
	key  string
}

func (c call) String() string { return fmt.Sprintf("%c%.40q", c.what, c.key) }

// calls is a script's words as calls: +a, =a, -a, !.
func calls(script string) []call {
	var all []call
	for _, word := range strings.Fields(script) {
		all = append(all, call{word[0], word[1:]})
	}
	return all
}

// told is what a call answered, as a word.
func told(yes bool, gone []string) string { return fmt.Sprintf("%v%q", yes, gone) }

// evicted is told of an Evict.
func evicted(key string, ok bool) string { return fmt.Sprintf("%v %q", ok, key) }

func onEngine(e *lirs.Engine, c call) string {
	switch c.what {
	case '+':
		return told(e.Access(c.key))
	case '=':
		return told(e.Load(c.key), nil)
	case '-':
		return told(e.Remove(c.key), nil)
	}
	return evicted(e.Evict())
}

func onPlain(x *plain, c call) string {
	switch c.what {
	case '+':
		return told(x.access(c.key))
	case '=':
		return told(x.load(c.key), nil)
	case '-':
		return told(x.remove(c.key), nil)
	}
	return evicted(x.evict())
}

// pair is an engine and the plain one, which are told of the same.
type pair struct {
	t *testing.T
	e *lirs.Engine
	m *plain
}

func newPair(t *testing.T, room int) *pair { return &pair{t, lirs.New(room), newPlain(room)} }

// does makes calls on both, and holds what is answered and all that can be asked against each other behind each.
func (x *pair) does(all ...call) {
	x.t.Helper()
	for _, c := range all {
		x.quick(c)
		x.same()
	}
}

// quick makes one call on both, and holds the answers and the states against each other, and the engine against the bounds of P13.5.
func (x *pair) quick(c call) {
	x.t.Helper()
	was := x.m.copied()
	if got, want := onEngine(x.e, c), onPlain(x.m, c); got != want {
		x.t.Fatalf("room %d, (%.400s), %v: %s, not %s", x.m.c, was.shape(), c, got, want)
	}
	if got, want := x.e.State(), x.m.state(); got != want {
		x.t.Fatalf("room %d, (%.400s), %v: State\n%.400q, not\n%.400q", x.m.c, was.shape(), c, got, want)
	}
	if c.what == '+' && !x.e.Has(c.key) {
		x.t.Fatalf("room %d, (%.400s), %v: not resident", x.m.c, was.shape(), c)
	}
	if !x.m.bounds() || x.e.Len() > x.e.Room() || len(x.e.Ghosts()) > x.e.Room() {
		x.t.Fatalf("room %d, (%.400s), %v: beyond the bounds", x.m.c, was.shape(), c)
	}
}

// same holds all that can be asked against the plain one, twice: to be asked changes nothing.
func (x *pair) same() {
	x.t.Helper()
	for range 2 {
		if got, want := x.e.State(), x.m.state(); got != want {
			x.t.Fatalf("room %d: State\n%.400q, not\n%.400q", x.m.c, got, want)
		}
		if got, want := x.e.Keys(), x.m.keys(); !slices.Equal(got, want) {
			x.t.Fatalf("room %d: Keys %.400q, not %.400q", x.m.c, got, want)
		}
		if got, want := x.e.Ghosts(), x.m.of('g'); !slices.Equal(got, want) {
			x.t.Fatalf("room %d: Ghosts %.400q, not %.400q", x.m.c, got, want)
		}
		if x.e.Len() != x.m.resident() || x.e.Room() != x.m.c {
			x.t.Fatalf("room %d: Len %d, Room %d", x.m.c, x.e.Len(), x.e.Room())
		}
	}
}

// has holds Has of each key of the rows, and of others, against the plain one, and that it changes nothing.
func (x *pair) has(others ...string) {
	x.t.Helper()
	for _, key := range append(x.m.known(), others...) {
		if got := x.e.Has(key); got != x.m.has(key) {
			x.t.Fatalf("room %d, %.400s: Has(%.40q): %v", x.m.c, x.m.state(), key, got)
		}
	}
	if got, want := x.e.State(), x.m.state(); got != want {
		x.t.Fatalf("room %d: State behind Has\n%.400q, not\n%.400q", x.m.c, got, want)
	}
}

// lots is numbers that look like any.
func lots(seed uint64) func(n int) int {
	return func(n int) int {
		seed = seed*6364136223846793005 + 1442695040888963407
		return int(seed >> 33 % uint64(n))
	}
}
