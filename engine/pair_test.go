package engine_test

import (
	"fmt"
	"slices"
	"strconv"
	"strings"
	"testing"

	"hoard/api"
	"hoard/arc"
	"hoard/engine"
	"hoard/lirs"
	"hoard/s3fifo"
	"hoard/tinylfu"
	"hoard/twoq"
)

// kinds is the five, told by their names; the numbers are those of package api.
var kinds = []struct {
	kind  int
	name  string
	empty string
}{
	{0, "arc", "T1:;T2:;B1:;B2:;p: 0"},
	{1, "lirs", "S:;Q:"},
	{2, "2q", "A1in:;A1out:;Am:"},
	{3, "tinylfu", "W:;A:;P:"},
	{4, "s3fifo", "S:;M:;G:"},
}

// noKinds is numbers that are no kinds; of some the low bytes are.
var noKinds = []int{
	-1, 5, 6, 7, 8, 9, 10, 100, 255, 256, 257, 260, 261, -2, -3, -4, -5, -255, -256,
	1 << 8, 1<<16 + 1, 1<<31 - 1, 1 << 31, 1<<31 + 2, 1 << 32, 1<<32 + 3, 1<<32 + 4, -1 << 31, -1 << 32, -1<<32 + 1, 1 << 40, 1 << 62, 1<<62 + 4,
	-1 << 62, maxInt - 4, maxInt - 1, maxInt, minInt, minInt + 1, minInt + 4,
}

const (
	maxInt = 1<<63 - 1
	minInt = -1 << 63
)

// chapter is an engine of a kind's own chapter, made there.
func chapter(kind, room int) engine.Engine {
	switch kind {
	case 0:
		return arc.New(room)
	case 1:
		return lirs.New(room)
	case 2:
		return twoq.New(room)
	case 3:
		return tinylfu.New(room)
	}
	return s3fifo.New(room)
}

// kindOf is the kind whose chapter an engine is of.
func kindOf(e engine.Engine) int {
	switch e.(type) {
	case *arc.Engine:
		return 0
	case *lirs.Engine:
		return 1
	case *twoq.Engine:
		return 2
	case *tinylfu.Engine:
		return 3
	case *s3fifo.Engine:
		return 4
	}
	return -1
}

// made is an engine by New.
func made(t *testing.T, kind, room int) engine.Engine {
	t.Helper()
	e, err := engine.New(kind, room)
	if err != api.OK || e == nil {
		t.Fatalf("New(%d, %d): %v, error %d", kind, room, e, err)
	}
	return e
}

// from is an engine by From.
func from(t *testing.T, kind, room int, keys ...string) engine.Engine {
	t.Helper()
	e, err := engine.From(kind, room, keys...)
	if err != api.OK || e == nil {
		t.Fatalf("From(%d, %d, %.200q): %v, error %d", kind, room, keys, e, err)
	}
	return e
}

// call is one call that may change an engine: + Access, = Load, - Remove, ! Evict.
type call struct {
	what byte
	key  string
}

func (c call) String() string { return fmt.Sprintf("%c%.40q", c.what, c.key) }

// calls is a script's words as calls: +a, =a, -a, !.
func calls(script string) []call {
	var all []call
	for _, word := range strings.Fields(script) {
		all = append(all, call{word[0], word[1:]})
	}
	return all
}

// do makes a call: what it answered, as a word.
func do(e engine.Engine, c call) string {
	switch c.what {
	case '+':
		hit, gone := e.Access(c.key)
		return fmt.Sprintf("%v%q", hit, gone)
	case '=':
		return fmt.Sprint(e.Load(c.key))
	case '-':
		return fmt.Sprint(e.Remove(c.key))
	}
	key, ok := e.Evict()
	return fmt.Sprintf("%v %q", ok, key)
}

// pair is an engine and one of its own chapter, which are told of the same.
type pair struct {
	t    *testing.T
	what string
	e    engine.Engine
	own  engine.Engine
}

func newPair(t *testing.T, kind, room int) *pair {
	t.Helper()
	return &pair{t, fmt.Sprintf("kind %d, room %d", kind, room), made(t, kind, room), chapter(kind, room)}
}

// fromPair is a pair with keys, which the engine of the chapter is told of one by one.
func fromPair(t *testing.T, kind, room int, keys ...string) *pair {
	t.Helper()
	x := &pair{t, fmt.Sprintf("kind %d, room %d, from %d keys, %.40q", kind, room, len(keys), keys[:min(len(keys), 8)]), from(t, kind, room, keys...), chapter(kind, room)}
	for _, key := range keys {
		x.own.Load(key)
	}
	return x
}

// does makes calls on both, and holds what is answered, and all that can be asked behind each, against each other.
func (x *pair) does(all ...call) {
	x.t.Helper()
	for _, c := range all {
		x.quick(c)
		x.same(c.key)
	}
}

// quick makes one call on both, and holds the answers against each other.
func (x *pair) quick(c call) {
	x.t.Helper()
	if got, want := do(x.e, c), do(x.own, c); got != want {
		x.t.Fatalf("%s, %v: %s, not %s", x.what, c, got, want)
	}
}

// same holds all that can be asked against each other, Has of each key that is resident, of each ghost, and of others.
func (x *pair) same(others ...string) {
	x.t.Helper()
	if got, want := x.e.State(), x.own.State(); got != want {
		x.t.Fatalf("%s: State\n%.400q, not\n%.400q", x.what, got, want)
	}
	keys, ghosts := x.own.Keys(), x.own.Ghosts()
	if got := x.e.Keys(); !slices.Equal(got, keys) {
		x.t.Fatalf("%s: Keys %.400q, not %.400q", x.what, got, keys)
	}
	if got := x.e.Ghosts(); !slices.Equal(got, ghosts) {
		x.t.Fatalf("%s: Ghosts %.400q, not %.400q", x.what, got, ghosts)
	}
	if got, want := x.e.Len(), len(keys); got != want || got != x.own.Len() {
		x.t.Fatalf("%s: Len %d, not %d", x.what, got, want)
	}
	if got, want := x.e.Room(), x.own.Room(); got != want {
		x.t.Fatalf("%s: Room %d, not %d", x.what, got, want)
	}
	for _, list := range [][]string{keys, ghosts, others} {
		for _, key := range list {
			if got, want := x.e.Has(key), x.own.Has(key); got != want {
				x.t.Fatalf("%s, %.400q: Has(%.40q): %v", x.what, x.e.State(), key, got)
			}
		}
	}
}

// lots is numbers that look like any.
func lots(seed uint64) func(n int) int {
	return func(n int) int {
		seed = seed*6364136223846793005 + 1442695040888963407
		return int(seed >> 33 % uint64(n))
	}
}

// numbered is so many keys: a name and 0, 1, 2 and so on.
func numbered(name string, n int) []string {
	keys := make([]string, n)
	for i := range keys {
		keys[i] = name + strconv.Itoa(i)
	}
	return keys
}

// anyKeys is keys of many kinds: the empty one, alike ones, long ones, ones with any bytes.
func anyKeys() []string {
	bytes := make([]byte, 512)
	for i := range bytes {
		bytes[i] = byte(i)
	}
	long := strings.Repeat("long", 300)
	return []string{
		"", " ", "  ", ";", ":", "T1:", ";Q:", ";p: 0", "A1in:", "/0", "/h", "a ", " a", "a b c", "\x00", "\x00\x00", "\n", "a", "b", "aa", "ab", "a b", "a;b", "a:b",
		"alike0", "alike1", "alike2", "alike", long, long + "0", long + "1", long[1:], "0" + long,
		string(bytes), string(bytes[:256]), string(bytes[1:]), "\xff", "\xff\xfe", "\x80", "é", "e\u0301", "日本", "\U0010ffff",
	}
}
