package shadow_test

import (
	"fmt"
	"slices"
	"strconv"
	"strings"
	"testing"

	"hoard/api"
	"hoard/engine"
	"hoard/shadow"
)

// kinds is the five, each with the State of one that nobody is in; the numbers are those of package api.
var kinds = []struct {
	kind  int
	empty string
}{
	{0, "T1:;T2:;B1:;B2:;p: 0"},
	{1, "S:;Q:"},
	{2, "A1in:;A1out:;Am:"},
	{3, "W:;A:;P:"},
	{4, "S:;M:;G:"},
}

const (
	maxInt = 1<<63 - 1
	minInt = -1 << 63
)

// made is a Shadow by New.
func made(t *testing.T, kind, room int) *shadow.Shadow {
	t.Helper()
	s, err := shadow.New(kind, room)
	if err != api.OK || s == nil {
		t.Fatalf("New(%d, %d): %v, error %d", kind, room, s, err)
	}
	return s
}

// plain is the document's words on a Shadow: an engine that is folded over the keys, a plain list of texts for its Ghost, the oldest first, and counts.
type plain struct {
	kind, room   int
	keys         engine.Engine
	went         []string
	epoch, total [3]int
}

func newPlain(t *testing.T, kind, room int) *plain {
	t.Helper()
	keys, err := engine.New(kind, room)
	if err != api.OK {
		t.Fatalf("an engine of kind %d: error %d", kind, err)
	}
	return &plain{kind: kind, room: keys.Room(), keys: keys}
}

// take takes a key out of the list, if it is there: whether it was.
func (m *plain) take(key string) bool {
	at := slices.Index(m.went, key)
	if at >= 0 {
		m.went = slices.Delete(m.went, at, at+1)
	}
	return at >= 0
}

func (m *plain) add(key string) {
	m.take(key)
	m.went = append(m.went, key)
	if len(m.went) > m.room {
		m.went = slices.Delete(m.went, 0, 1)
	}
}

func (m *plain) access(key string) bool {
	hit, gone := m.keys.Access(key)
	counted := [3]int{1, 0, 0}
	if hit {
		counted[1] = 1
	} else if m.take(key) {
		counted[2] = 1
	}
	for i, one := range counted {
		m.epoch[i] += one
		m.total[i] += one
	}
	for _, other := range gone {
		m.add(other)
	}
	return hit
}

func (m *plain) endEpoch() [3]int {
	counts := m.epoch
	m.epoch = [3]int{}
	return counts
}

// three is counts as the plain one has them.
func three(c shadow.Counts) [3]int { return [3]int{c.All, c.Hits, c.Ghosts} }

// call is one call that may change a Shadow: + Access, ! Epoch.
type call struct {
	what byte
	key  string
}

func (c call) String() string { return fmt.Sprintf("%c%.40q", c.what, c.key) }

// calls is a script's words as calls: the word ! is an Epoch, each other word an Access of it.
func calls(script string) []call {
	var all []call
	for _, word := range strings.Fields(script) {
		if word == "!" {
			all = append(all, call{what: '!'})
		} else {
			all = append(all, call{'+', word})
		}
	}
	return all
}

// pair is a Shadow and the plain one, which are told of the same.
type pair struct {
	t    *testing.T
	what string
	s    *shadow.Shadow
	m    *plain
	// ended is the counts of all epochs that ended, together.
	ended [3]int
}

func newPair(t *testing.T, kind, room int) *pair {
	t.Helper()
	return &pair{t: t, what: fmt.Sprintf("kind %d, room %d", kind, room), s: made(t, kind, room), m: newPlain(t, kind, room)}
}

// does makes calls on both, and holds what is answered and all that can be asked against each other behind each.
func (x *pair) does(all ...call) {
	x.t.Helper()
	for _, c := range all {
		x.quick(c)
		x.same()
	}
}

// quick makes one call on both, and holds the answers and the counts in all against each other.
func (x *pair) quick(c call) {
	x.t.Helper()
	if c.what == '!' {
		x.epoch()
	} else if got, want := x.s.Access(c.key), x.m.access(c.key); got != want {
		x.t.Fatalf("%s, %v: %v", x.what, c, got)
	}
	if got := three(x.s.Total()); got != x.m.total {
		x.t.Fatalf("%s, %v: Total %d, not %d", x.what, c, got, x.m.total)
	}
}

// epoch ends one, and holds its counts against the plain one's, and the counts of all epochs together against those in all.
func (x *pair) epoch() {
	x.t.Helper()
	got, want := three(x.s.Epoch()), x.m.endEpoch()
	if got != want {
		x.t.Fatalf("%s: Epoch %d, not %d", x.what, got, want)
	}
	for i := range got {
		x.ended[i] += got[i]
	}
	if got := three(x.s.Total()); got != x.ended {
		x.t.Fatalf("%s: Total %d, of the epochs %d", x.what, got, x.ended)
	}
}

// same holds all that can be asked and changes nothing against the plain one, twice.
func (x *pair) same() {
	x.t.Helper()
	for range 2 {
		if got, want := x.s.State(), x.m.keys.State(); got != want {
			x.t.Fatalf("%s: State\n%.400q, not\n%.400q", x.what, got, want)
		}
		if got := x.s.History(); !slices.Equal(got, x.m.went) {
			x.t.Fatalf("%s: History %.400q, not %.400q", x.what, got, x.m.went)
		}
		if got := three(x.s.Total()); got != x.m.total {
			x.t.Fatalf("%s: Total %d, not %d", x.what, got, x.m.total)
		}
		if got := x.s.Kind(); got != x.m.kind {
			x.t.Fatalf("%s: Kind %d", x.what, got)
		}
	}
}

// lots is numbers that look like any.
func lots(seed uint64) func(n int) int {
	return func(n int) int {
		seed = seed*6364136223846793005 + 1442695040888963407
		return int(seed >> 33 % uint64(n))
	}
}

// numbered is so many keys: a name and 0, 1, 2 and so on.
func numbered(name string, n int) []string {
	keys := make([]string, n)
	for i := range keys {
		keys[i] = name + strconv.Itoa(i)
	}
	return keys
}

// anyKeys is keys of many kinds: the empty one, alike ones, long ones, ones with any bytes.
func anyKeys() []string {
	bytes := make([]byte, 512)
	for i := range bytes {
		bytes[i] = byte(i)
	}
	long := strings.Repeat("long", 300)
	return []string{
		"", " ", "  ", ";", ":", "!", "T1:", ";Q:", ";p: 0", "A1in:", "/0", "/h", "a ", " a", "a b c", "\x00", "\x00\x00", "\n", "a", "b", "aa", "ab", "a b", "a;b", "a:b",
		"alike0", "alike1", "alike2", "alike", long, long + "0", long + "1", long[1:], "0" + long,
		string(bytes), string(bytes[:256]), string(bytes[1:]), "\xff", "\xff\xfe", "\x80", "é", "e\u0301", "日本", "\U0010ffff",
	}
}
