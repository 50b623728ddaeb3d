package ghost_test

import (
	"fmt"
	"math"
	"runtime"
	"slices"
	"strconv"
	"strings"
	"testing"
	"unsafe"
	"weak"

	"hoard/api"
	"hoard/ghost"
)

// scripted is a script, what its last call answers, and all keys behind it, the oldest first.
type scripted struct {
	room                 int
	script, answer, keys string
}

// said is what the last call of a script answered: yes or no, and what went.
func said(g *ghost.Ghost, script string) string {
	answer := ""
	for _, c := range calls(script) {
		key, yes := "", false
		switch c.what {
		case '+':
			key, yes = g.Add(c.key)
		case '-':
			yes = g.Take(c.key)
		default:
			yes = g.Has(c.key)
		}
		answer = strings.TrimSpace(map[bool]string{true: "yes ", false: "no "}[yes] + key)
	}
	return answer
}

func run(t *testing.T, all ...scripted) {
	t.Helper()
	for _, s := range all {
		g := ghost.New(s.room)
		if got := said(g, s.script); got != s.answer {
			t.Errorf("room %d, %s: %q, not %q", s.room, s.script, got, s.answer)
		}
		keys := strings.Fields(s.keys)
		if got := g.Keys(); !slices.Equal(got, keys) || g.Len() != len(keys) {
			t.Errorf("room %d, %s: %q, %d of them, not %q", s.room, s.script, got, g.Len(), keys)
		}
		for _, key := range strings.Fields("a b c d e f g h x y z") {
			if got := g.Has(key); got != slices.Contains(keys, key) {
				t.Errorf("room %d, %s: Has(%s): %v", s.room, s.script, key, got)
			}
		}
		newPair(t, s.room).does(calls(s.script)...)
	}
}

// numbered is so many keys: a name and 0, 1, 2 and so on.
func numbered(name string, n int) []string {
	keys := make([]string, n)
	for i := range keys {
		keys[i] = name + strconv.Itoa(i)
	}
	return keys
}

func TestExample(t *testing.T) {
	g := ghost.New(2)
	for _, key := range []string{"a", "b", "a", "c"} {
		g.Add(key)
	}
	if got := strings.Join(g.Keys(), " "); got != "a c" {
		t.Error(got)
	}
}

// P16.1: the room is held within 1 and MaxRoom: so many are there, and by the next one the oldest goes.
func TestRooms(t *testing.T) {
	for _, x := range []struct{ room, want int }{
		{math.MinInt, 1}, {math.MinInt + 1, 1}, {-(1 << 62), 1}, {-(1 << 32) + 5, 1}, {-(1 << 32), 1}, {-1025, 1}, {-1024, 1}, {-10, 1}, {-2, 1}, {-1, 1}, {0, 1},
		{1, 1}, {2, 2}, {3, 3}, {4, 4}, {5, 5}, {7, 7}, {8, 8}, {9, 9}, {10, 10}, {11, 11}, {255, 255}, {256, 256}, {257, 257},
		{1022, 1022}, {1023, 1023}, {1024, 1024}, {1025, 1024}, {1026, 1024}, {2048, 1024}, {4096, 1024},
		{1 << 16, 1024}, {1<<31 - 1, 1024}, {1 << 31, 1024}, {1 << 32, 1024}, {1<<32 + 5, 1024}, {1 << 62, 1024}, {math.MaxInt - 1, 1024}, {math.MaxInt, 1024},
	} {
		g := ghost.New(x.room)
		if g == nil || g.Len() != 0 || len(g.Keys()) != 0 {
			t.Fatalf("New(%d): %q", x.room, g.Keys())
		}
		keys := numbered("k", 2*x.want+1)
		for i, key := range keys {
			gone, ok := g.Add(key)
			if i < x.want && (gone != "" || ok) || i >= x.want && (gone != keys[i-x.want] || !ok) {
				t.Fatalf("New(%d), key %d: %q %v", x.room, i, gone, ok)
			}
			if got := g.Len(); got != min(i+1, x.want) {
				t.Fatalf("New(%d): %d are there behind key %d", x.room, got, i)
			}
		}
		if got := g.Keys(); !slices.Equal(got, keys[len(keys)-x.want:]) {
			t.Errorf("New(%d): %.400q", x.room, got)
		}
	}
	if api.MaxRoom != 1024 {
		t.Error("the test's own words")
	}
}

// P16.1: an Add of a key that is not there: with room nobody goes, without the oldest does.
func TestAddOfNew(t *testing.T) {
	run(t,
		scripted{1, "+a", "no", "a"},
		scripted{2, "+a", "no", "a"},
		scripted{2, "+a +b", "no", "a b"},
		scripted{10, "+a +b +c", "no", "a b c"},
		scripted{10, "+c +b +a", "no", "c b a"},
		scripted{1, "+a +b", "yes a", "b"},
		scripted{1, "+a +b +c", "yes b", "c"},
		scripted{2, "+a +b +c", "yes a", "b c"},
		scripted{2, "+a +b +c +d", "yes b", "c d"},
		scripted{3, "+a +b +c +d", "yes a", "b c d"},
		scripted{3, "+c +b +a +d", "yes c", "b a d"},
		scripted{0, "+a +b", "yes a", "b"},
		scripted{-7, "+a +b", "yes a", "b"},
	)
}

// P16.1: an Add of a key that is there: it becomes the newest, and nobody goes.
func TestAddAgain(t *testing.T) {
	run(t,
		// The oldest, one between, the newest, with room.
		scripted{4, "+a +b +c +a", "no", "b c a"},
		scripted{4, "+a +b +c +b", "no", "a c b"},
		scripted{4, "+a +b +c +c", "no", "a b c"},
		scripted{4, "+a +a", "no", "a"},
		// Without.
		scripted{3, "+a +b +c +a", "no", "b c a"},
		scripted{3, "+a +b +c +b", "no", "a c b"},
		scripted{3, "+a +b +c +c", "no", "a b c"},
		scripted{2, "+a +b +a", "no", "b a"},
		scripted{2, "+a +b +b", "no", "a b"},
		scripted{1, "+a +a", "no", "a"},
		scripted{1, "+a +a +a", "no", "a"},
		// Again and again.
		scripted{3, "+a +b +c +a +b +c", "no", "a b c"},
		scripted{3, "+a +b +c +c +b +a", "no", "c b a"},
		scripted{3, "+a +b +c +a +a +b +a", "no", "c b a"},
		// Who goes then is the one that is the oldest now.
		scripted{3, "+a +b +c +a +d", "yes b", "c a d"},
		scripted{3, "+a +b +c +b +d", "yes a", "c b d"},
		scripted{3, "+a +b +c +c +d", "yes a", "b c d"},
		scripted{3, "+a +b +c +a +b +d", "yes c", "a b d"},
		scripted{2, "+a +b +a +c", "yes b", "a c"},
		scripted{1, "+a +a +b", "yes a", "b"},
	)
}

// P16.1: a Take of a key that is there: it goes, the others stay in their order.
func TestTake(t *testing.T) {
	run(t,
		scripted{4, "+a +b +c -a", "yes", "b c"},
		scripted{4, "+a +b +c -b", "yes", "a c"},
		scripted{4, "+a +b +c -c", "yes", "a b"},
		scripted{3, "+a +b +c -a", "yes", "b c"},
		scripted{3, "+a +b +c -b", "yes", "a c"},
		scripted{3, "+a +b +c -c", "yes", "a b"},
		scripted{1, "+a -a", "yes", ""},
		scripted{2, "+a +b +a -a", "yes", "b"},
		scripted{2, "+a +b +a -b", "yes", "a"},
		scripted{3, "+a +b +c -b -a -c", "yes", ""},
		// Their places are free.
		scripted{3, "+a +b +c -b +d", "no", "a c d"},
		scripted{3, "+a +b +c -b +d +e", "yes a", "c d e"},
		scripted{3, "+a +b +c -a +d +e", "yes b", "c d e"},
		scripted{1, "+a -a +b", "no", "b"},
		scripted{1, "+a -a +b +c", "yes b", "c"},
	)
}

// P16.1: a Take of a key that is not there: false, and nothing changes.
func TestTakeOfNone(t *testing.T) {
	run(t,
		scripted{3, "-a", "no", ""},
		scripted{3, "+a +b -x", "no", "a b"},
		scripted{3, "+a +b +c -x", "no", "a b c"},
		scripted{1, "+a -x", "no", "a"},
		// Twice.
		scripted{3, "+a +b +c -a -a", "no", "b c"},
		scripted{3, "+a +b +c -b -b", "no", "a c"},
		scripted{3, "+a +b +c -c -c", "no", "a b"},
		scripted{3, "+a -a -a -a", "no", ""},
		scripted{3, "+a +a -a -a", "no", ""},
		// One that went.
		scripted{2, "+a +b +c -a", "no", "b c"},
		scripted{1, "+a +b -a", "no", "b"},
	)
}

// P16.1: an Add of a key that was taken, or that went, is one of a key that is not there.
func TestAddOfGone(t *testing.T) {
	run(t,
		scripted{3, "+a +b +c -a +a", "no", "b c a"},
		scripted{3, "+a +b +c -b +b", "no", "a c b"},
		scripted{3, "+a +b +c -c +c", "no", "a b c"},
		scripted{3, "+a +b +c -b +d +b", "yes a", "c d b"},
		scripted{1, "+a -a +a", "no", "a"},
		scripted{1, "+a -a +a -a +a", "no", "a"},
		scripted{1, "+a +b +a", "yes b", "a"},
		scripted{1, "+a +b +a +b", "yes a", "b"},
		scripted{2, "+a +b +c +a", "yes b", "c a"},
		scripted{2, "+a +b +c +a +b", "yes c", "a b"},
		scripted{3, "+a +b +c +d +a", "yes b", "c d a"},
		scripted{3, "+a +b +c +d -c +a", "no", "b d a"},
	)
}

// P16.1: a Has tells whether a key is there, and changes nothing.
func TestHas(t *testing.T) {
	run(t,
		scripted{3, "?a", "no", ""},
		scripted{3, "+a +b +c ?a", "yes", "a b c"},
		scripted{3, "+a +b +c ?b", "yes", "a b c"},
		scripted{3, "+a +b +c ?c", "yes", "a b c"},
		scripted{3, "+a +b +c ?x", "no", "a b c"},
		scripted{3, "+a +b +c ?a +d", "yes a", "b c d"},
		scripted{3, "+a +b +c +d ?a", "no", "b c d"},
		scripted{3, "+a +b +c -b ?b", "no", "a c"},
		scripted{3, "+a +b +c -b +b ?b", "yes", "a c b"},
		scripted{1, "+a +b ?a", "no", "b"},
	)
}

// P16.1: nothing Added at all: nobody is there, and nothing can be taken.
func TestNothingAdded(t *testing.T) {
	for _, room := range []int{math.MinInt, -1, 0, 1, 2, 10, api.MaxRoom, api.MaxRoom + 1, math.MaxInt} {
		x := newPair(t, room)
		x.same(anyKeys()...)
		for _, key := range anyKeys() {
			x.does(call{'-', key}, call{'?', key})
		}
		if x.g.Len() != 0 || len(x.g.Keys()) != 0 {
			t.Errorf("room %d: %q", room, x.g.Keys())
		}
		x.does(calls("+a +a -a -a")...)
	}
}

// P16.1, P16.2: in small rooms each call on each key, at each number of keys that may be there, and then the order in which all go.
func TestEachPlace(t *testing.T) {
	for room := 1; room <= 12; room++ {
		for n := range room + 1 {
			for at := range n + 1 {
				for _, what := range []byte("+-?") {
					x := newPair(t, room)
					for _, key := range numbered("k", n) {
						x.does(call{'+', key})
					}
					// The last one of these keys is not there.
					key := "k" + strconv.Itoa(at)
					x.does(call{what, key})
					for _, other := range numbered("other", room) {
						x.does(call{'+', other})
					}
					x.does(call{'+', key}, call{'-', key}, call{'-', key})
				}
			}
		}
	}
}

// P16.1, P16.2: all short rows of calls on few keys.
func TestAllShortRows(t *testing.T) {
	all := calls("+a +b +c +d -a -b -c")
	for room := 1; room <= 3; room++ {
		rows := 1
		for length := 1; length <= 6; length++ {
			rows *= len(all)
			for n := range rows {
				shortRow(t, room, all, n, length)
			}
		}
	}
}

// shortRow makes the n-th row of so many calls, and looks at what is told behind the last one.
func shortRow(t *testing.T, room int, all []call, n, length int) {
	t.Helper()
	x := newPair(t, room)
	for k := n; length > 0; k /= len(all) {
		x.quick(all[k%len(all)])
		length--
	}
	if got := x.g.Keys(); !slices.Equal(got, x.m.keys) {
		t.Fatalf("room %d, row %d: %q, not %q", room, n, got, x.m.keys)
	}
}

// anyKeys is keys of many kinds: the empty one, alike ones, long ones, ones with any bytes.
func anyKeys() []string {
	bytes := make([]byte, 512)
	for i := range bytes {
		bytes[i] = byte(i)
	}
	long := strings.Repeat("long", 300)
	return []string{
		"", " ", "  ", ";", ":", "0", "1", "-1", "a ", " a", "\x00", "\x00\x00", "\x00a", "a\x00", "\n", "a", "b", "aa", "ab", "a b", "a;b", "A",
		"alike0", "alike1", "alike2", "alike", long, long + "0", long + "1", long[1:], "0" + long,
		string(bytes), string(bytes[:256]), string(bytes[1:]), "\xff", "\xff\xfe", "\x80", "é", "e\u0301", "日本", "\U0010ffff",
	}
}

// P16.1, P16.2: long rows of all calls in whatever order, over few keys and over many.
func TestLongRows(t *testing.T) {
	for room := 1; room <= 24; room++ {
		for _, n := range []int{1, room, room + 1, 3*room + 1} {
			mixed(t, room, numbered("k", n), 2000)
		}
	}
	for _, room := range []int{-1, 0, 1, 2, 3, 5, 10, 13, 17, 30, 41, 50} {
		mixed(t, room, anyKeys(), 3000)
	}
	for _, room := range []int{100, api.MaxRoom, math.MaxInt} {
		mixed(t, room, numbered("k", min(room, api.MaxRoom)/2), 6000)
		mixed(t, room, numbered("k", 3*min(room, api.MaxRoom)), 20000)
	}
}

// mixed makes calls, mostly Adds, of some of the keys more often than of others, with times of many Takes.
func mixed(t *testing.T, room int, keys []string, n int) {
	t.Helper()
	x := newPair(t, room)
	pick := lots(uint64(room + len(keys)))
	for i := range n {
		among := len(keys)
		if pick(3) == 0 {
			among = len(keys)/3 + 1
		}
		c := call{'+', keys[pick(among)]}
		if lot := pick(20); lot < 3 || i/500%4 == 3 && lot < 12 {
			c.what = '-'
		} else if lot == 19 {
			c.what = '?'
		}
		x.quick(c)
		if len(keys) < 200 || i%100 == 0 {
			x.same(c.key)
		}
	}
	x.same(keys...)
}

// P16.1, P16.2: very many keys go through a Ghost, each goes in its turn, and few steps are needed for each.
func TestManyKeys(t *testing.T) {
	for _, room := range []int{1, 2, 10, api.MaxRoom} {
		g := ghost.New(room)
		for i := range 1 << 18 {
			want := ""
			if i >= room {
				want = strconv.Itoa(i - room)
			}
			if key, ok := g.Add(strconv.Itoa(i)); key != want || ok != (i >= room) {
				t.Fatalf("room %d, key %d: %q %v", room, i, key, ok)
			}
		}
		if g.Len() != room {
			t.Errorf("room %d: %d are there", room, g.Len())
		}
	}
}

// P16.1: the empty text is a key as any other one.
func TestEmptyText(t *testing.T) {
	g := ghost.New(2)
	if g.Has("") || g.Take("") || g.Len() != 0 {
		t.Error("it is there before it was Added")
	}
	if key, ok := g.Add(""); key != "" || ok || !g.Has("") || g.Len() != 1 || !slices.Equal(g.Keys(), []string{""}) {
		t.Errorf("%q %v %q", key, ok, g.Keys())
	}
	if key, ok := g.Add(""); key != "" || ok || g.Len() != 1 {
		t.Errorf("%q %v %q", key, ok, g.Keys())
	}
	if key, ok := g.Add("a"); key != "" || ok || !slices.Equal(g.Keys(), []string{"", "a"}) {
		t.Errorf("%q %v %q", key, ok, g.Keys())
	}
	// It went: told by true alone.
	if key, ok := g.Add("b"); key != "" || !ok || g.Has("") || !slices.Equal(g.Keys(), []string{"a", "b"}) {
		t.Errorf("%q %v %q", key, ok, g.Keys())
	}
	if key, ok := g.Add(""); key != "a" || !ok || !g.Has("") || !slices.Equal(g.Keys(), []string{"b", ""}) {
		t.Errorf("%q %v %q", key, ok, g.Keys())
	}
	if !g.Take("") || g.Take("") || g.Has("") || !slices.Equal(g.Keys(), []string{"b"}) {
		t.Errorf("%q", g.Keys())
	}
}

// P16.1: keys with any bytes are told as they are, and only they are there.
func TestAnyBytes(t *testing.T) {
	for _, key := range anyKeys() {
		g := ghost.New(1)
		g.Add(key)
		if got := g.Keys(); len(got) != 1 || got[0] != key {
			t.Errorf("Keys %.80q, not %.80q", got, key)
		}
		for _, other := range anyKeys() {
			if got := g.Has(other); got != (other == key) {
				t.Errorf("%.80q: Has(%.80q): %v", key, other, got)
			}
			if other != key && g.Take(other) {
				t.Errorf("%.80q: Take(%.80q)", key, other)
			}
		}
		if got, ok := g.Add("another one"); got != key || !ok {
			t.Errorf("%.80q went, not %.80q", got, key)
		}
		if g.Has(key) || g.Take(key) || !g.Take("another one") {
			t.Errorf("%.80q is there still", key)
		}
		g.Add(key)
		if !g.Take(key) || g.Len() != 0 {
			t.Errorf("%.80q can't be taken", key)
		}
	}
}

// fresh is a text of the test's own, which may be written over.
func fresh(text string) string { return strings.Clone(text) }

// blot writes over a text's bytes.
func blot(text string) {
	for i := range len(text) {
		unsafe.Slice(unsafe.StringData(text), len(text))[i] = '#'
	}
}

// blotAll writes over the texts, then over the list with all of its spare room.
func blotAll(list []string) {
	for _, text := range list {
		blot(text)
	}
	list = list[:cap(list)]
	for i := range list {
		list[i] = "###"
	}
}

// P16.2, W6: what is answered is new memory, and what was handed in is not kept: written over, lists, their spare room and texts, it changes nothing.
func TestWrittenOver(t *testing.T) {
	x := newPair(t, 5)
	pick := lots(7)
	for range 4000 {
		name := "key" + strconv.Itoa(pick(12))
		key := fresh(name)
		switch pick(8) {
		case 0:
			if got, want := x.g.Take(key), x.m.take(name); got != want {
				t.Fatalf("Take(%s): %v", name, got)
			}
		case 1:
			x.g.Has(key)
		default:
			got, ok := x.g.Add(key)
			want, goes := x.m.add(name)
			if got != want || ok != goes {
				t.Fatalf("Add(%s): %q %v, not %q %v", name, got, ok, want, goes)
			}
			blot(got)
		}
		if key != name {
			t.Fatalf("%s was handed in, %s is there", name, key)
		}
		blot(key)
		x.same(name)
		blotAll(x.g.Keys())
		x.same(name)
	}
}

// W7: what was answered stays what it is, whatever is called later.
func TestAnswersStay(t *testing.T) {
	g := ghost.New(6)
	pick := lots(11)
	var held [][]string
	var copies []string
	keep := func(list ...string) {
		held = append(held, list)
		copies = append(copies, fmt.Sprintf("%q", list))
	}
	for range 2000 {
		key, _ := g.Add("k" + strconv.Itoa(pick(15)))
		keep(key)
		keep(g.Keys()...)
		if pick(4) == 0 {
			g.Take("k" + strconv.Itoa(pick(15)))
		}
	}
	for i, list := range held {
		if got := fmt.Sprintf("%q", list); got != copies[i] {
			t.Fatalf("answer %d: %s, not %s", i, got, copies[i])
		}
	}
}

// W6: no two answers share a text, nor does one share it with what was handed in; no two lists share their room.
func TestTextsAreNew(t *testing.T) {
	g := ghost.New(4)
	seen := map[*byte]bool{}
	lists := map[*string]bool{}
	var all []any
	note := func(texts ...string) {
		for _, text := range texts {
			if text == "" {
				continue
			}
			all = append(all, text)
			if seen[unsafe.StringData(text)] {
				t.Fatalf("%q was answered before", text)
			}
			seen[unsafe.StringData(text)] = true
		}
	}
	noteList := func(list []string) {
		note(list...)
		all = append(all, list)
		if lists[unsafe.SliceData(list)] {
			t.Fatalf("the list %q was answered before", list)
		}
		lists[unsafe.SliceData(list)] = true
	}
	pick := lots(3)
	for range 500 {
		key := fresh("key" + strconv.Itoa(pick(9)))
		gone, _ := g.Add(key)
		note(key, gone)
		noteList(g.Keys())
		noteList(g.Keys())
		if pick(5) == 0 {
			g.Take(key)
			g.Add("always")
		}
	}
	runtime.KeepAlive(all)
}

// W6: the long text of which keys are pieces is free while the Ghost lives on.
func TestHandedInIsNotKept(t *testing.T) {
	g := ghost.New(4)
	long := strings.Repeat("key", 1<<16)
	weakly := weak.Make(unsafe.StringData(long))
	for i := range 9 {
		g.Add(long[i : 2*i])
		g.Add(long[i : 2*i])
		g.Add(long[i : 3*i])
		g.Has(long[i:])
		g.Take(long[i : 2*i+1])
		g.Take(long[i : 3*i])
		g.Add(long[i : i+5])
	}
	long = ""
	runtime.GC()
	if weakly.Value() != nil {
		t.Error("the long text is still held")
	}
	if g.Len() == 0 {
		t.Error("nothing is there")
	}
}

// P16.1: keys that went, or were taken, are held no more.
func TestGoneIsNotHeld(t *testing.T) {
	const size = 1 << 22
	g := ghost.New(2)
	long := func(i int) string { return strings.Repeat(strconv.Itoa(i), size) }
	before := heap()
	for i := range 8 {
		g.Add(long(i))
	}
	g.Add("a")
	g.Add("b")
	if after := heap(); after > before+size/2 {
		t.Errorf("of those that went %d bytes are held, %d before", after, before)
	}
	g.Add(long(8))
	g.Add(long(9))
	g.Take(long(9))
	g.Take(long(8))
	if after := heap(); after > before+size/2 {
		t.Errorf("of those that were taken %d bytes are held, %d before", after, before)
	}
	if g.Len() != 0 {
		t.Errorf("%d are there", g.Len())
	}
}

// P16.1: what a Ghost holds does not grow with the number of keys that went through it.
func TestHoldsNoMore(t *testing.T) {
	g := ghost.New(10)
	before := heap()
	for i := range 1 << 17 {
		g.Add("key" + strconv.Itoa(i))
		g.Take("key" + strconv.Itoa(i-i%7))
	}
	if after := heap(); after > before+1<<19 {
		t.Errorf("%d bytes are held, %d before", after, before)
	}
	runtime.KeepAlive(g)
}

func heap() uint64 {
	runtime.GC()
	var m runtime.MemStats
	runtime.ReadMemStats(&m)
	return m.HeapAlloc
}

// W2: two Ghosts do not meet, and what is told hangs on the calls alone.
func TestTwoGhosts(t *testing.T) {
	x, y, z := newPair(t, 3), newPair(t, 3), newPair(t, 7)
	pick := lots(5)
	for range 3000 {
		c := call{"+++++--?"[pick(8)], "k" + strconv.Itoa(pick(10))}
		switch pick(3) {
		case 0:
			x.does(c)
		case 1:
			y.does(c)
		default:
			z.does(c)
		}
		x.same(c.key)
		y.same(c.key)
		z.same(c.key)
	}
}

// W2: the same calls on a new Ghost are answered the same.
func TestSameAgain(t *testing.T) {
	told := func() string {
		g := ghost.New(10)
		pick := lots(9)
		answers := ""
		for range 500 {
			c := call{"+++-"[pick(4)], "k" + strconv.Itoa(pick(20))}
			answers += onGhost(g, c) + fmt.Sprint(g.Keys(), g.Len())
		}
		return answers
	}
	first := told()
	for range 5 {
		if told() != first {
			t.Fatal("another time it was told otherwise")
		}
	}
}

// P16.2, W8: a nil Ghost has none, and takes none.
func TestNilGhost(t *testing.T) {
	var g *ghost.Ghost
	hasNone(t, g)
	if g != nil {
		t.Error("nil no more")
	}
}

// W1: so does one that New did not make.
func TestZeroGhost(t *testing.T) { hasNone(t, new(ghost.Ghost)) }

func hasNone(t *testing.T, g *ghost.Ghost) {
	t.Helper()
	for range 2 {
		for _, key := range anyKeys() {
			if gone, ok := g.Add(key); gone != "" || ok {
				t.Errorf("Add(%.40q): %q %v", key, gone, ok)
			}
			if g.Has(key) || g.Take(key) {
				t.Errorf("%.40q is there", key)
			}
			if g.Len() != 0 || len(g.Keys()) != 0 {
				t.Errorf("%d are there, %q", g.Len(), g.Keys())
			}
		}
	}
}

// W8: of a Ghost and its copy one may be used.
func TestCopied(t *testing.T) {
	x := newPair(t, 3)
	x.does(calls("+a +b +c +a")...)
	g := *x.g
	x.g = &g
	x.same("a", "b", "c", "d")
	x.does(calls("+d +b -a +e +f +f -d +a")...)
}
