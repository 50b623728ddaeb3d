package index_test

import (
	"maps"
	"math"
	"runtime"
	"slices"
	"strconv"
	"strings"
	"testing"
	"unsafe"
	"weak"

	"hoard/index"
	"hoard/mix"
)

const most = math.MaxUint64

// seeds is the edges, and some between them.
func seeds() []uint64 { return []uint64{0, 1, most, 2, 1 << 63, 0x9e3779b97f4a7c15} }

// group is an index for each seed and the plain map of what must be in each, which are told of the same.
type group[V comparable] struct {
	t    *testing.T
	all  []*index.Index[V]
	want map[string]V
}

func newGroup[V comparable](t *testing.T, seeds ...uint64) *group[V] {
	g := &group[V]{t: t, want: map[string]V{}}
	for _, seed := range seeds {
		g.all = append(g.all, index.New[V](seed))
	}
	return g
}

func (g *group[V]) put(key string, v V) {
	g.t.Helper()
	_, had := g.want[key]
	for i, x := range g.all {
		if x.Put(key, v) == had {
			g.t.Fatalf("index %d: Put(%.40q): %t", i, key, had)
		}
	}
	g.want[key] = v
}

func (g *group[V]) get(key string) {
	g.t.Helper()
	want, had := g.want[key]
	for i, x := range g.all {
		if v, ok := x.Get(key); v != want || ok != had {
			g.t.Fatalf("index %d: Get(%.40q): %v %t, not %v %t", i, key, v, ok, want, had)
		}
	}
}

func (g *group[V]) delete(key string) {
	g.t.Helper()
	want, had := g.want[key]
	for i, x := range g.all {
		if v, ok := x.Delete(key); v != want || ok != had {
			g.t.Fatalf("index %d: Delete(%.40q): %v %t, not %v %t", i, key, v, ok, want, had)
		}
	}
	delete(g.want, key)
}

// same holds all that the indexes tell of themselves against the plain map, and asks for other keys too; twice: to be asked changes nothing.
func (g *group[V]) same(others ...string) {
	g.t.Helper()
	keys := slices.Sorted(maps.Keys(g.want))
	for range 2 {
		for i, x := range g.all {
			if x.Len() != len(keys) {
				g.t.Fatalf("index %d: Len: %d, not %d", i, x.Len(), len(keys))
			}
			if got := x.Keys(); !slices.Equal(got, keys) {
				g.t.Fatalf("index %d: Keys: %.400q, not %.400q", i, got, keys)
			}
		}
		for _, key := range keys {
			g.get(key)
		}
		for _, key := range others {
			g.get(key)
		}
	}
}

// numbered is so many keys.
func numbered(n int) []string {
	keys := make([]string, n)
	for i := range keys {
		keys[i] = "k" + strconv.Itoa(i)
	}
	return keys
}

// crowded is keys that all lie at one place under a seed, whichever of the first sizes there are places.
func crowded(seed uint64, n int) []string {
	const sizes = 16 * 9 * 5 * 7 * 11
	var keys []string
	for i := 0; len(keys) < n; i++ {
		if key := "c" + strconv.Itoa(i); mix.Hash(seed, key)%sizes == 3 {
			keys = append(keys, key)
		}
	}
	return keys
}

// P6.1: the document's example.
func TestExample(t *testing.T) {
	for _, seed := range seeds() {
		x := index.New[int](seed)
		if !x.Put("a", 1) || x.Put("a", 2) {
			t.Fatal("Put")
		}
		if v, ok := x.Get("a"); v != 2 || !ok {
			t.Fatalf("Get: %d %t", v, ok)
		}
		if v, ok := x.Delete("a"); v != 2 || !ok {
			t.Fatalf("Delete: %d %t", v, ok)
		}
		if x.Len() != 0 {
			t.Fatalf("Len: %d", x.Len())
		}
	}
}

// P6.1: an index without keys: one that never had any, and one that has none any more.
func TestEmpty(t *testing.T) {
	g := newGroup[string](t, seeds()...)
	g.same("", "a", "\x00")
	g.delete("a")
	g.delete("")
	g.same("", "a", "\x00")
	g.put("a", "v")
	g.delete("a")
	g.same("", "a", "\x00")
	g.delete("a")
	g.same("", "a", "\x00")
}

// P6.1: Put is true for a key that has none, false for one that has a value, and the last value counts.
func TestPutAgain(t *testing.T) {
	for _, n := range []int{1, 2, 3, 4, 7, 8, 30} {
		g := newGroup[int](t, seeds()...)
		for round := range 4 {
			for i, key := range numbered(n) {
				g.put(key, 100*round+i)
				g.same("k", "k"+strconv.Itoa(n))
			}
		}
	}
}

// P6.1: one key that gets value after value stays one key, and no value of it comes back.
func TestPutManyTimes(t *testing.T) {
	g := newGroup[int](t, seeds()...)
	g.put("other", -1)
	for i := range 5000 {
		g.put("a", i)
		g.get("a")
	}
	g.same("b")
	g.delete("a")
	g.same("a", "b")
}

// P6.1: a Get of a key that has none is false and the zero value, and the key has none by it.
func TestGetOfNone(t *testing.T) {
	numbers, texts := newGroup[int](t, seeds()...), newGroup[string](t, seeds()...)
	for i, key := range numbered(20) {
		numbers.same(key, "", "none")
		texts.same(key, "", "none")
		numbers.put(key, i+1)
		texts.put(key, "v"+key)
	}
	numbers.same("", "none")
	texts.same("", "none")
}

// P6.1, W3: a Delete of a key that has none is false and the zero value, and nothing has changed.
func TestDeleteOfNone(t *testing.T) {
	for n := range 20 {
		g := newGroup[int](t, seeds()...)
		for i, key := range numbered(n) {
			g.put(key, i+1)
		}
		for _, key := range append(numbered(40)[n:], "", "k", "kk", "K0", "k0\x00") {
			g.delete(key)
		}
		g.same("", "k", "none")
		for i, key := range numbered(n) {
			g.delete(key)
			g.delete(key)
			g.put("new"+key, i)
			g.same(key)
		}
	}
}

// P6.1: a key that is deleted and put again has just what it was given then, however often.
func TestDeletedAndPutAgain(t *testing.T) {
	for _, n := range []int{1, 2, 5, 12} {
		g := newGroup[int](t, seeds()...)
		for i, key := range numbered(n) {
			g.put(key, i)
		}
		for round := range 60 {
			key := numbered(n)[round%n]
			g.delete(key)
			g.same(key)
			g.put(key, 1000+round)
			g.same()
		}
	}
}

// P6.1: each one of many keys goes, and all others stay.
func TestDeleteEach(t *testing.T) {
	const n = 40
	for at := range n {
		g := newGroup[int](t, seeds()...)
		for i, key := range numbered(n) {
			g.put(key, i)
		}
		key := numbered(n)[at]
		g.delete(key)
		g.same(key)
		g.put(key, -1)
		g.same()
	}
}

// P6.1: Len and Keys at each step, while keys come in another order than the rising one and go in one more.
func TestEachStep(t *testing.T) {
	const n = 101
	g := newGroup[int](t, seeds()...)
	keys := numbered(n)
	for i := range n {
		g.put(keys[i*37%n], i)
		g.same("k")
	}
	for i := range n {
		g.delete(keys[i*53%n])
		g.same(keys[i*53%n])
	}
}

// P6.1: the empty text is a key as all others.
func TestEmptyText(t *testing.T) {
	g := newGroup[int](t, seeds()...)
	g.same("")
	g.put("", 7)
	g.same("a", "\x00")
	g.put("a", 8)
	g.put("", 9)
	g.same("\x00")
	g.delete("a")
	g.same("a")
	g.delete("")
	g.same("", "a")
	g.put("a", 10)
	g.same("")
	for i, key := range numbered(50) {
		g.put(key, i)
		g.get("")
	}
	g.put("", 0)
	g.same()
	g.delete("")
	g.same("")
}

// P6.1: keys that are alike but for their last letter, or of which one begins as the other one ends, are keys apart.
func TestAlikeKeys(t *testing.T) {
	for _, stem := range []string{"", "a", "user:", strings.Repeat("k", 23), strings.Repeat("k", 24), strings.Repeat("\x00", 7), strings.Repeat("é", 100), strings.Repeat("k", 5000)} {
		g := newGroup[string](t, seeds()...)
		var keys []string
		for last := range 256 {
			keys = append(keys, stem+string([]byte{byte(last)}))
		}
		keys = append(keys, stem, stem+"aa", stem+"\x00\x00", "a"+stem+"b", "b"+stem+"a")
		keys = slices.Compact(slices.Sorted(slices.Values(keys)))
		for i, key := range keys {
			g.get(key)
			g.put(key, "v"+strconv.Itoa(i))
		}
		g.same(stem+"ab", stem+stem+"?")
		for i, key := range keys {
			if i%3 != 1 {
				g.delete(key)
			}
		}
		g.same(keys...)
	}
}

// P6.1: long keys, that part at their beginning, their middle or their end, or by their length alone.
func TestLongKeys(t *testing.T) {
	g := newGroup[int](t, 0, 1, most)
	var keys []string
	for _, n := range []int{25, 255, 256, 257, 4096, 1<<16 - 1, 1 << 16, 1<<16 + 1, 1 << 20} {
		half := strings.Repeat("x", n/2)
		keys = append(keys, strings.Repeat("x", n), "y"+half+half, half+"y"+half, half+half+"y", strings.Repeat("\xff", n), strings.Repeat("\x00", n))
	}
	keys = slices.Compact(slices.Sorted(slices.Values(keys)))
	for i, key := range keys {
		g.get(key)
		g.put(key, i)
	}
	g.same()
	for i, key := range keys {
		if i%2 == 0 {
			g.delete(key)
		}
	}
	g.same(keys...)
}

// P6.1: keys of any bytes, told byte by byte in their order: a capital letter is ahead of a small one, a beginning ahead of what is longer, and a byte from 128 on behind all others.
func TestAnyBytes(t *testing.T) {
	want := []string{"", "\x00", "\x00\x00", "\x00a", "\n", " ", "10", "2", "9", "A", "Z", "Za", "a", "a\x00", "a b", "aZ", "aa", "ab", "b", "z", "\x7f", "\x80", "\xc3", "é", "日本", "\xfe\xff", "\xff", "\xff\x00", "\xff\xff"}
	for turn := range want {
		g := newGroup[int](t, seeds()...)
		for i := range want {
			g.put(want[(turn+i*8)%len(want)], i)
		}
		for _, x := range g.all {
			if got := x.Keys(); !slices.Equal(got, want) {
				t.Fatalf("Keys: %q", got)
			}
		}
		g.same("\x01", "c", "\xfe")
	}
}

// P6.1: each key of two bytes.
func TestAllTwoBytes(t *testing.T) {
	g := newGroup[int](t, 0, most)
	for i := range 1 << 16 {
		g.put(string([]byte{byte(i >> 8), byte(i)}), i)
	}
	g.same("", "a", "abc")
	for i := range 1 << 16 {
		if i%5 != 0 {
			g.delete(string([]byte{byte(i), byte(i >> 8)}))
		}
	}
	g.same("ab", "\x00\x01")
}

// P6.1: many keys, some of them deleted, so that marks lie among the others: each is found past them, none is there twice.
func TestMarksAmongKeys(t *testing.T) {
	for _, n := range []int{10, 60, 500} {
		for _, step := range []int{2, 3, 7} {
			g := newGroup[int](t, seeds()...)
			keys := numbered(n)
			for i, key := range keys {
				g.put(key, i)
			}
			for i := range n {
				if i%step != 0 {
					g.delete(keys[i])
				}
			}
			g.same(keys...)
			for i := range n {
				g.put(keys[i], -i)
			}
			g.same()
			for i := range n {
				if i%step == 0 {
					g.delete(keys[i])
				}
			}
			g.same(keys...)
		}
	}
}

// P6.1: all rows of up to six calls of Put and Delete of three keys that lie at one place, with all that the index tells at each step.
func TestAllShortRows(t *testing.T) {
	const long, calls = 6, 6
	for _, seed := range []uint64{0, 1, most} {
		keys := crowded(seed, 3)
		for row := range calls * calls * calls * calls * calls * calls {
			g := newGroup[int](t, seed)
			for i := range long {
				call := row % calls
				row /= calls
				if call%2 == 0 {
					g.put(keys[call/2], i+1)
				} else {
					g.delete(keys[call/2])
				}
				g.same(keys...)
			}
		}
	}
}

// P6.1: keys that crowd at one place: each of them goes, is asked for behind the marks, and comes again.
func TestCrowded(t *testing.T) {
	for _, seed := range []uint64{0, 1, most} {
		keys := crowded(seed, 24)
		for step := 1; step < 24; step += 2 {
			g := newGroup[int](t, seed)
			for i, key := range keys {
				g.put(key, i)
				g.same(keys...)
			}
			for i := range keys {
				g.delete(keys[i*step%24])
				g.same(keys...)
				if i%3 == 2 {
					g.put(keys[(i-1)*step%24], 100+i)
					g.same(keys...)
				}
			}
		}
	}
}

// P6.1: a key that is put anew while a mark lies ahead of it is the one that was there, not a second one.
func TestPutPastMarks(t *testing.T) {
	for _, seed := range []uint64{0, 1, most} {
		keys := crowded(seed, 6)
		for last := 1; last < len(keys); last++ {
			for first := range last {
				g := newGroup[int](t, seed)
				for i, key := range keys {
					g.put(key, i)
				}
				g.delete(keys[first])
				g.put(keys[last], 77)
				g.same(keys...)
				g.delete(keys[last])
				g.same(keys...)
			}
		}
	}
}

// P6.1: two keys of one and the same number under a seed are two keys nevertheless, also where the one of them lies behind the other one's mark.
func TestKeysOfOneNumber(t *testing.T) {
	for _, x := range []struct {
		seed      uint64
		one, two  string
		lastApart byte
	}{
		{0, "fwqtqa", "2m1c0l", 0x28}, {0, "fnkb2a", "3eu4it", 0xf7},
		{1, "fs44ha", "lv5yle", 0xcf}, {1, "tt2rvb", "scc1be", 0xdb},
		{most, "vwrfnc", "nwm4pz", 0xb9}, {most, "xeeqbg", "5mdh4w", 0x18},
	} {
		g := newGroup[int](t, x.seed)
		for last := range 256 {
			a := x.one + string([]byte{byte(last)})
			b := x.two + string([]byte{byte(last) ^ x.lastApart})
			if mix.Hash(x.seed, a) != mix.Hash(x.seed, b) {
				t.Fatalf("%q and %q have two numbers under seed %d", a, b, x.seed)
			}
			g.put(a, 2*last)
			g.get(b)
			g.delete(b)
			g.put(b, 2*last+1)
			g.get(a)
			if last%3 == 0 {
				g.delete(a)
				g.get(b)
				g.put(b, -last)
			}
			if last%16 == 0 {
				g.same(a, b)
			}
		}
		g.same("none")
	}
}

// P6.1: long rows of mixed calls that fill for some time and then empty, of few keys and of many.
func TestLongRows(t *testing.T) {
	for _, n := range []int{3, 10, 64, 700} {
		mixed(t, numbered(n), uint64(n), func(i int) int { return i % 5 })
		mixed(t, numbered(n), uint64(n)+1, func(i int) string { return strings.Repeat("v", i%3) })
	}
	for _, seed := range seeds() {
		mixed(t, crowded(seed, 20), seed, strconv.Itoa)
	}
}

func mixed[V comparable](t *testing.T, keys []string, seed uint64, value func(int) V) {
	t.Helper()
	g := newGroup[V](t, seeds()...)
	lot := seed*0x9e3779b97f4a7c15 + 1
	for i := range 30 * len(keys) {
		lot = lot*6364136223846793005 + 1442695040888963407
		key := keys[(lot>>33)%uint64(len(keys))]
		// In each stretch of calls the one sort comes more often than the other.
		if growing := i/(4*len(keys))%2 == 0; growing == (lot>>60 < 12) {
			g.put(key, value(i))
		} else {
			g.delete(key)
		}
		g.get(keys[(lot>>20)%uint64(len(keys))])
		if len(keys) < 100 || i%500 == 0 {
			g.same(keys[0], "none")
		}
	}
	g.same(keys...)
}

// P6.1, W1: keys come and go without end, each a new one, and few are there: every search still ends.
func TestManyComeAndGo(t *testing.T) {
	for _, there := range []int{0, 1, 2, 5, 100} {
		g := newGroup[int](t, 0, most)
		for i := range 1 << 15 {
			g.put(strconv.Itoa(i), i)
			if i >= there {
				g.delete(strconv.Itoa(i - there))
			}
			g.get("none")
			g.get(strconv.Itoa(i))
		}
		g.same("none", "0", "")
	}
}

// P6.1: many keys, filled, emptied to a few, and filled with others.
func TestManyKeys(t *testing.T) {
	const n = 1 << 17
	g := newGroup[int](t, 1)
	for i := range n {
		g.put(strconv.Itoa(i), i)
	}
	g.same("none", strconv.Itoa(n))
	for i := range n {
		if i%1000 != 0 {
			g.delete(strconv.Itoa(i))
		}
	}
	g.same("none", "1", "999")
	for i := range n {
		g.put("new"+strconv.Itoa(i), -i)
	}
	g.same("none", "1", "999")
}

// P6.1: zero values are values as all others.
func TestZeroValues(t *testing.T) {
	numbers, texts := newGroup[int](t, seeds()...), newGroup[string](t, seeds()...)
	for i, key := range append(numbered(12), "") {
		numbers.put(key, i%2)
		texts.put(key, strings.Repeat("v", i%2))
		numbers.same("none")
		texts.same("none")
	}
	for _, key := range numbered(12) {
		numbers.put(key, 0)
		texts.put(key, "")
		numbers.same()
		texts.same()
		numbers.delete(key)
		texts.delete(key)
		numbers.same(key)
		texts.same(key)
	}
}

// P6.1, P6.2: indexes of what can't be held against each other, of lists, and of nothing at all.
func TestOtherValues(t *testing.T) {
	f := index.New[func() int](1)
	f.Put("a", func() int { return 7 })
	if v, ok := f.Get("a"); !ok || v() != 7 {
		t.Error("a function")
	}
	if v, ok := f.Get("b"); ok || v != nil {
		t.Error("no function")
	}
	if v, ok := f.Delete("a"); !ok || v() != 7 {
		t.Error("a function that goes")
	}
	l := index.New[[]int](1)
	l.Put("nil", nil)
	l.Put("two", []int{1, 2})
	if v, ok := l.Get("nil"); !ok || v != nil {
		t.Error("a nil list", v, ok)
	}
	if v, ok := l.Delete("two"); !ok || !slices.Equal(v, []int{1, 2}) || l.Len() != 1 {
		t.Error("a list", v, ok)
	}
	e, a := newGroup[struct{}](t, seeds()...), newGroup[any](t, seeds()...)
	for i, v := range []any{nil, 1, "1", nil} {
		key := strconv.Itoa(i % 3)
		e.put(key, struct{}{})
		a.put(key, v)
		e.same("none")
		a.same("none")
	}
	e.delete("0")
	a.delete("0")
	e.same("0")
	a.same("0")
}

// P6.2: what is told is the same under each seed, also under those by which a key lies elsewhere: a row of calls, written down as texts.
func TestSeeds(t *testing.T) {
	want := told(0)
	for i := range uint64(300) {
		for _, seed := range []uint64{i, most - i, mix.Mix(i), 1 << (i % 64)} {
			if got := told(seed); !slices.Equal(got, want) {
				t.Fatalf("seed %d: %q, not %q", seed, got, want)
			}
		}
	}
}

func told(seed uint64) []string {
	x := index.New[int](seed)
	var words []string
	for i := range 60 {
		key := strconv.Itoa(i * i % 17)
		switch i % 4 {
		case 0, 1:
			words = append(words, strconv.FormatBool(x.Put(key, i)))
		case 2:
			v, ok := x.Get(key)
			words = append(words, strconv.Itoa(v), strconv.FormatBool(ok))
		default:
			v, ok := x.Delete(key)
			words = append(words, strconv.Itoa(v), strconv.FormatBool(ok))
		}
		words = append(words, strconv.Itoa(x.Len()), strings.Join(x.Keys(), " "))
	}
	return words
}

// P6.2, W6: an answer of Keys that is written over, or grown, changes neither the index nor another answer.
func TestKeysWrittenOver(t *testing.T) {
	for n := range 10 {
		g := newGroup[int](t, seeds()...)
		for i, key := range numbered(n) {
			g.put(key, i)
		}
		g.delete("k3")
		want := slices.Sorted(maps.Keys(g.want))
		for _, x := range g.all {
			a, b := x.Keys(), x.Keys()
			whole := a[:cap(a)]
			for i := range whole {
				whole[i] = "over"
			}
			a = append(a, "grown")
			if !slices.Equal(b, want) || a[len(want)] != "grown" {
				t.Fatalf("the answers are %q and %q", a, b)
			}
		}
		g.same("over", "grown", "k3")
		g.put("over", 100)
		g.same("grown", "k3")
	}
}

// P6.2, W7: an answer of Keys stays what it is, whatever is called later.
func TestKeysStay(t *testing.T) {
	for _, seed := range seeds() {
		g := newGroup[int](t, seed)
		var answers, held [][]string
		for i := range 60 {
			answers = append(answers, g.all[0].Keys())
			held = append(held, slices.Sorted(maps.Keys(g.want)))
			if i%5 < 3 {
				g.put(strconv.Itoa(i*7%40), i)
			} else {
				g.delete(strconv.Itoa(i * 3 % 40))
			}
		}
		for i := range answers {
			if !slices.Equal(answers[i], held[i]) {
				t.Fatalf("answer %d is %q, not %q", i, answers[i], held[i])
			}
		}
	}
}

// P6.2, W6: the texts that Keys answers share no memory with those that were handed in, nor with those of another answer.
func TestTextsAreNew(t *testing.T) {
	x := index.New[int](1)
	seen := map[*byte]int{}
	note := func(keys []string) {
		for _, key := range keys {
			seen[unsafe.StringData(key)]++
		}
	}
	handed := numbered(20)
	for i, key := range handed {
		x.Put(key, i)
	}
	a, b := x.Keys(), x.Keys()
	note(handed)
	note(a)
	note(b)
	if len(seen) != 60 {
		t.Errorf("%d texts, not 60", len(seen))
	}
	runtime.KeepAlive([][]string{handed, a, b})
}

// P6.2: a value that was answered stays what it is when its key has another one.
func TestValuesStay(t *testing.T) {
	type three [3]int
	x := index.New[three](1)
	x.Put("a", three{1, 2, 3})
	got, _ := x.Get("a")
	x.Put("a", three{4, 5, 6})
	deleted, _ := x.Delete("a")
	x.Put("a", three{7, 8, 9})
	if got != (three{1, 2, 3}) || deleted != (three{4, 5, 6}) {
		t.Errorf("%v and %v", got, deleted)
	}
	got[0], deleted[0] = 10, 10
	if v, ok := x.Get("a"); v != (three{7, 8, 9}) || !ok {
		t.Errorf("Get: %v %t", v, ok)
	}
}

// W6: a text that was handed in is not kept: the long one, of which the key is a piece, is free while the index lives on.
func TestHandedInIsNotKept(t *testing.T) {
	x := index.New[int](1)
	long := strings.Repeat("key", 1<<16)
	weakly := weak.Make(unsafe.StringData(long))
	for i := range 9 {
		x.Put(long[i:2*i], i)
		x.Get(long[i:])
		x.Delete(long[:i])
	}
	long = ""
	runtime.GC()
	if weakly.Value() != nil {
		t.Error("the long text is still held")
	}
	runtime.KeepAlive(x)
}

// P6.1: a value that went, or was put over, is held no more: the memory behind it is free while the index lives on.
func TestGoneIsNotHeld(t *testing.T) {
	x := index.New[*[64]int](1)
	var weakly []weak.Pointer[[64]int]
	for i := range 20 {
		for range 2 {
			v := new([64]int)
			weakly = append(weakly, weak.Make(v))
			x.Put(strconv.Itoa(i%7), v)
		}
		x.Delete(strconv.Itoa(i % 7))
	}
	runtime.GC()
	for i, w := range weakly {
		if w.Value() != nil {
			t.Errorf("value %d is still held", i)
		}
	}
	if x.Len() != 0 {
		t.Errorf("Len: %d", x.Len())
	}
}

// P6.1: a key that went is held no more either.
func TestGoneKeyIsNotHeld(t *testing.T) {
	const long = 1 << 24
	x := index.New[int](1)
	before := heap()
	x.Put(strings.Repeat("k", long), 1)
	x.Delete(strings.Repeat("k", long))
	if after := heap(); after > before+long/2 {
		t.Errorf("%d bytes are held, %d before", after, before)
	}
	runtime.KeepAlive(x)
}

func heap() uint64 {
	runtime.GC()
	var m runtime.MemStats
	runtime.ReadMemStats(&m)
	return m.HeapAlloc
}

// P6.1: two indexes do not meet, be they of one seed or of two.
func TestTwoIndexes(t *testing.T) {
	for _, seed := range seeds() {
		p, q := newGroup[int](t, 1), newGroup[int](t, seed)
		for i, key := range numbered(30) {
			p.put(key, i)
			q.same(key)
			if i%3 == 0 {
				q.put(key, -i)
				q.put("q"+key, i)
				p.same("q" + key)
			}
			if i%4 == 0 {
				p.delete(key)
				q.same(key)
			}
		}
	}
}

// P6.2, W8: a nil Index has no key in each call, and takes none.
func TestNilIndex(t *testing.T) {
	var numbers *index.Index[int]
	var texts *index.Index[string]
	takesNone(t, numbers, 1)
	takesNone(t, texts, "a")
	takesNone(t, numbers, 0)
	takesNone(t, texts, "")
}

func takesNone[V comparable](t *testing.T, x *index.Index[V], v V) {
	t.Helper()
	for _, key := range []string{"", "a", "a", "\xff", strings.Repeat("k", 5000)} {
		var none V
		if x.Put(key, v) {
			t.Fatalf("Put(%.40q): true", key)
		}
		if got, ok := x.Get(key); got != none || ok {
			t.Fatalf("Get(%.40q): %v %t", key, got, ok)
		}
		if got, ok := x.Delete(key); got != none || ok {
			t.Fatalf("Delete(%.40q): %v %t", key, got, ok)
		}
		if x.Len() != 0 || len(x.Keys()) != 0 {
			t.Fatalf("Len: %d, Keys: %q", x.Len(), x.Keys())
		}
	}
}

// An Index that New did not make is an empty one, as the other rows of the program are.
func TestZeroIndex(t *testing.T) {
	g := &group[int]{t: t, all: []*index.Index[int]{new(index.Index[int])}, want: map[string]int{}}
	g.same("", "a")
	g.delete("a")
	for i, key := range numbered(20) {
		g.put(key, i)
		g.same("", "a")
	}
}

// W8: one of the two goes on where an index was copied as a value.
func TestCopied(t *testing.T) {
	g := newGroup[int](t, 1)
	for i, key := range numbered(50) {
		g.put(key, i)
		if i%7 == 6 {
			g.delete(numbered(50)[i-3])
		}
		other := *g.all[0]
		g.all[0] = &other
		g.same("none")
	}
}
