package engine_test

import (
	"fmt"
	"runtime"
	"slices"
	"strconv"
	"strings"
	"testing"
	"unsafe"
	"weak"

	"hoard/api"
	"hoard/arc"
	"hoard/engine"
	"hoard/lirs"
	"hoard/s3fifo"
	"hoard/tinylfu"
	"hoard/twoq"
)

// P15.3: the examples of the chapters.
func TestExamples(t *testing.T) {
	for _, x := range []struct {
		kind, room    int
		script, state string
	}{
		{api.ARC, 2, "+a +a +b +c", "T1: c;T2: a;B1: b;B2:;p: 0"},
		{api.TwoQ, 2, "+a +b +c +a", "A1in: c;A1out: b;Am: a"},
		{api.S3FIFO, 2, "+a +a +a +b +c", "S: c/0;M: a/0;G: b"},
		{api.LIRS, 2, "+a +b +c", "S: a/h b/g c/c;Q: c"},
		{api.TinyLFU, 8, "+a +b", "W: b;A: a;P:"},
	} {
		e := made(t, x.kind, x.room)
		for _, c := range calls(x.script) {
			do(e, c)
		}
		if got := e.State(); got != x.state {
			t.Errorf("kind %d, %s: %s, not %s", x.kind, x.script, got, x.state)
		}
	}
}

// step is a call, what it answers, and State behind it.
type step struct{ call, answer, state string }

// P15.3: one script of all calls on each kind in room 4, worked out by the words of its chapter.
func TestOneScript(t *testing.T) {
	for kind, steps := range [api.Kinds][]step{
		api.ARC: {
			{"+a", "false[]", "T1: a;T2:;B1:;B2:;p: 0"},
			{"+b", "false[]", "T1: a b;T2:;B1:;B2:;p: 0"},
			{"+a", "true[]", "T1: b;T2: a;B1:;B2:;p: 0"},
			{"+c", "false[]", "T1: b c;T2: a;B1:;B2:;p: 0"},
			{"+d", "false[]", "T1: b c d;T2: a;B1:;B2:;p: 0"},
			{"+e", `false["b"]`, "T1: c d e;T2: a;B1: b;B2:;p: 0"},
			{"+b", `false["c"]`, "T1: d e;T2: a b;B1: c;B2:;p: 1"},
			{"+a", "true[]", "T1: d e;T2: b a;B1: c;B2:;p: 1"},
			{"+f", `false["d"]`, "T1: e f;T2: b a;B1: c d;B2:;p: 1"},
			{"+f", "true[]", "T1: e;T2: b a f;B1: c d;B2:;p: 1"},
			{"+e", "true[]", "T1:;T2: b a f e;B1: c d;B2:;p: 1"},
			{"+c", `false["b"]`, "T1:;T2: a f e c;B1: d;B2: b;p: 2"},
			{"!", `true "a"`, "T1:;T2: f e c;B1: d;B2: b a;p: 2"},
			{"=c", "false", "T1:;T2: f e c;B1: d;B2: b a;p: 2"},
			{"=g", "true", "T1: g;T2: f e c;B1: d;B2: b a;p: 2"},
			{"-f", "true", "T1: g;T2: e c;B1: d;B2: b a;p: 2"},
			{"+b", "false[]", "T1: g;T2: e c b;B1: d;B2: a;p: 1"},
			{"+g", "true[]", "T1:;T2: e c b g;B1: d;B2: a;p: 1"},
		},
		api.LIRS: {
			{"+a", "false[]", "S: a/h;Q:"},
			{"+b", "false[]", "S: a/h b/h;Q:"},
			{"+a", "true[]", "S: b/h a/h;Q:"},
			{"+c", "false[]", "S: b/h a/h c/h;Q:"},
			{"+d", "false[]", "S: b/h a/h c/h d/c;Q: d"},
			{"+e", `false["d"]`, "S: b/h a/h c/h d/g e/c;Q: e"},
			{"+b", "true[]", "S: a/h c/h d/g e/c b/h;Q: e"},
			{"+a", "true[]", "S: c/h d/g e/c b/h a/h;Q: e"},
			{"+f", `false["e"]`, "S: c/h d/g e/g b/h a/h f/c;Q: f"},
			{"+f", "true[]", "S: b/h a/h f/h;Q: c"},
			{"+e", `false["c"]`, "S: b/h a/h f/h e/c;Q: e"},
			{"+c", `false["e"]`, "S: b/h a/h f/h e/g c/c;Q: c"},
			{"!", `true "c"`, "S: b/h a/h f/h e/g c/g;Q:"},
			{"=c", "true", "S: b/h a/h f/h e/g c/c;Q: c"},
			{"=g", "false", "S: b/h a/h f/h e/g c/c;Q: c"},
			{"-f", "true", "S: b/h a/h e/g c/c;Q: c"},
			{"+b", "true[]", "S: a/h e/g c/c b/h;Q: c"},
			{"+g", "false[]", "S: a/h e/g c/c b/h g/h;Q: c"},
		},
		api.TwoQ: {
			{"+a", "false[]", "A1in: a;A1out:;Am:"},
			{"+b", "false[]", "A1in: a b;A1out:;Am:"},
			{"+a", "true[]", "A1in: a b;A1out:;Am:"},
			{"+c", "false[]", "A1in: a b c;A1out:;Am:"},
			{"+d", "false[]", "A1in: a b c d;A1out:;Am:"},
			{"+e", `false["a"]`, "A1in: b c d e;A1out: a;Am:"},
			{"+b", "true[]", "A1in: b c d e;A1out: a;Am:"},
			{"+a", `false["b"]`, "A1in: c d e;A1out: b;Am: a"},
			{"+f", `false["c"]`, "A1in: d e f;A1out: b c;Am: a"},
			{"+f", "true[]", "A1in: d e f;A1out: b c;Am: a"},
			{"+e", "true[]", "A1in: d e f;A1out: b c;Am: a"},
			{"+c", `false["d"]`, "A1in: e f;A1out: b d;Am: a c"},
			{"!", `true "e"`, "A1in: f;A1out: d e;Am: a c"},
			{"=c", "false", "A1in: f;A1out: d e;Am: a c"},
			{"=g", "true", "A1in: f;A1out: d e;Am: a c g"},
			{"-f", "true", "A1in:;A1out: d e;Am: a c g"},
			{"+b", "false[]", "A1in: b;A1out: d e;Am: a c g"},
			{"+g", "true[]", "A1in: b;A1out: d e;Am: a c g"},
		},
		api.TinyLFU: {
			{"+a", "false[]", "W: a;A:;P:"},
			{"+b", "false[]", "W: b;A: a;P:"},
			{"+a", "true[]", "W: b;A:;P: a"},
			{"+c", "false[]", "W: c;A: b;P: a"},
			{"+d", "false[]", "W: d;A: b c;P: a"},
			{"+e", `false["d"]`, "W: e;A: b c;P: a"},
			{"+b", "true[]", "W: e;A: c;P: a b"},
			{"+a", "true[]", "W: e;A: c;P: b a"},
			{"+f", `false["e"]`, "W: f;A: c;P: b a"},
			{"+f", "true[]", "W: f;A: c;P: b a"},
			{"+e", `false["c"]`, "W: e;A: f;P: b a"},
			{"+c", `false["e"]`, "W: c;A: f;P: b a"},
			{"!", `true "f"`, "W: c;A:;P: b a"},
			{"=c", "false", "W: c;A:;P: b a"},
			{"=g", "true", "W: c;A: g;P: b a"},
			{"-f", "false", "W: c;A: g;P: b a"},
			{"+b", "true[]", "W: c;A: g;P: a b"},
			{"+g", "true[]", "W: c;A: a;P: b g"},
		},
		api.S3FIFO: {
			{"+a", "false[]", "S: a/0;M:;G:"},
			{"+b", "false[]", "S: a/0 b/0;M:;G:"},
			{"+a", "true[]", "S: a/1 b/0;M:;G:"},
			{"+c", "false[]", "S: a/1 b/0 c/0;M:;G:"},
			{"+d", "false[]", "S: a/1 b/0 c/0 d/0;M:;G:"},
			{"+e", `false["a"]`, "S: b/0 c/0 d/0 e/0;M:;G: a"},
			{"+b", "true[]", "S: b/1 c/0 d/0 e/0;M:;G: a"},
			{"+a", `false["b"]`, "S: c/0 d/0 e/0;M: a/0;G: b"},
			{"+f", `false["c"]`, "S: d/0 e/0 f/0;M: a/0;G: b c"},
			{"+f", "true[]", "S: d/0 e/0 f/1;M: a/0;G: b c"},
			{"+e", "true[]", "S: d/0 e/1 f/1;M: a/0;G: b c"},
			{"+c", `false["d"]`, "S: e/1 f/1;M: a/0 c/0;G: b d"},
			{"!", `true "e"`, "S: f/1;M: a/0 c/0;G: b d e"},
			{"=c", "false", "S: f/1;M: a/0 c/0;G: b d e"},
			{"=g", "true", "S: f/1;M: a/0 c/0 g/0;G: b d e"},
			{"-f", "true", "S:;M: a/0 c/0 g/0;G: b d e"},
			{"+b", "false[]", "S:;M: a/0 c/0 g/0 b/0;G: d e"},
			{"+g", "true[]", "S:;M: a/0 c/0 g/1 b/0;G: d e"},
		},
	} {
		e := made(t, kind, 4)
		for i, s := range steps {
			if got := do(e, calls(s.call)[0]); got != s.answer {
				t.Fatalf("kind %d, call %d, %s: %s, not %s", kind, i, s.call, got, s.answer)
			}
			if got := e.State(); got != s.state {
				t.Fatalf("kind %d, call %d, %s: %s, not %s", kind, i, s.call, got, s.state)
			}
		}
	}
}

// P15.3: what is told of each kind's lists behind that script, and how many are there and may be.
func TestOneScriptTold(t *testing.T) {
	for kind, x := range [api.Kinds]struct{ keys, ghosts string }{
		api.ARC:     {"e c b g", "d a"},
		api.LIRS:    {"c a b g", "e"},
		api.TwoQ:    {"b a c g", "d e"},
		api.TinyLFU: {"c a b g", ""},
		api.S3FIFO:  {"a c g b", "d e"},
	} {
		e := made(t, kind, 4)
		for _, c := range calls("+a +b +a +c +d +e +b +a +f +f +e +c ! =c =g -f +b +g") {
			do(e, c)
		}
		if got := strings.Join(e.Keys(), " "); got != x.keys {
			t.Errorf("kind %d: Keys %s, not %s", kind, got, x.keys)
		}
		if got := strings.Join(e.Ghosts(), " "); got != x.ghosts {
			t.Errorf("kind %d: Ghosts %s, not %s", kind, got, x.ghosts)
		}
		if e.Len() != 4 || e.Room() != 4 {
			t.Errorf("kind %d: Len %d, Room %d", kind, e.Len(), e.Room())
		}
		for _, key := range strings.Fields("a b c d e f g h") {
			if got := e.Has(key); got != slices.Contains(strings.Fields(x.keys), key) {
				t.Errorf("kind %d: Has(%s): %v", kind, key, got)
			}
		}
		if e.Has("") {
			t.Errorf("kind %d: has the empty text", kind)
		}
	}
}

// P15.3: all rows of up to four calls on three keys, each answered as by the engine of the chapter.
func TestAllShortRows(t *testing.T) {
	all := calls("+a +b +c =a =b =c -a -b -c !")
	for _, k := range kinds {
		for room := 1; room <= 2; room++ {
			for n := range 10000 {
				x := newPair(t, k.kind, room)
				for i, left := 0, n; i < 4; i, left = i+1, left/10 {
					x.quick(all[left%10])
				}
				x.same("a", "b", "c")
			}
		}
	}
}

// P15.3: long rows of all calls, all that can be asked held behind each.
func TestLongRows(t *testing.T) {
	for _, k := range kinds {
		for _, room := range []int{-1, 0, 1, 2, 3, 4, 5, 6, 7, 8, 9, 10, 11, 16, 20, 33, 40} {
			mixed(newPair(t, k.kind, room), numbered("k", 3*max(room, 1)+1), 2000)
		}
		for _, room := range []int{1, 2, 5, 13, 30} {
			mixed(newPair(t, k.kind, room), anyKeys(), 2000)
		}
		for _, room := range []int{100, api.MaxRoom, maxInt} {
			keys := numbered("k", 3*min(room, api.MaxRoom))
			x := newPair(t, k.kind, room)
			pick := lots(uint64(k.kind))
			for range 10 * min(room, api.MaxRoom) {
				x.quick(call{'+', keys[pick(len(keys))]})
			}
			x.same(keys...)
			mixed(x, keys, 400)
			x.same(keys...)
		}
	}
}

// P15.2, P15.3: the same behind From, with some of the keys, with as many as there is room, and with all.
func TestLongRowsFrom(t *testing.T) {
	for _, k := range kinds {
		for _, room := range []int{1, 2, 3, 10, 20, 40} {
			keys := numbered("k", 3*room+1)
			for _, n := range []int{room / 2, room, len(keys)} {
				mixed(fromPair(t, k.kind, room, keys[:n]...), keys, 800)
			}
		}
	}
}

// mixed makes calls, mostly Accesses, of some of the keys more often than of others, with times of each other call.
func mixed(x *pair, keys []string, n int) {
	x.t.Helper()
	pick := lots(uint64(len(keys)))
	for i := range n {
		among := len(keys)
		if pick(2) == 0 {
			among = len(keys)/6 + 1
		}
		c := call{"++++++++++++++==-!"[pick(18)], keys[pick(among)]}
		if i/300%4 == 3 && pick(2) == 0 {
			c.what = "-=!"[pick(3)]
		}
		x.does(c)
	}
}

// P15.3, W2: engines of one kind, and of unlike kinds, do not meet.
func TestNobodyMeets(t *testing.T) {
	for _, k := range kinds {
		for _, l := range kinds {
			for _, rooms := range [][2]int{{3, 3}, {2, 20}} {
				x, y := newPair(t, k.kind, rooms[0]), newPair(t, l.kind, rooms[1])
				pick := lots(uint64(10*k.kind + l.kind))
				for range 400 {
					c := call{"++++++=-!"[pick(9)], "k" + strconv.Itoa(pick(12))}
					if pick(2) == 0 {
						x.does(c)
						y.same(c.key)
					} else {
						y.does(c)
						x.same(c.key)
					}
				}
			}
		}
	}
}

// P15.3, W2: what is told hangs on the calls alone: told twice of the same, at whatever time, an engine answers the same.
func TestTwice(t *testing.T) {
	told := func(kind int) string {
		text := ""
		e := made(t, kind, 7)
		pick := lots(77)
		for range 1000 {
			c := call{"++++++=-!"[pick(9)], "k" + strconv.Itoa(pick(20))}
			text += do(e, c) + e.State() + fmt.Sprint(e.Keys(), e.Ghosts())
		}
		return text
	}
	var first []string
	for _, k := range kinds {
		first = append(first, told(k.kind))
	}
	for i, k := range kinds {
		if told(k.kind) != first[i] {
			t.Errorf("kind %d: not the same again", k.kind)
		}
		for j := range i {
			if first[i] == first[j] {
				t.Errorf("kind %d is as kind %d", i, j)
			}
		}
	}
}

// fresh is a text of the test's own, which may be written over.
func fresh(text string) string { return strings.Clone(text) }

// dataOf is a text's first byte.
func dataOf(text string) *byte { return unsafe.StringData(text) }

// blot writes over a text's bytes.
func blot(text string) {
	for i := range len(text) {
		unsafe.Slice(dataOf(text), len(text))[i] = '#'
	}
}

// blotAll writes over the texts, then over the list with all of its spare room.
func blotAll(list []string) {
	for _, text := range list {
		blot(text)
	}
	list = list[:cap(list)]
	for i := range list {
		list[i] = "###"
	}
}

// P15.3, W6: what is answered is new memory: written over, lists, their spare room and texts, it changes nothing.
func TestAnswersWrittenOver(t *testing.T) {
	for _, k := range kinds {
		for _, room := range []int{1, 2, 10, 17} {
			x := fromPair(t, k.kind, room, numbered("key", room/2)...)
			pick := lots(7)
			for range 1500 {
				key := fresh("key" + strconv.Itoa(pick(3*room)))
				switch pick(8) {
				case 0:
					got, _ := x.e.Evict()
					if want, _ := x.own.Evict(); got != want {
						t.Fatalf("%s: Evict %q, not %q", x.what, got, want)
					}
					blot(got)
				case 1:
					x.e.Load(key)
					x.own.Load(fresh(key))
				default:
					_, got := x.e.Access(key)
					if _, want := x.own.Access(fresh(key)); !slices.Equal(got, want) {
						t.Fatalf("%s: Access %q, not %q", x.what, got, want)
					}
					blotAll(got)
				}
				// What was handed in is the test's again, too.
				blot(key)
				x.same()
				blotAll(x.e.Keys())
				blotAll(x.e.Ghosts())
				blot(x.e.State())
				x.same()
			}
		}
	}
}

// P15.3, W6: no two answers share a text, nor does one share it with what was handed in.
func TestTextsAreNew(t *testing.T) {
	for _, k := range kinds {
		seen := map[*byte]int{}
		var all []string
		note := func(texts ...string) {
			for _, text := range texts {
				all = append(all, text)
				if seen[dataOf(text)]++; seen[dataOf(text)] > 1 {
					t.Fatalf("kind %d: %q was answered before", k.kind, text)
				}
			}
		}
		given := []string{fresh("key0"), fresh("key1"), fresh("key2")}
		e := from(t, k.kind, 4, given...)
		note(given...)
		pick := lots(3)
		for range 400 {
			key := fresh("key" + strconv.Itoa(pick(12)))
			_, gone := e.Access(key)
			note(key)
			note(gone...)
			note(e.Keys()...)
			note(e.Keys()...)
			note(e.Ghosts()...)
			note(e.Ghosts()...)
			note(e.State(), e.State())
			if pick(5) == 0 {
				if went, ok := e.Evict(); ok {
					note(went)
				}
			}
		}
		runtime.KeepAlive(all)
	}
}

// P15.3, W7: what was answered stays what it is.
func TestAnswersStay(t *testing.T) {
	for _, k := range kinds {
		e := from(t, k.kind, 9, numbered("k", 5)...)
		pick := lots(11)
		var held [][]string
		var copies []string
		keep := func(list ...string) {
			held = append(held, list)
			copies = append(copies, fmt.Sprintf("%q", list))
		}
		for range 1000 {
			_, gone := e.Access("k" + strconv.Itoa(pick(20)))
			keep(gone...)
			keep(e.Keys()...)
			keep(e.Ghosts()...)
			keep(e.State())
			if pick(4) == 0 {
				key, _ := e.Evict()
				keep(key)
			}
		}
		for i, list := range held {
			if got := fmt.Sprintf("%q", list); got != copies[i] {
				t.Fatalf("kind %d, answer %d: %s, not %s", k.kind, i, got, copies[i])
			}
		}
	}
}

// W2, W6: an engine that nobody has any more is held by nobody else.
func TestEnginesAreNotHeld(t *testing.T) {
	e, f := made(t, api.ARC, 3).(*arc.Engine), from(t, api.LIRS, 3, "a").(*lirs.Engine)
	ofE, ofF := weak.Make(e), weak.Make(f)
	e, f = nil, nil
	runtime.GC()
	if ofE.Value() != nil || ofF.Value() != nil {
		t.Errorf("they are still held: %v, %v", ofE.Value() != nil, ofF.Value() != nil)
	}
}

// P15.3, W8: through the interface, too, a nil engine has nothing, and takes nothing.
func TestNilEngines(t *testing.T) {
	for i, e := range []engine.Engine{(*arc.Engine)(nil), (*lirs.Engine)(nil), (*twoq.Engine)(nil), (*tinylfu.Engine)(nil), (*s3fifo.Engine)(nil)} {
		for _, key := range []string{"", "a", "a"} {
			hit, gone := e.Access(key)
			if hit || len(gone) != 0 || e.Load(key) || e.Has(key) || e.Remove(key) {
				t.Errorf("kind %d, %q: %v %q", i, key, hit, gone)
			}
		}
		if key, ok := e.Evict(); key != "" || ok {
			t.Errorf("kind %d: Evict %q %v", i, key, ok)
		}
		if len(e.Keys()) != 0 || len(e.Ghosts()) != 0 || e.State() != "" || e.Len() != 0 || e.Room() != 0 {
			t.Errorf("kind %d: %s", i, e.State())
		}
	}
}
