package engine_test

import (
	"fmt"
	"runtime"
	"slices"
	"strconv"
	"strings"
	"testing"
	"weak"

	"hoard/api"
	"hoard/engine"
)

// P15.2: New, then Load of each key in order; what each kind makes of that.
func TestFrom(t *testing.T) {
	for _, x := range []struct {
		room   int
		keys   string
		states [api.Kinds]string
	}{
		// None, fewer than there is room, as many, more.
		{3, "", [...]string{"T1:;T2:;B1:;B2:;p: 0", "S:;Q:", "A1in:;A1out:;Am:", "W:;A:;P:", "S:;M:;G:"}},
		{3, "a", [...]string{"T1: a;T2:;B1:;B2:;p: 0", "S: a/h;Q:", "A1in:;A1out:;Am: a", "W:;A: a;P:", "S:;M: a/0;G:"}},
		{3, "a b", [...]string{"T1: a b;T2:;B1:;B2:;p: 0", "S: a/h b/h;Q:", "A1in:;A1out:;Am: a b", "W:;A: a b;P:", "S:;M: a/0 b/0;G:"}},
		{3, "b a", [...]string{"T1: b a;T2:;B1:;B2:;p: 0", "S: b/h a/h;Q:", "A1in:;A1out:;Am: b a", "W:;A: b a;P:", "S:;M: b/0 a/0;G:"}},
		{3, "a b c", [...]string{"T1: a b c;T2:;B1:;B2:;p: 0", "S: a/h b/h c/c;Q: c", "A1in:;A1out:;Am: a b c", "W: c;A: a b;P:", "S:;M: a/0 b/0 c/0;G:"}},
		{3, "c a b", [...]string{"T1: c a b;T2:;B1:;B2:;p: 0", "S: c/h a/h b/c;Q: b", "A1in:;A1out:;Am: c a b", "W: b;A: c a;P:", "S:;M: c/0 a/0 b/0;G:"}},
		{3, "a b c d", [...]string{"T1: a b c;T2:;B1:;B2:;p: 0", "S: a/h b/h c/c;Q: c", "A1in:;A1out:;Am: a b c", "W: c;A: a b;P:", "S:;M: a/0 b/0 c/0;G:"}},
		{3, "d c b a", [...]string{"T1: d c b;T2:;B1:;B2:;p: 0", "S: d/h c/h b/c;Q: b", "A1in:;A1out:;Am: d c b", "W: b;A: d c;P:", "S:;M: d/0 c/0 b/0;G:"}},
		// Keys that come twice: the first time is the one, and another key has the place still.
		{3, "a a", [...]string{"T1: a;T2:;B1:;B2:;p: 0", "S: a/h;Q:", "A1in:;A1out:;Am: a", "W:;A: a;P:", "S:;M: a/0;G:"}},
		{3, "a b a", [...]string{"T1: a b;T2:;B1:;B2:;p: 0", "S: a/h b/h;Q:", "A1in:;A1out:;Am: a b", "W:;A: a b;P:", "S:;M: a/0 b/0;G:"}},
		{3, "a a b b b c c", [...]string{"T1: a b c;T2:;B1:;B2:;p: 0", "S: a/h b/h c/c;Q: c", "A1in:;A1out:;Am: a b c", "W: c;A: a b;P:", "S:;M: a/0 b/0 c/0;G:"}},
		{3, "a b a c a d b", [...]string{"T1: a b c;T2:;B1:;B2:;p: 0", "S: a/h b/h c/c;Q: c", "A1in:;A1out:;Am: a b c", "W: c;A: a b;P:", "S:;M: a/0 b/0 c/0;G:"}},
		// The least rooms.
		{1, "", [...]string{"T1:;T2:;B1:;B2:;p: 0", "S:;Q:", "A1in:;A1out:;Am:", "W:;A:;P:", "S:;M:;G:"}},
		{1, "a", [...]string{"T1: a;T2:;B1:;B2:;p: 0", "S:;Q: a", "A1in:;A1out:;Am: a", "W: a;A:;P:", "S:;M: a/0;G:"}},
		{1, "a b a", [...]string{"T1: a;T2:;B1:;B2:;p: 0", "S:;Q: a", "A1in:;A1out:;Am: a", "W: a;A:;P:", "S:;M: a/0;G:"}},
		{-7, "a b a", [...]string{"T1: a;T2:;B1:;B2:;p: 0", "S:;Q: a", "A1in:;A1out:;Am: a", "W: a;A:;P:", "S:;M: a/0;G:"}},
		{2, "a b", [...]string{"T1: a b;T2:;B1:;B2:;p: 0", "S: a/h b/c;Q: b", "A1in:;A1out:;Am: a b", "W: b;A: a;P:", "S:;M: a/0 b/0;G:"}},
		{2, "a a b c", [...]string{"T1: a b;T2:;B1:;B2:;p: 0", "S: a/h b/c;Q: b", "A1in:;A1out:;Am: a b", "W: b;A: a;P:", "S:;M: a/0 b/0;G:"}},
		{20, "a b c", [...]string{"T1: a b c;T2:;B1:;B2:;p: 0", "S: a/h b/h c/h;Q:", "A1in:;A1out:;Am: a b c", "W:;A: a b c;P:", "S:;M: a/0 b/0 c/0;G:"}},
	} {
		for _, k := range kinds {
			keys := strings.Fields(x.keys)
			e := from(t, k.kind, x.room, keys...)
			if got := e.State(); got != x.states[k.kind] || kindOf(e) != k.kind {
				t.Errorf("From(%d, %d, %s): %s, not %s", k.kind, x.room, x.keys, got, x.states[k.kind])
			}
			fromPair(t, k.kind, x.room, keys...).same("a", "b", "c", "d", "")
		}
	}
}

// P15.2: the empty text is a key as any other one, alone, first, between, last, twice, and when there is no room.
func TestFromEmptyText(t *testing.T) {
	for _, k := range kinds {
		for _, x := range []struct {
			room int
			keys []string
			want []string
		}{
			{3, []string{""}, []string{""}},
			{1, []string{""}, []string{""}},
			{1, []string{"", "a"}, []string{""}},
			{1, []string{"a", ""}, []string{"a"}},
			{3, []string{"", "", ""}, []string{""}},
			{3, []string{"", "a", "b", "c"}, []string{"", "a", "b"}},
			{3, []string{"a", "", "b", "c"}, []string{"", "a", "b"}},
			{3, []string{"a", "b", "", "c"}, []string{"", "a", "b"}},
			{3, []string{"a", "b", "c", ""}, []string{"a", "b", "c"}},
			{3, []string{"a", "", "a", "", "b"}, []string{"", "a", "b"}},
		} {
			e := from(t, k.kind, x.room, x.keys...)
			got := e.Keys()
			slices.Sort(got)
			if !slices.Equal(got, x.want) || e.Len() != len(x.want) || e.Has("") != slices.Contains(x.want, "") {
				t.Errorf("From(%d, %d, %q): %q, not %q", k.kind, x.room, x.keys, got, x.want)
			}
			fromPair(t, k.kind, x.room, x.keys...).same(append(x.keys, "", "a")...)
		}
	}
}

// P15.2: a nil list and an empty one are the same, and the same as New.
func TestFromNothing(t *testing.T) {
	for _, k := range kinds {
		for _, room := range []int{-1, 0, 1, 2, 10, api.MaxRoom, maxInt} {
			for _, keys := range [][]string{nil, {}, make([]string, 0, 9)} {
				e := from(t, k.kind, room, keys...)
				if e.State() != k.empty || e.Len() != 0 || e.Has("") || e.Room() != made(t, k.kind, room).Room() {
					t.Errorf("From(%d, %d): %s", k.kind, room, e.State())
				}
			}
			if e := from(t, k.kind, room); e.State() != k.empty {
				t.Errorf("From(%d, %d): %s", k.kind, room, e.State())
			}
		}
	}
}

// P15.2: as many keys as there is room, one less, one more, and far more, each once, twice in a row, and all of them twice.
func TestFromMany(t *testing.T) {
	for _, k := range kinds {
		for _, room := range []int{1, 2, 3, 9, 10, 11, 20, 100, api.MaxRoom - 1, api.MaxRoom, api.MaxRoom + 1} {
			c := min(room, api.MaxRoom)
			for _, n := range []int{c / 2, c - 1, c, c + 1, 2 * c, 3*c + 1} {
				keys := numbered("k", n)
				var twice []string
				for _, key := range keys {
					twice = append(twice, key, key)
				}
				back := slices.Clone(keys)
				slices.Reverse(back)
				for _, list := range [][]string{keys, twice, append(slices.Clone(keys), keys...), back} {
					x := fromPair(t, k.kind, room, list...)
					x.same(keys...)
					want := slices.Clone(list)
					want = onlyFirst(want)[:min(n, c)]
					got := x.e.Keys()
					slices.Sort(want)
					slices.Sort(got)
					if !slices.Equal(got, want) || len(x.e.Ghosts()) != 0 {
						t.Fatalf("%s: not just the first ones that there is room for", x.what)
					}
				}
			}
		}
	}
}

// onlyFirst is each key where it comes first.
func onlyFirst(keys []string) []string {
	seen := map[string]int{}
	return slices.DeleteFunc(keys, func(key string) bool {
		seen[key]++
		return seen[key] > 1
	})
}

// P15.2: any texts, in any order, and what is done behind.
func TestFromAny(t *testing.T) {
	pick := lots(31)
	some := anyKeys()
	for range 400 {
		var keys []string
		for range pick(30) {
			keys = append(keys, some[pick(len(some))])
		}
		for _, k := range kinds {
			x := fromPair(t, k.kind, 1+pick(25), keys...)
			x.same(some...)
			for range 20 {
				x.does(call{"++++=-!"[pick(7)], some[pick(len(some))]})
			}
		}
	}
}

// P15.2: a key is loaded, not used: the next ones tell.
func TestFromUsesNothing(t *testing.T) {
	for _, k := range kinds {
		used := made(t, k.kind, 3)
		for _, key := range []string{"a", "b", "a", "c"} {
			used.Access(key)
		}
		if e := from(t, k.kind, 3, "a", "b", "a", "c"); e.State() == used.State() {
			t.Errorf("kind %d: %s", k.kind, e.State())
		}
	}
	// By one use a drives b away, of whom none was noted.
	e := from(t, api.TinyLFU, 2, "b", "b", "b", "b", "b")
	e.Access("a")
	e.Access("c")
	if got := e.State(); got != "W: c;A: a;P:" {
		t.Error(got)
	}
}

// P15.2, W6: what is handed in is not changed, nor is the spare room behind its end.
func TestFromChangesNothing(t *testing.T) {
	for _, k := range kinds {
		for _, room := range []int{1, 2, 3, 10} {
			whole := strings.Fields("d b a b c c a e spare0 spare1 spare2")
			was := fmt.Sprint(whole)
			e := from(t, k.kind, room, whole[:8]...)
			for range 5 {
				e.Evict()
				e.Access("x")
				e.Load("y")
				e.Remove("a")
				e.Keys()
				e.Ghosts()
			}
			if got := fmt.Sprint(whole); got != was {
				t.Errorf("From(%d, %d): %s, not %s", k.kind, room, got, was)
			}
		}
	}
}

// P15.2, W6: what was handed in may be written over behind the call, list and texts.
func TestFromWrittenOver(t *testing.T) {
	for _, k := range kinds {
		keys := make([]string, 9, 20)
		for i := range keys {
			keys[i] = fresh("key" + strconv.Itoa(i%7))
		}
		x := &pair{t, "kind " + k.name, from(t, k.kind, 5, keys...), chapter(k.kind, 5)}
		for _, key := range keys {
			x.own.Load(fresh(key))
		}
		blotAll(keys)
		x.same(numbered("key", 9)...)
		x.does(calls("+key0 +key5 +key1 +key6 ! ! -key2 =key2 +key3 +key8 ! ! ! ! ! !")...)
	}
}

// P15.2, W6: neither the list nor the texts are held while the engine lives on.
func TestFromIsNotHeld(t *testing.T) {
	for _, k := range kinds {
		long := strings.Repeat("key", 1<<16)
		keys := make([]string, 1<<12)
		for i := range keys {
			keys[i] = long[i : i+10+i%5]
		}
		ofLong, ofKeys := weak.Make(dataOf(long)), weak.Make(&keys[0])
		e := from(t, k.kind, 20, keys...)
		long, keys = "", nil
		runtime.GC()
		if ofLong.Value() != nil || ofKeys.Value() != nil {
			t.Errorf("kind %d: what was handed in is still held", k.kind)
		}
		if e.Len() != 15 {
			t.Errorf("kind %d: %d are there", k.kind, e.Len())
		}
		runtime.KeepAlive(e)
	}
}

// P15.2, W2: engines from one list do not meet, nor does one from nothing meet them.
func TestFromOneList(t *testing.T) {
	keys := strings.Fields("a b c d e")
	for _, k := range kinds {
		x, y := fromPair(t, k.kind, 4, keys...), fromPair(t, k.kind, 4, keys...)
		z := fromPair(t, k.kind, 4)
		x.does(calls("+f +g +a ! -b =h")...)
		y.same("a", "b", "f", "g", "h")
		z.same("a", "b", "f", "g", "h")
		y.does(calls("! ! +e +a =z")...)
		x.same("a", "b", "e", "z")
		z.does(calls("+a +a +b")...)
		x.same("a", "b")
		y.same("a", "b")
	}
	var e engine.Engine = from(t, api.ARC, 4, keys...)
	if got := e.State(); got != "T1: a b c d;T2:;B1:;B2:;p: 0" {
		t.Error(got)
	}
}
