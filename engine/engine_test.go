package engine_test

import (
	"slices"
	"strconv"
	"strings"
	"testing"

	"hoard/api"
	"hoard/engine"
)

// P15.1: New is an empty one of the kind's chapter.
func TestNew(t *testing.T) {
	if api.ARC != 0 || api.LIRS != 1 || api.TwoQ != 2 || api.TinyLFU != 3 || api.S3FIFO != 4 || api.Kinds != 5 || len(kinds) != api.Kinds {
		t.Fatal("the test's own words")
	}
	for _, k := range kinds {
		e := made(t, k.kind, 3)
		if got := kindOf(e); got != k.kind {
			t.Errorf("New(%d): an engine of kind %d", k.kind, got)
		}
		if got := e.State(); got != k.empty || e.Len() != 0 || len(e.Keys()) != 0 || len(e.Ghosts()) != 0 || e.Room() != 3 || e.Has("") {
			t.Errorf("New(%d): %s", k.kind, got)
		}
		if key, ok := e.Evict(); key != "" || ok {
			t.Errorf("New(%d): Evict %q", k.kind, key)
		}
	}
}

// P15.1, P15.2: a number that is none of the five: ErrKind, and no engine, whatever else is handed in.
func TestNoKind(t *testing.T) {
	for _, kind := range noKinds {
		for _, room := range []int{minInt, -1, 0, 1, 3, api.MaxRoom, maxInt} {
			if e, err := engine.New(kind, room); err != api.ErrKind || e != nil {
				t.Errorf("New(%d, %d): %v, error %d", kind, room, e, err)
			}
			for _, keys := range [][]string{nil, {}, {"a"}, {""}, {"a", "b", "a", ""}, numbered("k", 2000)} {
				given := slices.Clone(keys)
				if e, err := engine.From(kind, room, given...); err != api.ErrKind || e != nil {
					t.Errorf("From(%d, %d, %.100q): %v, error %d", kind, room, keys, e, err)
				}
				if !slices.Equal(given, keys) {
					t.Errorf("From(%d, %d, %.100q): what was handed in is %.100q", kind, room, keys, given)
				}
			}
		}
	}
	// And just there: so many numbers near to the kinds.
	for kind := -3000; kind < 3000; kind++ {
		want := api.ErrKind
		if kind >= 0 && kind <= 4 {
			want = api.OK
		}
		e, err := engine.New(kind, 2)
		f, also := engine.From(kind, 2, "a")
		if err != want || also != want || (e != nil) != (want == api.OK) || (f != nil) != (want == api.OK) {
			t.Errorf("%d: %v, error %d; %v, error %d", kind, e, err, f, also)
		}
	}
}

// P15.1, P15.2: the room is held within 1 and MaxRoom by each chapter.
func TestRooms(t *testing.T) {
	for _, k := range kinds {
		for _, x := range []struct{ room, want int }{
			{minInt, 1}, {minInt + 1, 1}, {-1 << 32, 1}, {-1<<32 + 5, 1}, {-1025, 1}, {-1024, 1}, {-10, 1}, {-2, 1}, {-1, 1}, {0, 1},
			{1, 1}, {2, 2}, {3, 3}, {4, 4}, {5, 5}, {9, 9}, {10, 10}, {11, 11}, {100, 100}, {255, 255}, {256, 256},
			{1022, 1022}, {1023, 1023}, {1024, 1024}, {1025, 1024}, {1026, 1024}, {2048, 1024}, {1 << 16, 1024},
			{1<<31 - 1, 1024}, {1 << 31, 1024}, {1 << 32, 1024}, {1<<32 + 5, 1024}, {1 << 62, 1024}, {maxInt - 1, 1024}, {maxInt, 1024},
		} {
			keys := numbered("k", x.want+2)
			e, f := made(t, k.kind, x.room), from(t, k.kind, x.room, keys...)
			if e.Room() != x.want || e.Len() != 0 || e.State() != k.empty {
				t.Errorf("New(%d, %d): Room %d, not %d; %d are resident", k.kind, x.room, e.Room(), x.want, e.Len())
			}
			if f.Room() != x.want || f.Len() != x.want {
				t.Errorf("From(%d, %d): Room %d, not %d; %d are resident", k.kind, x.room, f.Room(), x.want, f.Len())
			}
			for i, key := range keys {
				e.Access(key)
				if got := e.Len(); got != min(i+1, x.want) {
					t.Fatalf("New(%d, %d): %d are resident behind %d", k.kind, x.room, got, i+1)
				}
			}
			if got := e.Room(); got != x.want {
				t.Errorf("New(%d, %d): Room %d, not %d", k.kind, x.room, got, x.want)
			}
		}
	}
	if api.MaxRoom != 1024 {
		t.Error("the test's own words")
	}
}

// P15.1: each call of New makes a new one.
func TestEachIsNew(t *testing.T) {
	for _, k := range kinds {
		a, b := made(t, k.kind, 3), made(t, k.kind, 3)
		c, d := from(t, k.kind, 3, "x"), from(t, k.kind, 3)
		all := []engine.Engine{a, b, c, d}
		for i := range all {
			for j := range i {
				if all[i] == all[j] {
					t.Errorf("kind %d: %d is %d", k.kind, i, j)
				}
			}
		}
		a.Access("a")
		if b.Len() != 0 || c.Len() != 1 || d.Len() != 0 || !c.Has("x") || b.State() != k.empty || made(t, k.kind, 3).Len() != 0 {
			t.Errorf("kind %d: %s, %s, %s", k.kind, b.State(), c.State(), d.State())
		}
	}
}

// P15.1: Name of the five, and nothing of others.
func TestName(t *testing.T) {
	for _, k := range kinds {
		if got := engine.Name(k.kind); got != k.name {
			t.Errorf("Name(%d): %q, not %q", k.kind, got, k.name)
		}
	}
	if got := engine.Name(api.TwoQ); got != "2q" {
		t.Errorf("Name(TwoQ): %q", got)
	}
	for _, kind := range noKinds {
		if got := engine.Name(kind); got != "" {
			t.Errorf("Name(%d): %q", kind, got)
		}
	}
	for kind := -3000; kind < 3000; kind++ {
		if got := engine.Name(kind); (got != "") != (kind >= 0 && kind <= 4) {
			t.Errorf("Name(%d): %q", kind, got)
		}
	}
}

// kindNamed is what Kind must answer.
func kindNamed(name string) (int, bool) {
	for _, k := range kinds {
		if k.name == name {
			return k.kind, true
		}
	}
	return 0, false
}

// holdKind holds Kind of a name against what it must answer.
func holdKind(t *testing.T, name string) {
	t.Helper()
	want, is := kindNamed(name)
	if got, ok := engine.Kind(name); got != want || ok != is {
		t.Errorf("Kind(%.60q): %d %v, not %d %v", name, got, ok, want, is)
	}
}

// P15.1: Kind of the five names, and of names that are none.
func TestKind(t *testing.T) {
	for _, x := range []struct {
		name string
		kind int
		ok   bool
	}{
		{"arc", 0, true}, {"lirs", 1, true}, {"2q", 2, true}, {"tinylfu", 3, true}, {"s3fifo", 4, true},
		{"", 0, false}, {"ARC", 0, false}, {"Arc", 0, false}, {"arC", 0, false}, {"LIRS", 0, false}, {"Lirs", 0, false}, {"2Q", 0, false},
		{"TinyLFU", 0, false}, {"TINYLFU", 0, false}, {"tinyLFU", 0, false}, {"S3FIFO", 0, false}, {"S3fifo", 0, false}, {"s3Fifo", 0, false},
		{"twoq", 0, false}, {"TwoQ", 0, false}, {"q2", 0, false}, {"w-tinylfu", 0, false}, {"W-TinyLFU", 0, false}, {"s3-fifo", 0, false}, {"S3-FIFO", 0, false},
		{"lru", 0, false}, {"lfu", 0, false}, {"fifo", 0, false}, {"sieve", 0, false}, {"none", 0, false}, {"nil", 0, false},
		{"0", 0, false}, {"1", 0, false}, {"2", 0, false}, {"3", 0, false}, {"4", 0, false}, {"5", 0, false}, {"-1", 0, false},
		{"arc\x00", 0, false}, {"\x00arc", 0, false}, {"arc\n", 0, false}, {" arc", 0, false}, {"arc ", 0, false}, {"аrc", 0, false}, {"lırs", 0, false}, {"\ufeffarc", 0, false},
		{"arc,lirs", 0, false}, {"arc lirs", 0, false}, {"arclirs2qtinylfus3fifo", 0, false}, {"\xff", 0, false},
	} {
		if got, ok := engine.Kind(x.name); got != x.kind || ok != x.ok {
			t.Errorf("Kind(%q): %d %v, not %d %v", x.name, got, ok, x.kind, x.ok)
		}
		holdKind(t, x.name)
	}
	for _, name := range anyKeys() {
		holdKind(t, name)
	}
	holdKind(t, strings.Repeat("arc", 1<<20))
	holdKind(t, "arc"+strings.Repeat(" ", 1<<20))
}

// P15.1: Kind of names that are alike a kind's but for one byte, another one, one less or one more, or for their ends.
func TestKindOfAlike(t *testing.T) {
	for _, k := range kinds {
		name := k.name
		for i := range len(name) {
			holdKind(t, name[:i]+name[i+1:])
			holdKind(t, name[:i])
			holdKind(t, name[i:])
			holdKind(t, name[:i]+strings.ToUpper(name[i:]))
			holdKind(t, strings.ToUpper(name[:i])+name[i:])
			for b := range 256 {
				holdKind(t, name[:i]+string([]byte{byte(b)})+name[i+1:])
			}
		}
		for i := range len(name) + 1 {
			for b := range 256 {
				holdKind(t, name[:i]+string([]byte{byte(b)})+name[i:])
			}
		}
		for _, other := range kinds {
			holdKind(t, name+other.name)
			holdKind(t, name+" "+other.name)
		}
		// A name is told by its bytes, wherever they lie.
		holdKind(t, (" " + name + " ")[1:1+len(name)])
	}
}

// P15.1: Kind is the way back of Name.
func TestThereAndBack(t *testing.T) {
	for kind := range api.Kinds {
		if got, ok := engine.Kind(engine.Name(kind)); got != kind || !ok {
			t.Errorf("%d: %d %v", kind, got, ok)
		}
	}
	for _, name := range strings.Fields("arc lirs 2q tinylfu s3fifo") {
		kind, ok := engine.Kind(name)
		if got := engine.Name(kind); got != name || !ok {
			t.Errorf("%s: %s %v", name, got, ok)
		}
	}
	for _, kind := range noKinds {
		if got, ok := engine.Kind(engine.Name(kind)); got != 0 || ok {
			t.Errorf("%d: %d %v", kind, got, ok)
		}
		if got, ok := engine.Kind(strconv.Itoa(kind)); got != 0 || ok {
			t.Errorf("%d as a text: %d %v", kind, got, ok)
		}
	}
}
