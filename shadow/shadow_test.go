package shadow_test

import (
	"slices"
	"strings"
	"testing"

	"hoard/api"
	"hoard/engine"
	"hoard/ghost"
	"hoard/shadow"
)

func TestExample(t *testing.T) {
	s, err := shadow.New(api.TwoQ, 1)
	if err != api.OK {
		t.Fatal(err)
	}
	for _, key := range []string{"a", "b", "a"} {
		s.Access(key)
	}
	if got := s.Epoch(); got != (shadow.Counts{All: 3, Hits: 0, Ghosts: 1}) {
		t.Error(got)
	}
}

// P17.1, P17.2: a new one of each kind has seen nothing.
func TestNew(t *testing.T) {
	if api.ARC != 0 || api.LIRS != 1 || api.TwoQ != 2 || api.TinyLFU != 3 || api.S3FIFO != 4 || api.Kinds != 5 || len(kinds) != api.Kinds {
		t.Fatal("the test's own words")
	}
	for _, k := range kinds {
		for _, room := range []int{minInt, -1, 0, 1, 2, 10, api.MaxRoom, api.MaxRoom + 1, maxInt} {
			s := made(t, k.kind, room)
			if got := s.Kind(); got != k.kind {
				t.Errorf("New(%d, %d): Kind %d", k.kind, room, got)
			}
			if s.State() != k.empty || len(s.History()) != 0 || s.Total() != (shadow.Counts{}) || s.Epoch() != (shadow.Counts{}) {
				t.Errorf("New(%d, %d): %s, %q, %v", k.kind, room, s.State(), s.History(), s.Total())
			}
		}
	}
}

// P17.1: a number that is none of the five: chapter 15's error, and no Shadow, whatever the room.
func TestNoKind(t *testing.T) {
	all := []int{
		minInt, minInt + 1, minInt + 4, -1 << 62, -1 << 40, -1 << 32, -1<<32 + 1, -1 << 31, -256, -255, 255, 256, 257, 260, 261,
		1<<16 + 1, 1<<31 - 1, 1 << 31, 1<<31 + 2, 1 << 32, 1<<32 + 3, 1<<32 + 4, 1 << 40, 1 << 62, 1<<62 + 4, maxInt - 4, maxInt - 1, maxInt,
	}
	for kind := range 300 {
		all = append(all, -1-kind, 5+kind)
	}
	for _, kind := range all {
		for _, room := range []int{minInt, -1, 0, 1, 3, api.MaxRoom, maxInt} {
			if s, err := shadow.New(kind, room); s != nil || err != api.ErrKind {
				t.Errorf("New(%d, %d): %v, error %d", kind, room, s, err)
			}
		}
		if _, err := engine.New(kind, 1); err != api.ErrKind {
			t.Errorf("%d: an engine's error is %d", kind, err)
		}
	}
}

// rooms is numbers, and what is held of them.
var rooms = []struct{ room, want int }{
	{minInt, 1}, {minInt + 1, 1}, {-1 << 32, 1}, {-1<<32 + 5, 1}, {-1025, 1}, {-1024, 1}, {-10, 1}, {-2, 1}, {-1, 1}, {0, 1},
	{1, 1}, {2, 2}, {3, 3}, {4, 4}, {5, 5}, {9, 9}, {10, 10}, {11, 11}, {100, 100}, {255, 255}, {256, 256},
	{1023, 1023}, {1024, 1024}, {1025, 1024}, {2048, 1024}, {1 << 16, 1024},
	{1<<31 - 1, 1024}, {1 << 31, 1024}, {1 << 32, 1024}, {1<<32 + 5, 1024}, {1 << 62, 1024}, {maxInt - 1, 1024}, {maxInt, 1024},
}

// P17.1: the engine and the Ghost both are of room, held within 1 and MaxRoom: of keys that come once the engine has so many, and the Ghost so many of those that went.
func TestRooms(t *testing.T) {
	if api.MaxRoom != 1024 {
		t.Fatal("the test's own words")
	}
	for _, k := range kinds {
		for _, x := range rooms {
			s := made(t, k.kind, x.room)
			keys := numbered("k", 2*x.want+2)
			for i, key := range keys {
				if s.Access(key) {
					t.Fatalf("New(%d, %d): key %d was there", k.kind, x.room, i)
				}
				if x.want > 20 && i%x.want > 1 {
					continue
				}
				went := min(max(i+1-x.want, 0), x.want)
				if got := s.History(); len(got) != went {
					t.Fatalf("New(%d, %d): behind key %d %d went, not %d", k.kind, x.room, i, len(got), went)
				}
			}
			if got := s.Total(); got != (shadow.Counts{All: len(keys)}) {
				t.Errorf("New(%d, %d): %v", k.kind, x.room, got)
			}
		}
	}
}

// step is an Access, and what there is behind it; the counts are those in all.
type step struct {
	key     string
	hit     bool
	counts  shadow.Counts
	history string
	state   string
}

func counts(all, hits, ghosts int) shadow.Counts {
	return shadow.Counts{All: all, Hits: hits, Ghosts: ghosts}
}

func holdSteps(t *testing.T, kind, room int, steps []step) {
	t.Helper()
	s := made(t, kind, room)
	for i, x := range steps {
		if got := s.Access(x.key); got != x.hit {
			t.Errorf("kind %d, room %d, step %d, %s: %v", kind, room, i, x.key, got)
		}
		if got := s.Total(); got != x.counts {
			t.Errorf("kind %d, room %d, step %d, %s: %v, not %v", kind, room, i, x.key, got, x.counts)
		}
		if got := s.History(); !slices.Equal(got, strings.Fields(x.history)) {
			t.Errorf("kind %d, room %d, step %d, %s: History %q, not %s", kind, room, i, x.key, got, x.history)
		}
		if got := s.State(); got != x.state {
			t.Errorf("kind %d, room %d, step %d, %s: %s, not %s", kind, room, i, x.key, got, x.state)
		}
		if got := s.Kind(); got != kind {
			t.Errorf("kind %d, room %d, step %d, %s: Kind %d", kind, room, i, x.key, got)
		}
	}
	if got := s.Epoch(); got != steps[len(steps)-1].counts {
		t.Errorf("kind %d, room %d: Epoch %v", kind, room, got)
	}
}

// P17.1, P17.2, P17.3: one script in room 4 for each kind, by the words of its chapter; the Ghost is the same for all kinds, not the engine's own ghosts.
func TestOneScript(t *testing.T) {
	for kind, steps := range [api.Kinds][]step{
		api.ARC: {
			{"a", false, counts(1, 0, 0), "", "T1: a;T2:;B1:;B2:;p: 0"},
			{"b", false, counts(2, 0, 0), "", "T1: a b;T2:;B1:;B2:;p: 0"},
			{"a", true, counts(3, 1, 0), "", "T1: b;T2: a;B1:;B2:;p: 0"},
			{"c", false, counts(4, 1, 0), "", "T1: b c;T2: a;B1:;B2:;p: 0"},
			{"d", false, counts(5, 1, 0), "", "T1: b c d;T2: a;B1:;B2:;p: 0"},
			{"e", false, counts(6, 1, 0), "b", "T1: c d e;T2: a;B1: b;B2:;p: 0"},
			{"b", false, counts(7, 1, 1), "c", "T1: d e;T2: a b;B1: c;B2:;p: 1"},
			{"a", true, counts(8, 2, 1), "c", "T1: d e;T2: b a;B1: c;B2:;p: 1"},
			{"f", false, counts(9, 2, 1), "c d", "T1: e f;T2: b a;B1: c d;B2:;p: 1"},
			{"f", true, counts(10, 3, 1), "c d", "T1: e;T2: b a f;B1: c d;B2:;p: 1"},
			{"e", true, counts(11, 4, 1), "c d", "T1:;T2: b a f e;B1: c d;B2:;p: 1"},
			{"c", false, counts(12, 4, 2), "d b", "T1:;T2: a f e c;B1: d;B2: b;p: 2"},
		},
		api.LIRS: {
			{"a", false, counts(1, 0, 0), "", "S: a/h;Q:"},
			{"b", false, counts(2, 0, 0), "", "S: a/h b/h;Q:"},
			{"a", true, counts(3, 1, 0), "", "S: b/h a/h;Q:"},
			{"c", false, counts(4, 1, 0), "", "S: b/h a/h c/h;Q:"},
			{"d", false, counts(5, 1, 0), "", "S: b/h a/h c/h d/c;Q: d"},
			{"e", false, counts(6, 1, 0), "d", "S: b/h a/h c/h d/g e/c;Q: e"},
			{"b", true, counts(7, 2, 0), "d", "S: a/h c/h d/g e/c b/h;Q: e"},
			{"a", true, counts(8, 3, 0), "d", "S: c/h d/g e/c b/h a/h;Q: e"},
			{"f", false, counts(9, 3, 0), "d e", "S: c/h d/g e/g b/h a/h f/c;Q: f"},
			{"f", true, counts(10, 4, 0), "d e", "S: b/h a/h f/h;Q: c"},
			// e and d left S with the others, and are in the Ghost still.
			{"e", false, counts(11, 4, 1), "d c", "S: b/h a/h f/h e/c;Q: e"},
			{"c", false, counts(12, 4, 2), "d e", "S: b/h a/h f/h e/g c/c;Q: c"},
		},
		api.TwoQ: {
			{"a", false, counts(1, 0, 0), "", "A1in: a;A1out:;Am:"},
			{"b", false, counts(2, 0, 0), "", "A1in: a b;A1out:;Am:"},
			{"a", true, counts(3, 1, 0), "", "A1in: a b;A1out:;Am:"},
			{"c", false, counts(4, 1, 0), "", "A1in: a b c;A1out:;Am:"},
			{"d", false, counts(5, 1, 0), "", "A1in: a b c d;A1out:;Am:"},
			{"e", false, counts(6, 1, 0), "a", "A1in: b c d e;A1out: a;Am:"},
			{"b", true, counts(7, 2, 0), "a", "A1in: b c d e;A1out: a;Am:"},
			{"a", false, counts(8, 2, 1), "b", "A1in: c d e;A1out: b;Am: a"},
			{"f", false, counts(9, 2, 1), "b c", "A1in: d e f;A1out: b c;Am: a"},
			{"f", true, counts(10, 3, 1), "b c", "A1in: d e f;A1out: b c;Am: a"},
			{"e", true, counts(11, 4, 1), "b c", "A1in: d e f;A1out: b c;Am: a"},
			{"c", false, counts(12, 4, 2), "b d", "A1in: e f;A1out: b d;Am: a c"},
		},
		api.TinyLFU: {
			{"a", false, counts(1, 0, 0), "", "W: a;A:;P:"},
			{"b", false, counts(2, 0, 0), "", "W: b;A: a;P:"},
			{"a", true, counts(3, 1, 0), "", "W: b;A:;P: a"},
			{"c", false, counts(4, 1, 0), "", "W: c;A: b;P: a"},
			{"d", false, counts(5, 1, 0), "", "W: d;A: b c;P: a"},
			{"e", false, counts(6, 1, 0), "d", "W: e;A: b c;P: a"},
			{"b", true, counts(7, 2, 0), "d", "W: e;A: c;P: a b"},
			{"a", true, counts(8, 3, 0), "d", "W: e;A: c;P: b a"},
			{"f", false, counts(9, 3, 0), "d e", "W: f;A: c;P: b a"},
			{"f", true, counts(10, 4, 0), "d e", "W: f;A: c;P: b a"},
			{"e", false, counts(11, 4, 1), "d c", "W: e;A: f;P: b a"},
			{"c", false, counts(12, 4, 2), "d e", "W: c;A: f;P: b a"},
		},
		api.S3FIFO: {
			{"a", false, counts(1, 0, 0), "", "S: a/0;M:;G:"},
			{"b", false, counts(2, 0, 0), "", "S: a/0 b/0;M:;G:"},
			{"a", true, counts(3, 1, 0), "", "S: a/1 b/0;M:;G:"},
			{"c", false, counts(4, 1, 0), "", "S: a/1 b/0 c/0;M:;G:"},
			{"d", false, counts(5, 1, 0), "", "S: a/1 b/0 c/0 d/0;M:;G:"},
			{"e", false, counts(6, 1, 0), "a", "S: b/0 c/0 d/0 e/0;M:;G: a"},
			{"b", true, counts(7, 2, 0), "a", "S: b/1 c/0 d/0 e/0;M:;G: a"},
			{"a", false, counts(8, 2, 1), "b", "S: c/0 d/0 e/0;M: a/0;G: b"},
			{"f", false, counts(9, 2, 1), "b c", "S: d/0 e/0 f/0;M: a/0;G: b c"},
			{"f", true, counts(10, 3, 1), "b c", "S: d/0 e/0 f/1;M: a/0;G: b c"},
			{"e", true, counts(11, 4, 1), "b c", "S: d/0 e/1 f/1;M: a/0;G: b c"},
			{"c", false, counts(12, 4, 2), "b d", "S: e/1 f/1;M: a/0 c/0;G: b d"},
		},
	} {
		holdSteps(t, kind, 4, steps)
	}
}

// P17.1: in room 1 each key that is not there drives out the one that is; it is told by its turn whether the Ghost has it still.
func TestRoomOfOne(t *testing.T) {
	states := [api.Kinds][]string{
		api.ARC: {
			"T1: a;T2:;B1:;B2:;p: 0", "T1: b;T2:;B1:;B2:;p: 0", "T1: a;T2:;B1:;B2:;p: 0", "T1:;T2: a;B1:;B2:;p: 0",
			"T1: c;T2:;B1:;B2: a;p: 0", "T1: b;T2:;B1:;B2: a;p: 0", "T1: c;T2:;B1:;B2: a;p: 0",
		},
		api.LIRS:    {"S:;Q: a", "S:;Q: b", "S:;Q: a", "S:;Q: a", "S:;Q: c", "S:;Q: b", "S:;Q: c"},
		api.TwoQ:    {"A1in: a;A1out:;Am:", "A1in: b;A1out: a;Am:", "A1in:;A1out: b;Am: a", "A1in:;A1out: b;Am: a", "A1in: c;A1out: b;Am:", "A1in:;A1out: c;Am: b", "A1in:;A1out:;Am: c"},
		api.TinyLFU: {"W: a;A:;P:", "W: b;A:;P:", "W: a;A:;P:", "W: a;A:;P:", "W: c;A:;P:", "W: b;A:;P:", "W: c;A:;P:"},
		api.S3FIFO:  {"S: a/0;M:;G:", "S: b/0;M:;G: a", "S: a/0;M:;G: b", "S: a/1;M:;G: b", "S: c/0;M:;G: a", "S: b/0;M:;G: c", "S: c/0;M:;G: b"},
	}
	for kind, state := range states {
		for _, room := range []int{minInt, -1, 0, 1} {
			holdSteps(t, kind, room, []step{
				{"a", false, counts(1, 0, 0), "", state[0]},
				{"b", false, counts(2, 0, 0), "a", state[1]},
				// The Ghost has room for one: a is taken ahead of b's Add, which would drive it out.
				{"a", false, counts(3, 0, 1), "b", state[2]},
				{"a", true, counts(4, 1, 1), "b", state[3]},
				// The Ghost has b, and another one came: a drives it out.
				{"c", false, counts(5, 1, 1), "a", state[4]},
				{"b", false, counts(6, 1, 1), "c", state[5]},
				{"c", false, counts(7, 1, 2), "b", state[6]},
			})
		}
	}
}

// P17.1: in room 2 the kinds differ in who went, and so in who is met.
func TestRoomOfTwo(t *testing.T) {
	for _, x := range []struct {
		kind           int
		counts         shadow.Counts
		history, state string
	}{
		{api.ARC, counts(4, 0, 1), "b", "T1: c a;T2:;B1:;B2:;p: 0"},
		{api.LIRS, counts(4, 1, 0), "b", "S: a/h;Q: c"},
		{api.TwoQ, counts(4, 0, 1), "b", "A1in: c;A1out: b;Am: a"},
		{api.TinyLFU, counts(4, 1, 0), "b", "W: c;A: a;P:"},
		{api.S3FIFO, counts(4, 0, 1), "b", "S: c/0 a/0;M:;G: b"},
	} {
		s := made(t, x.kind, 2)
		for _, c := range calls("a b c a") {
			s.Access(c.key)
		}
		if s.Total() != x.counts || strings.Join(s.History(), " ") != x.history || s.State() != x.state {
			t.Errorf("kind %d: %v, %q, %s", x.kind, s.Total(), s.History(), s.State())
		}
		newPair(t, x.kind, 2).does(calls("a b c a ! b c a !")...)
	}
}

// P17.2: Epoch is the counts since the last one, and they are 0 then; Total goes on.
func TestEpochs(t *testing.T) {
	for _, k := range kinds {
		s := made(t, k.kind, 1)
		ends := func(want shadow.Counts) {
			t.Helper()
			total, state, history := s.Total(), s.State(), s.History()
			if got := s.Epoch(); got != want {
				t.Errorf("kind %d: Epoch %v, not %v", k.kind, got, want)
			}
			// Twice in a row.
			if got := s.Epoch(); got != (shadow.Counts{}) {
				t.Errorf("kind %d: right behind an Epoch %v", k.kind, got)
			}
			if s.Total() != total || s.State() != state || !slices.Equal(s.History(), history) {
				t.Errorf("kind %d: an Epoch made %v, %s, %q of %v, %s, %q", k.kind, s.Total(), s.State(), s.History(), total, state, history)
			}
		}
		uses := func(script string) {
			for _, c := range calls(script) {
				s.Access(c.key)
			}
		}
		ends(counts(0, 0, 0))
		uses("a")
		ends(counts(1, 0, 0))
		uses("a")
		ends(counts(1, 1, 0))
		uses("b")
		ends(counts(1, 0, 0))
		// What went in one epoch is met in another one.
		uses("a")
		ends(counts(1, 0, 1))
		uses("a a a b a b b c d c")
		ends(counts(10, 4, 4))
		uses("")
		ends(counts(0, 0, 0))
		uses(strings.Repeat("x x y ", 1000))
		ends(counts(3000, 1000, 1998))
		if got := s.Total(); got != counts(3014, 1005, 2003) {
			t.Errorf("kind %d: Total %v", k.kind, got)
		}
		if got := s.Epoch(); got != (shadow.Counts{}) {
			t.Errorf("kind %d: behind a Total %v", k.kind, got)
		}
	}
}

// P17.1: the empty text is a key as any other one.
func TestEmptyText(t *testing.T) {
	for _, k := range kinds {
		s := made(t, k.kind, 1)
		if s.Access("") || !s.Access("") || len(s.History()) != 0 {
			t.Errorf("kind %d: %q, %v", k.kind, s.History(), s.Total())
		}
		if s.Access("a") || !slices.Equal(s.History(), []string{""}) {
			t.Errorf("kind %d: %q, %v", k.kind, s.History(), s.Total())
		}
		if s.Access("") || !slices.Equal(s.History(), []string{"a"}) {
			t.Errorf("kind %d: %q, %v", k.kind, s.History(), s.Total())
		}
		if s.Access("b") || !slices.Equal(s.History(), []string{""}) {
			t.Errorf("kind %d: %q, %v", k.kind, s.History(), s.Total())
		}
		if got := s.Epoch(); got != counts(5, 1, 1) {
			t.Errorf("kind %d: %v", k.kind, got)
		}
	}
}

// P17.1: keys with any bytes are told as they are.
func TestAnyBytes(t *testing.T) {
	for _, k := range kinds {
		for _, key := range anyKeys() {
			s := made(t, k.kind, 1)
			if s.Access(key) || !s.Access(key) || s.Access("another one") {
				t.Errorf("kind %d: %.80q", k.kind, key)
			}
			if got := s.History(); len(got) != 1 || got[0] != key {
				t.Errorf("kind %d: History %.80q, not %.80q", k.kind, got, key)
			}
			if s.Access(key) || s.Total() != counts(4, 1, 1) {
				t.Errorf("kind %d: %.80q: %v", k.kind, key, s.Total())
			}
		}
	}
}

// P17.3: it is the chapter's engine, folded over the keys, and a Ghost that is led by hand beside it.
func TestLedByHand(t *testing.T) {
	for _, k := range kinds {
		for _, x := range rooms {
			s := made(t, k.kind, x.room)
			e, err := engine.New(k.kind, x.room)
			if err != api.OK {
				t.Fatal(err)
			}
			g := ghost.New(x.room)
			hits, ghosts := 0, 0
			pick := lots(uint64(x.want))
			keys := numbered("k", 3*x.want)
			for range min(4*x.want+40, 3000) {
				key := keys[pick(1+pick(len(keys)))]
				hit, gone := e.Access(key)
				if hit {
					hits++
				} else if g.Take(key) {
					ghosts++
				}
				for _, other := range gone {
					g.Add(other)
				}
				if got := s.Access(key); got != hit {
					t.Fatalf("kind %d, room %d: Access(%s): %v", k.kind, x.room, key, got)
				}
				if got := s.Total(); got.Hits != hits || got.Ghosts != ghosts {
					t.Fatalf("kind %d, room %d: %v, not %d, %d", k.kind, x.room, got, hits, ghosts)
				}
			}
			if s.State() != e.State() || !slices.Equal(s.History(), g.Keys()) {
				t.Errorf("kind %d, room %d: %.400q, %.400q", k.kind, x.room, s.State(), s.History())
			}
		}
	}
}

// P17.3, W8: a nil Shadow sees nothing, and its Kind is -1.
func TestNilShadow(t *testing.T) {
	var s *shadow.Shadow
	seesNothing(t, s)
	if s != nil {
		t.Error("nil no more")
	}
}

// W1: so does one that New did not make.
func TestZeroShadow(t *testing.T) { seesNothing(t, new(shadow.Shadow)) }

func seesNothing(t *testing.T, s *shadow.Shadow) {
	t.Helper()
	for range 2 {
		for _, key := range anyKeys() {
			if s.Access(key) || s.Access(key) {
				t.Errorf("%.40q is there", key)
			}
			if s.Total() != (shadow.Counts{}) || s.Epoch() != (shadow.Counts{}) {
				t.Errorf("%v, %v", s.Total(), s.Epoch())
			}
			if s.State() != "" || len(s.History()) != 0 || s.Kind() != -1 {
				t.Errorf("%q, %q, Kind %d", s.State(), s.History(), s.Kind())
			}
		}
	}
}
