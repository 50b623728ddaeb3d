package shadow

import (
	"slices"
	"strings"
	"testing"

	"hoard/api"
	"hoard/engine"
	"hoard/ghost"
)

// readOut is an engine whose Accesses answer what a test wrote down: a hit or none, and who went.
// Of the five none lets go more than one key by an Access, or one at a hit; the promise speaks of all that went.
type readOut struct {
	engine.Engine
	answers []string
	asked   []string
}

func (e *readOut) Access(key string) (bool, []string) {
	e.asked = append(e.asked, key)
	words := strings.Fields(e.answers[0])
	e.answers = e.answers[1:]
	return words[0] == "hit", words[1:]
}

// seeing is a Shadow with room for so many that went, whose engine answers what is written down.
func seeing(room int, answers ...string) (*Shadow, *readOut) {
	e := &readOut{answers: answers}
	return &Shadow{kind: api.ARC, keys: e, went: ghost.New(room)}, e
}

// use is an Access, what the engine answers of it, and what the Shadow is behind it.
type use struct {
	key, answer string
	counts      Counts
	history     string
}

func holdUses(t *testing.T, room int, uses ...use) {
	t.Helper()
	var answers, keys []string
	for _, u := range uses {
		answers = append(answers, u.answer)
		keys = append(keys, u.key)
	}
	s, e := seeing(room, answers...)
	for i, u := range uses {
		if got := s.Access(u.key); got != strings.HasPrefix(u.answer, "hit") {
			t.Errorf("use %d of %q: %v", i, keys, got)
		}
		if got := s.Total(); got != u.counts || s.epoch != u.counts {
			t.Errorf("use %d of %q: %v, not %v; of this epoch %v", i, keys, got, u.counts, s.epoch)
		}
		if got := strings.Join(s.History(), " "); got != u.history {
			t.Errorf("use %d of %q: %s, not %s", i, keys, got, u.history)
		}
	}
	if !slices.Equal(e.asked, keys) {
		t.Errorf("the engine was asked of %q, not %q", e.asked, keys)
	}
}

// P17.1: all that went by one Access is Added to the Ghost, in order.
func TestAllThatWent(t *testing.T) {
	holdUses(t, 4,
		use{"x", "miss", Counts{1, 0, 0}, ""},
		use{"x", "miss a b c", Counts{2, 0, 0}, "a b c"},
		use{"y", "miss e d", Counts{3, 0, 0}, "b c e d"},
		use{"z", "miss f g h i j", Counts{4, 0, 0}, "g h i j"},
		// One that is there becomes the newest.
		use{"x", "miss h g", Counts{5, 0, 0}, "i j h g"},
		use{"x", "miss j j i", Counts{6, 0, 0}, "h g j i"},
	)
	holdUses(t, 1,
		use{"x", "miss a b c", Counts{1, 0, 0}, "c"},
		use{"c", "miss b a", Counts{2, 0, 1}, "a"},
		use{"b", "miss", Counts{3, 0, 1}, "a"},
	)
}

// P17.1: the Ghost Takes the key of an Access that is none, ahead of what is Added by it.
func TestTakenAhead(t *testing.T) {
	holdUses(t, 2,
		use{"x", "miss a b", Counts{1, 0, 0}, "a b"},
		// By two Adds the oldest would go, and it is the key.
		use{"a", "miss c d", Counts{2, 0, 1}, "c d"},
		// By one Add the oldest would go: its place is free.
		use{"d", "miss e", Counts{3, 0, 2}, "c e"},
		use{"c", "miss", Counts{4, 0, 3}, "e"},
		use{"c", "miss", Counts{5, 0, 3}, "e"},
		// One that goes by its own Access was not there ahead of it, and is there behind it.
		use{"f", "miss f", Counts{6, 0, 3}, "e f"},
		use{"f", "miss f", Counts{7, 0, 4}, "e f"},
		use{"e", "miss", Counts{8, 0, 5}, "f"},
	)
}

// P17.1: at a hit nothing is taken from the Ghost and counted for it; what went is Added all the same.
func TestNothingTakenAtHits(t *testing.T) {
	holdUses(t, 3,
		use{"x", "hit", Counts{1, 1, 0}, ""},
		use{"x", "miss a b", Counts{2, 1, 0}, "a b"},
		use{"a", "hit", Counts{3, 2, 0}, "a b"},
		use{"b", "hit", Counts{4, 3, 0}, "a b"},
		use{"a", "hit c", Counts{5, 4, 0}, "a b c"},
		use{"a", "hit d e", Counts{6, 5, 0}, "c d e"},
		use{"e", "hit e", Counts{7, 6, 0}, "c d e"},
		use{"e", "miss", Counts{8, 6, 1}, "c d"},
	)
}

// P17.1: each count stays at MaxCount, of this epoch and in all, each by itself; nobody can call so often, so they are laid there.
func TestCountsStay(t *testing.T) {
	const most = api.MaxCount
	if most != 1<<40 {
		t.Fatal("the test's own words")
	}
	for _, x := range []struct {
		key, answer string
		were, are   Counts
	}{
		{"x", "miss", Counts{most - 2, 5, 6}, Counts{most - 1, 5, 6}},
		{"x", "miss", Counts{most - 1, 5, 6}, Counts{most, 5, 6}},
		{"x", "miss", Counts{most, 5, 6}, Counts{most, 5, 6}},
		{"x", "miss", Counts{most, most, most}, Counts{most, most, most}},
		{"x", "hit", Counts{most - 1, most - 2, 6}, Counts{most, most - 1, 6}},
		{"x", "hit", Counts{most, most - 2, 6}, Counts{most, most - 1, 6}},
		{"x", "hit", Counts{most, most - 1, 6}, Counts{most, most, 6}},
		{"x", "hit", Counts{most, most, 6}, Counts{most, most, 6}},
		{"x", "hit", Counts{7, most, 6}, Counts{8, most, 6}},
		{"x", "hit", Counts{most, 7, most}, Counts{most, 8, most}},
		{"g", "miss", Counts{most - 1, 5, most - 2}, Counts{most, 5, most - 1}},
		{"g", "miss", Counts{most, 5, most - 2}, Counts{most, 5, most - 1}},
		{"g", "miss", Counts{most, 5, most - 1}, Counts{most, 5, most}},
		{"g", "miss", Counts{most, 5, most}, Counts{most, 5, most}},
		{"g", "miss", Counts{7, 5, most}, Counts{8, 5, most}},
		{"g", "miss", Counts{most, most, 7}, Counts{most, most, 8}},
		{"g", "miss", Counts{most, most, most}, Counts{most, most, most}},
	} {
		one := Counts{All: 1}
		if x.answer == "hit" {
			one.Hits = 1
		} else if x.key == "g" {
			one.Ghosts = 1
		}
		// Those in all are there.
		s, _ := seeing(3, x.answer)
		s.went.Add("g")
		s.total = x.were
		s.Access(x.key)
		if got, epoch := s.Total(), s.Epoch(); got != x.are || epoch != one {
			t.Errorf("%s, a %s, %v in all: %v, not %v; of this epoch %v", x.key, x.answer, x.were, got, x.are, epoch)
		}
		// Those of this epoch are.
		s, _ = seeing(3, x.answer, x.answer)
		s.went.Add("g")
		s.epoch = x.were
		s.Access(x.key)
		if got, epoch := s.Total(), s.Epoch(); got != one || epoch != x.are {
			t.Errorf("%s, a %s, %v of this epoch: %v, not %v; in all %v", x.key, x.answer, x.were, epoch, x.are, got)
		}
		s.went.Add("g")
		s.Access(x.key)
		if got := s.Epoch(); got != one {
			t.Errorf("%s, a %s: %v of the next epoch", x.key, x.answer, got)
		}
	}
}

// P17.1, P17.3: a Shadow that has counted all that it can goes on to see the same.
func TestFullCountsSeeTheSame(t *testing.T) {
	const most = api.MaxCount
	for kind := range api.Kinds {
		full, _ := New(kind, 3)
		fresh, _ := New(kind, 3)
		full.epoch, full.total = Counts{most, most, most}, Counts{most, most, most}
		for i := range 300 {
			key := string(rune('a' + i*i%7))
			if full.Access(key) != fresh.Access(key) || full.State() != fresh.State() || !slices.Equal(full.History(), fresh.History()) {
				t.Fatalf("kind %d, key %d: %s %q", kind, i, full.State(), full.History())
			}
			if got := full.Total(); got != (Counts{most, most, most}) {
				t.Fatalf("kind %d, key %d: %v", kind, i, got)
			}
		}
		if got := full.Epoch(); got != (Counts{most, most, most}) || full.Epoch() != (Counts{}) {
			t.Errorf("kind %d: %v", kind, got)
		}
	}
}
