package lirs_test

import (
	"fmt"
	"math"
	"runtime"
	"slices"
	"strconv"
	"strings"
	"testing"
	"unsafe"
	"weak"

	"hoard/api"
	"hoard/lirs"
)

// said is what the last call of a script answered: hit or miss and what went, yes or no, or the key that an Evict answered.
func said(e *lirs.Engine, script string) string {
	answer := ""
	for _, c := range calls(script) {
		switch c.what {
		case '+':
			hit, gone := e.Access(c.key)
			answer = map[bool]string{true: "hit", false: "miss"}[hit] + strings.Join(append([]string{""}, gone...), " ")
		case '=':
			answer = map[bool]string{true: "yes", false: "no"}[e.Load(c.key)]
		case '-':
			answer = map[bool]string{true: "yes", false: "no"}[e.Remove(c.key)]
		default:
			key, ok := e.Evict()
			answer = map[bool]string{true: "yes " + key, false: "no" + key}[ok]
		}
	}
	return answer
}

// scripted is a script, what its last call answers, and all of State behind it.
type scripted struct {
	room                  int
	script, answer, state string
}

func run(t *testing.T, all ...scripted) {
	t.Helper()
	for _, s := range all {
		e := lirs.New(s.room)
		if got := said(e, s.script); got != s.answer {
			t.Errorf("room %d, %s: %q, not %q", s.room, s.script, got, s.answer)
		}
		if got := e.State(); got != s.state {
			t.Errorf("room %d, %s:\n%s, not\n%s", s.room, s.script, got, s.state)
		}
		newPair(t, s.room).does(calls(s.script)...)
	}
}

// numbered is so many words of a script: a call on a letter and 0, 1, 2 and so on.
func numbered(what string, n int) string {
	s := ""
	for i := range n {
		s += what + strconv.Itoa(i) + " "
	}
	return s
}

// hot is what State tells of m0, m1 and so on up to below n where they are hot, from the first on.
func hot(first, n int) string {
	s := ""
	for i := first; i < n; i++ {
		s += fmt.Sprintf(" m%d/h", i)
	}
	return s
}

// all18 is a script by which room 20 has as many hot keys as may be, and allTurned brings each of them to the top: what lies between leaves S.
var (
	all18     = numbered("=m", 18)
	allTurned = numbered("+m", 18)
)

func TestExample(t *testing.T) {
	e := lirs.New(2)
	for _, key := range []string{"a", "b", "c"} {
		e.Access(key)
	}
	if got := e.State(); got != "S: a/h b/g c/c;Q: c" {
		t.Error(got)
	}
}

// Words, P13.4: the room is held within 1 and MaxRoom.
func TestRooms(t *testing.T) {
	for _, x := range []struct{ room, want int }{
		{math.MinInt, 1}, {math.MinInt + 1, 1}, {-(1 << 32) + 5, 1}, {-(1 << 32), 1}, {-1025, 1}, {-1024, 1}, {-20, 1}, {-2, 1}, {-1, 1}, {0, 1},
		{1, 1}, {2, 2}, {3, 3}, {9, 9}, {10, 10}, {11, 11}, {19, 19}, {20, 20}, {21, 21}, {255, 255}, {256, 256},
		{1022, 1022}, {1023, 1023}, {1024, 1024}, {1025, 1024}, {2048, 1024},
		{1 << 16, 1024}, {1<<31 - 1, 1024}, {1 << 31, 1024}, {1 << 32, 1024}, {1<<32 + 5, 1024}, {1 << 62, 1024}, {math.MaxInt - 1, 1024}, {math.MaxInt, 1024},
	} {
		e := lirs.New(x.room)
		if got := e.Room(); got != x.want {
			t.Errorf("New(%d): Room %d, not %d", x.room, got, x.want)
		}
		if got := e.State(); got != "S:;Q:" || e.Len() != 0 || len(e.Keys()) != 0 || len(e.Ghosts()) != 0 {
			t.Errorf("New(%d): %s", x.room, got)
		}
		for i := range x.want + 2 {
			e.Access(strconv.Itoa(i))
		}
		if got := e.Len(); got != x.want {
			t.Errorf("New(%d): %d are resident, not %d", x.room, got, x.want)
		}
	}
	if api.MaxRoom != 1024 {
		t.Error("the test's own words")
	}
}

// Words: a tenth of the room may be cold, rounded down, at least 1, and the rest may be hot; S has at most c ghosts.
func TestParts(t *testing.T) {
	for _, x := range []struct{ room, c, colds int }{
		{math.MinInt, 1, 1}, {-1024, 1, 1}, {-20, 1, 1}, {-1, 1, 1}, {0, 1, 1},
		{1, 1, 1}, {2, 2, 1}, {3, 3, 1}, {4, 4, 1}, {9, 9, 1}, {10, 10, 1}, {11, 11, 1}, {15, 15, 1},
		{19, 19, 1}, {20, 20, 2}, {21, 21, 2}, {29, 29, 2}, {30, 30, 3}, {31, 31, 3},
		{99, 99, 9}, {100, 100, 10}, {1019, 1019, 101}, {1020, 1020, 102}, {1023, 1023, 102},
		{1024, 1024, 102}, {1025, 1024, 102}, {2048, 1024, 102}, {math.MaxInt, 1024, 102},
	} {
		for _, what := range []string{"=m", "+m"} {
			e := lirs.New(x.room)
			said(e, numbered(what, x.c))
			want := "S:" + hot(0, x.c-x.colds) + cold("m", x.c-x.colds, x.c)
			if got := e.State(); got != above(x.c, want) {
				t.Errorf("New(%d), %s: %.200s, not %.200s", x.room, what, got, want)
			}
		}
		// By c Accesses more there are just c ghosts, and by each one more the lowest is forgotten.
		e := lirs.New(x.room)
		said(e, numbered("+m", x.c)+numbered("+n", x.c))
		if got := len(e.Ghosts()); x.c > 1 && got != x.c {
			t.Errorf("New(%d): %d ghosts, not %d", x.room, got, x.c)
		}
		said(e, numbered("+g", x.c+x.colds))
		want := "S:" + hot(0, x.c-x.colds)
		for i := range x.c {
			want += fmt.Sprintf(" g%d/g", i)
		}
		want += cold("g", x.c, x.c+x.colds)
		if got := e.State(); got != above(x.c, want) {
			t.Errorf("New(%d): %.200s, not %.200s", x.room, got, want)
		}
	}
}

// cold is what State tells of the top of S, and of Q, where keys with these numbers are cold.
func cold(name string, first, n int) string {
	s, q := "", ";Q:"
	for i := first; i < n; i++ {
		s += fmt.Sprintf(" %s%d/c", name, i)
		q += fmt.Sprintf(" %s%d", name, i)
	}
	return s + q
}

// above is a State with S as it is told, where somebody may be hot in the room, else without any of S.
func above(room int, state string) string {
	if room > 1 {
		return state
	}
	return "S:" + state[strings.Index(state, ";Q:"):]
}

// P13.1: a hot key goes to the top of S; what is not hot at the bottom leaves S.
func TestAccessOfHot(t *testing.T) {
	run(t,
		// S's bottom, the next one, the top.
		scripted{2, "+a +a", "hit", "S: a/h;Q:"},
		scripted{4, "+a +b +c +a", "hit", "S: b/h c/h a/h;Q:"},
		scripted{4, "+a +b +c +b", "hit", "S: a/h c/h b/h;Q:"},
		scripted{4, "+a +b +c +c", "hit", "S: a/h b/h c/h;Q:"},
		scripted{4, "+a +b +c +a +b +c", "hit", "S: a/h b/h c/h;Q:"},
		// c are resident, Cmax of them hot: nobody goes, nobody cools.
		scripted{4, "+a +b +c +d +a", "hit", "S: b/h c/h d/c a/h;Q: d"},
		scripted{4, "+a +b +c +d +b", "hit", "S: a/h c/h d/c b/h;Q: d"},
		scripted{4, "+a +b +c +d +c", "hit", "S: a/h b/h d/c c/h;Q: d"},
		scripted{4, "+a +b +c +d +c +c", "hit", "S: a/h b/h d/c c/h;Q: d"},
		// Behind the bottom stands a cold one, a ghost, several of them; or a hot one, which holds them.
		scripted{2, "+a +b +a", "hit", "S: a/h;Q: b"},
		scripted{2, "+a +b ! +a", "hit", "S: a/h;Q:"},
		scripted{2, "+a +b +c +a", "hit", "S: a/h;Q: c"},
		scripted{2, "+a +b +c +d +a", "hit", "S: a/h;Q: d"},
		scripted{3, "+a +b +c +d +a", "hit", "S: b/h c/g d/c a/h;Q: d"},
		scripted{3, "+a +b +c +d +a +b", "hit", "S: a/h b/h;Q: d"},
		scripted{3, "+a +b +c +d +b", "hit", "S: a/h c/g d/c b/h;Q: d"},
		scripted{3, "+a +b +c +d +b +a", "hit", "S: b/h a/h;Q: d"},
		// Loaded, and become hot on other ways.
		scripted{3, "=a =b +a", "hit", "S: b/h a/h;Q:"},
		scripted{3, "+a +b +c +c +b", "hit", "S: c/h b/h;Q: a"},
		scripted{3, "+a +b +c +d +c +b", "hit", "S: c/h b/h;Q: a"},
		// More than one is cold.
		scripted{20, all18 + "+x +y +m0", "hit", "S:" + hot(1, 18) + " x/c y/c m0/h;Q: x y"},
		scripted{20, all18 + "+x +y " + allTurned, "hit", "S:" + hot(0, 18) + ";Q: x y"},
	)
}

// P13.1: a cold key in S becomes hot, and where more than Cmax are, the lowest hot one cools.
func TestAccessOfColdInS(t *testing.T) {
	run(t,
		// Cmax are hot: what stood behind the one that cools leaves S till there is a hot one.
		scripted{2, "+a +b +b", "hit", "S: b/h;Q: a"},
		scripted{4, "+a +b +c +d +d", "hit", "S: b/h c/h d/h;Q: a"},
		scripted{3, "+a +b +c +d +d", "hit", "S: b/h c/g d/h;Q: a"},
		scripted{3, "+a +b +c +d +b +d", "hit", "S: b/h d/h;Q: a"},
		scripted{2, "+a +b +c +c", "hit", "S: c/h;Q: a"},
		scripted{2, "+a +b +c +d +d", "hit", "S: d/h;Q: a"},
		scripted{2, "+a +b +b +a +a", "hit", "S: a/h;Q: b"},
		// The lowest one is not the one that is hot for longest.
		scripted{3, "+a +b +c +a +c", "hit", "S: a/h c/h;Q: b"},
		scripted{4, "+a +b +c +d +a +b +d", "hit", "S: a/h b/h d/h;Q: c"},
		// Fewer than Cmax are hot: nobody cools.
		scripted{4, "+a +b +c +d -a +d", "hit", "S: b/h c/h d/h;Q:"},
		scripted{4, "+a +b +c +d -b +d", "hit", "S: a/h c/h d/h;Q:"},
		scripted{4, "+a +b +c +d -b -c +d", "hit", "S: a/h d/h;Q:"},
		scripted{3, "+a +b +c +d -b +d", "hit", "S: a/h c/g d/h;Q:"},
		scripted{3, "+a +b +c +d -b +d +a", "hit", "S: d/h a/h;Q:"},
		// A loaded one.
		scripted{3, "=a =b =c +c", "hit", "S: b/h c/h;Q: a"},
		// It came back into S.
		scripted{2, "+a +b +a +b +b", "hit", "S: b/h;Q: a"},
		// Another cold one stays in Q, ahead of the one that cools; in S, till it is at the bottom.
		scripted{20, all18 + "+x +y +x", "hit", "S:" + hot(1, 18) + " y/c x/h;Q: y m0"},
		scripted{20, all18 + "+x +y +y", "hit", "S:" + hot(1, 18) + " x/c y/h;Q: x m0"},
		scripted{20, all18 + "+x +y +y +x", "hit", "S:" + hot(2, 18) + " y/h x/h;Q: m0 m1"},
		scripted{21, all18 + "+m18 +x +y +y", "hit", "S:" + hot(1, 19) + " x/c y/h;Q: x m0"},
	)
}

// P13.1: a cold key that is not in S stands on top of S, and at the end of Q; it stays cold.
func TestAccessOfColdInQAlone(t *testing.T) {
	run(t,
		scripted{2, "+a +b +a +b", "hit", "S: a/h b/c;Q: b"},
		scripted{2, "+a +b +b +a", "hit", "S: b/h a/c;Q: a"},
		scripted{4, "+a +b +c +d +d +a", "hit", "S: b/h c/h d/h a/c;Q: a"},
		scripted{2, "+a +b +c +c +a", "hit", "S: c/h a/c;Q: a"},
		// Fewer than Cmax are hot.
		scripted{3, "+a +b +c +c -b +a", "hit", "S: c/h a/c;Q: a"},
		// At the end, at the front, with another one.
		scripted{20, all18 + "+x +y " + allTurned + "+x", "hit", "S:" + hot(0, 18) + " x/c;Q: y x"},
		scripted{20, all18 + "+x +y " + allTurned + "+y", "hit", "S:" + hot(0, 18) + " y/c;Q: x y"},
		scripted{20, all18 + "+x +y " + allTurned + "+y +x", "hit", "S:" + hot(0, 18) + " y/c x/c;Q: y x"},
		scripted{20, all18 + "+x +y +y +m0", "hit", "S:" + hot(1, 18) + " x/c y/h m0/c;Q: x m0"},
		// Nobody is hot: it leaves S again.
		scripted{1, "+a +a", "hit", "S:;Q: a"},
		scripted{1, "=a +a +a", "hit", "S:;Q: a"},
		scripted{2, "+a +b -a +b", "hit", "S:;Q: b"},
		scripted{3, "+a +b +c -a -b +c", "hit", "S:;Q: c"},
		scripted{20, all18 + "+x +y " + strings.ReplaceAll(all18, "=", "-") + "+x", "hit", "S:;Q: y x"},
	)
}

// P13.1: a ghost that is in S still becomes hot, and where more than Cmax are, the lowest hot one cools.
func TestAccessOfGhost(t *testing.T) {
	run(t,
		// Fewer than c are resident, fewer than Cmax hot.
		scripted{3, "+a +b +c ! -a +c", "miss", "S: b/h c/h;Q:"},
		scripted{3, "+a +b +c ! -b +c", "miss", "S: a/h c/h;Q:"},
		scripted{3, "+a +b +c +d ! -b +c", "miss", "S: a/h d/g c/h;Q:"},
		scripted{3, "+a +b +c +d ! -b +d", "miss", "S: a/h c/g d/h;Q:"},
		scripted{3, "+a +b +c +d -b +c", "miss", "S: a/h d/c c/h;Q: d"},
		// Fewer than c, just Cmax: one cools.
		scripted{2, "+a +b ! +b", "miss", "S: b/h;Q: a"},
		scripted{3, "+a +b +c ! +c", "miss", "S: b/h c/h;Q: a"},
		scripted{3, "+a +b +c +d ! +c", "miss", "S: b/h d/g c/h;Q: a"},
		scripted{3, "+a +b +c +d ! +d", "miss", "S: b/h c/g d/h;Q: a"},
		scripted{3, "+a +b +c +d ! +b +c", "miss", "S: b/h c/h;Q: a"},
		scripted{4, "+a +b +c +d ! +a +d", "miss", "S: c/h a/h d/h;Q: b"},
		// c are, and so just Cmax are hot: one goes, and one cools.
		scripted{2, "+a +b +c +b", "miss c", "S: b/h;Q: a"},
		scripted{3, "+a +b +c +d +c", "miss d", "S: b/h d/g c/h;Q: a"},
		scripted{3, "+a +b +c +d +a +c", "miss d", "S: a/h c/h;Q: b"},
		scripted{3, "+a +b +c +d +e +d", "miss e", "S: b/h c/g e/g d/h;Q: a"},
		// Who goes is not in S: it becomes no ghost.
		scripted{3, "+a +b +c +d +d +c", "miss a", "S: d/h c/h;Q: b"},
		scripted{3, "+a +b +c +d +e +f +f +c", "miss a", "S: f/h c/h;Q: b"},
		// S has c ghosts: by the one more the lowest leaves S ahead of that, and is as one that is nowhere.
		scripted{2, "+a +b +c +d +b", "miss d", "S: a/h c/g d/g b/c;Q: b"},
		scripted{2, "+a +b +c +d +c", "miss d", "S: c/h;Q: a"},
		scripted{3, "+a +b +c +d +e +f +c", "miss f", "S: a/h b/h d/g e/g f/g c/c;Q: c"},
		scripted{3, "+a +b +c +d +e +f +d", "miss f", "S: b/h e/g f/g d/h;Q: a"},
		scripted{3, "+a +b +c +d +e +f +e", "miss f", "S: b/h d/g f/g e/h;Q: a"},
		// Just one fewer: it is in S still.
		scripted{3, "+a +b +c +d +e +c", "miss e", "S: b/h d/g e/g c/h;Q: a"},
		// More than one is cold: one goes, one stays, one cools.
		scripted{20, all18 + "+x +y +z +x", "miss y", "S:" + hot(1, 18) + " y/g z/c x/h;Q: z m0"},
		scripted{20, all18 + "+x +y +z +z +x", "miss y", "S:" + hot(2, 18) + " y/g z/h x/h;Q: m0 m1"},
	)
}

// P13.1: a key that is nowhere is hot, where fewer than Cmax are, else cold, both on top of S.
func TestAccessOfUnknown(t *testing.T) {
	run(t,
		// Fewer than c are resident, fewer than Cmax hot.
		scripted{2, "+a", "miss", "S: a/h;Q:"},
		scripted{4, "+a +b", "miss", "S: a/h b/h;Q:"},
		scripted{4, "+a +b +c", "miss", "S: a/h b/h c/h;Q:"},
		scripted{4, "+a +b +c +d -b +e", "miss", "S: a/h c/h d/c e/h;Q: d"},
		scripted{4, "+a +b +c +d -a -b +e", "miss", "S: c/h d/c e/h;Q: d"},
		scripted{3, "+a +b +c +c -b +e", "miss", "S: c/h e/h;Q: a"},
		scripted{2, "+a +b -a +c", "miss", "S: c/h;Q: b"},
		scripted{2, "+a ! +a", "miss", "S: a/h;Q:"},
		// Fewer than c, just Cmax.
		scripted{2, "+a +b", "miss", "S: a/h b/c;Q: b"},
		scripted{4, "+a +b +c +d", "miss", "S: a/h b/h c/h d/c;Q: d"},
		scripted{3, "+a +b +c ! +d", "miss", "S: a/h b/h c/g d/c;Q: d"},
		scripted{3, "+a +b +c -c +c", "miss", "S: a/h b/h c/c;Q: c"},
		scripted{20, all18 + "+x +y", "miss", "S:" + hot(0, 18) + " x/c y/c;Q: x y"},
		scripted{1, "+a", "miss", "S:;Q: a"},
		// c are, and so just Cmax are hot: the front of Q goes, and is a ghost, if it is in S.
		scripted{2, "+a +b +c", "miss b", "S: a/h b/g c/c;Q: c"},
		scripted{4, "+a +b +c +d +e", "miss d", "S: a/h b/h c/h d/g e/c;Q: e"},
		scripted{20, all18 + "+x +y +z", "miss x", "S:" + hot(0, 18) + " x/g y/c z/c;Q: y z"},
		scripted{2, "+a +b +b +c", "miss a", "S: b/h c/c;Q: c"},
		scripted{2, "+a +b +a +c", "miss b", "S: a/h c/c;Q: c"},
		scripted{1, "+a +b", "miss a", "S:;Q: b"},
		scripted{1, "+a +b +a", "miss b", "S:;Q: a"},
		scripted{20, all18 + "+x +y " + allTurned + "+x +z", "miss y", "S:" + hot(0, 18) + " x/c z/c;Q: x z"},
		// Who went from Q alone, or left S as a ghost, or was Removed, is nowhere.
		scripted{2, "+a +b +b +c +a", "miss c", "S: b/h c/g a/c;Q: a"},
		scripted{2, "+a +b +c +a +b", "miss c", "S: a/h b/c;Q: b"},
		scripted{3, "+a +b +c -c -a +a +c", "miss", "S: b/h a/h c/c;Q: c"},
		// S has fewer than c ghosts, just c, and so one more.
		scripted{2, "+a +b +c +d", "miss c", "S: a/h b/g c/g d/c;Q: d"},
		scripted{2, "+a +b +c +d +e", "miss d", "S: a/h c/g d/g e/c;Q: e"},
		scripted{3, "+a +b +c +d +e +f", "miss e", "S: a/h b/h c/g d/g e/g f/c;Q: f"},
		scripted{3, "+a +b +c +d +e +f +g", "miss f", "S: a/h b/h d/g e/g f/g g/c;Q: g"},
		scripted{3, "+a +b +c +d +b +e +f +g", "miss f", "S: a/h d/g b/h e/g f/g g/c;Q: g"},
	)
}

// Words: Prune, by each call that ends with it.
func TestPrune(t *testing.T) {
	run(t,
		// Each of the bottom is hot already.
		scripted{4, "+a +b +c +d +e -b", "yes", "S: a/h c/h d/g e/c;Q: e"},
		// Cold, a ghost, both, several one behind the other, up to a hot one.
		scripted{3, "+a +b +c +b -a", "yes", "S: b/h;Q: c"},
		scripted{3, "+a +b +c +b ! -a", "yes", "S: b/h;Q:"},
		scripted{3, "+a +b +c +d +b -a", "yes", "S: b/h;Q: d"},
		scripted{3, "+a +b +c +d +e +b -a", "yes", "S: b/h;Q: e"},
		scripted{3, "+a +b +c +b +d -a", "yes", "S: b/h d/c;Q: d"},
		scripted{3, "+a +b +c +b +d +e -a", "yes", "S: b/h d/g e/c;Q: e"},
		scripted{20, all18 + "+x +y +m17 -m0", "yes", "S:" + hot(1, 17) + " x/c y/c m17/h;Q: x y"},
		// Nobody is hot any more: all leave S, and the ghosts are forgotten.
		scripted{2, "+a -a", "yes", "S:;Q:"},
		scripted{2, "+a +b -a", "yes", "S:;Q: b"},
		scripted{2, "+a +b ! -a", "yes", "S:;Q:"},
		scripted{2, "+a +b +c +d -a", "yes", "S:;Q: d"},
		scripted{3, "+a +b +c +d -a -b", "yes", "S:;Q: d"},
		scripted{3, "+a +b +c +d -b -a", "yes", "S:;Q: d"},
		scripted{3, "+a +b +c +d -b -a +c", "miss", "S: c/h;Q: d"},
		// Behind an Evict with Q empty.
		scripted{3, "+a +b +c +b ! !", "yes a", "S: b/h;Q:"},
		scripted{3, "+a +b +c +d +b ! !", "yes a", "S: b/h;Q:"},
		scripted{2, "+a +b +c ! !", "yes a", "S:;Q:"},
		// A ghost that was forgotten so is known no more.
		scripted{3, "+a +b +c +b ! -a +c", "miss", "S: b/h c/h;Q:"},
		scripted{3, "+a +b +c +b ! +a +c", "miss", "S: b/h a/h c/c;Q: c"},
	)
}

// P13.2: Load makes a key hot where fewer than Cmax are, else cold, if it may.
func TestLoad(t *testing.T) {
	run(t,
		// New, fewer than Cmax are hot.
		scripted{2, "=a", "yes", "S: a/h;Q:"},
		scripted{3, "=a =b", "yes", "S: a/h b/h;Q:"},
		scripted{3, "+a +b +c -a =d", "yes", "S: b/h c/c d/h;Q: c"},
		scripted{2, "+a +b -a =c", "yes", "S: c/h;Q: b"},
		scripted{20, all18, "yes", "S:" + hot(0, 18) + ";Q:"},
		// New, just Cmax are.
		scripted{2, "=a =b", "yes", "S: a/h b/c;Q: b"},
		scripted{3, "=a =b =c", "yes", "S: a/h b/h c/c;Q: c"},
		scripted{3, "+a +b +c ! =d", "yes", "S: a/h b/h c/g d/c;Q: d"},
		scripted{20, all18 + "=x =y", "yes", "S:" + hot(0, 18) + " x/c y/c;Q: x y"},
		scripted{20, all18 + "+x +x =y", "yes", "S:" + hot(1, 18) + " x/h y/c;Q: m0 y"},
		scripted{1, "=a", "yes", "S:;Q: a"},
		scripted{1, "=a -a =b", "yes", "S:;Q: b"},
		// Resident: hot, cold in S, cold in Q alone, with room left.
		scripted{3, "=a =b =a", "no", "S: a/h b/h;Q:"},
		scripted{3, "+a +b +c -b =c", "no", "S: a/h c/c;Q: c"},
		scripted{3, "+a +b +c +c -b =a", "no", "S: c/h;Q: a"},
		scripted{2, "+a +b -a =b", "no", "S:;Q: b"},
		// c are resident: a new one, a ghost, resident ones.
		scripted{1, "=a =b", "no", "S:;Q: a"},
		scripted{1, "=a =a", "no", "S:;Q: a"},
		scripted{3, "+a +b +c =d", "no", "S: a/h b/h c/c;Q: c"},
		scripted{3, "+a +b +c =a", "no", "S: a/h b/h c/c;Q: c"},
		scripted{3, "+a +b +c =c", "no", "S: a/h b/h c/c;Q: c"},
		scripted{3, "+a +b +c +d =c", "no", "S: a/h b/h c/g d/c;Q: d"},
		scripted{3, "+a +b +c +c =a", "no", "S: b/h c/h;Q: a"},
		// A ghost leaves its place in S: fewer than Cmax are hot, just Cmax are.
		scripted{3, "+a +b +c ! -a =c", "yes", "S: b/h c/h;Q:"},
		scripted{3, "+a +b +c +d ! -a =c", "yes", "S: b/h d/g c/h;Q:"},
		scripted{3, "+a +b +c +d ! -a =d", "yes", "S: b/h c/g d/h;Q:"},
		scripted{3, "+a +b +c +d -a =c", "yes", "S: b/h d/c c/h;Q: d"},
		scripted{2, "+a +b ! =b", "yes", "S: a/h b/c;Q: b"},
		scripted{3, "+a +b +c +d ! =c", "yes", "S: a/h b/h d/g c/c;Q: c"},
		scripted{3, "+a +b +c +d ! =d", "yes", "S: a/h b/h c/g d/c;Q: d"},
		scripted{20, all18 + "=x =y ! =x", "yes", "S:" + hot(0, 18) + " y/c x/c;Q: y x"},
		// It is no ghost any more, and can be one again.
		scripted{2, "+a +b ! =b !", "yes b", "S: a/h b/g;Q:"},
		scripted{2, "+a +b ! =b +b", "hit", "S: b/h;Q: a"},
	)
}

// P13.2: a resident key that is Removed is nowhere; nothing is changed by a Remove of another one.
func TestRemove(t *testing.T) {
	run(t,
		// Hot: the only one, S's bottom, the next one, the top.
		scripted{3, "+a -a", "yes", "S:;Q:"},
		scripted{4, "+a +b +c +d -a", "yes", "S: b/h c/h d/c;Q: d"},
		scripted{4, "+a +b +c +d -b", "yes", "S: a/h c/h d/c;Q: d"},
		scripted{4, "+a +b +c +d -c", "yes", "S: a/h b/h d/c;Q: d"},
		scripted{4, "+a +b +c +d +c -c", "yes", "S: a/h b/h d/c;Q: d"},
		scripted{3, "+a +b +c +d +a -b", "yes", "S: a/h;Q: d"},
		// Cold, in S and in Q alone.
		scripted{4, "+a +b +c +d -d", "yes", "S: a/h b/h c/h;Q:"},
		scripted{3, "+a +b +c +d -d", "yes", "S: a/h b/h c/g;Q:"},
		scripted{2, "+a +b +b -a", "yes", "S: b/h;Q:"},
		scripted{2, "+a +b +a -b", "yes", "S: a/h;Q:"},
		scripted{1, "+a -a", "yes", "S:;Q:"},
		scripted{20, all18 + "+x +y -x", "yes", "S:" + hot(0, 18) + " y/c;Q: y"},
		scripted{20, all18 + "+x +y -y", "yes", "S:" + hot(0, 18) + " x/c;Q: x"},
		scripted{20, all18 + "+x +y +y -m0", "yes", "S:" + hot(1, 18) + " x/c y/h;Q: x"},
		scripted{20, all18 + "+x +y +y -x", "yes", "S:" + hot(1, 18) + " y/h;Q: m0"},
		// It becomes no ghost: used again it is new.
		scripted{3, "+a +b +c -c +c", "miss", "S: a/h b/h c/c;Q: c"},
		scripted{3, "+a +b -b +b", "miss", "S: a/h b/h;Q:"},
		// Ghosts, twice, one that was never there, of an empty one.
		scripted{2, "+a +b +c -b", "no", "S: a/h b/g c/c;Q: c"},
		scripted{3, "+a +b +c +d +e -c", "no", "S: a/h b/h c/g d/g e/c;Q: e"},
		scripted{3, "+a +b +c +d +e -d", "no", "S: a/h b/h c/g d/g e/c;Q: e"},
		scripted{3, "+a +b +c -a -a", "no", "S: b/h c/c;Q: c"},
		scripted{3, "+a +b +c -c -c", "no", "S: a/h b/h;Q:"},
		scripted{2, "+a +b -c", "no", "S: a/h b/c;Q: b"},
		scripted{2, "+a +b +b -c", "no", "S: b/h;Q: a"},
		scripted{2, "-a", "no", "S:;Q:"},
		scripted{2, "+a ! -a", "no", "S:;Q:"},
	)
}

// P13.3: the front of Q goes, and is a ghost if it is in S.
func TestEvictFromQ(t *testing.T) {
	run(t,
		// It is in S, with each number of others in Q.
		scripted{2, "+a +b !", "yes b", "S: a/h b/g;Q:"},
		scripted{4, "+a +b +c +d !", "yes d", "S: a/h b/h c/h d/g;Q:"},
		scripted{4, "+a +b +c +d +c !", "yes d", "S: a/h b/h d/g c/h;Q:"},
		scripted{3, "+a +b +c -a !", "yes c", "S: b/h c/g;Q:"},
		scripted{20, all18 + "+x +y !", "yes x", "S:" + hot(0, 18) + " x/g y/c;Q: y"},
		scripted{20, all18 + "+x +y ! !", "yes y", "S:" + hot(0, 18) + " x/g y/g;Q:"},
		scripted{20, all18 + "+x +y " + allTurned + "+x +y +m0 ! !", "yes y", "S:" + hot(1, 18) + " x/g y/g m0/h;Q:"},
		// It is in Q alone.
		scripted{1, "+a !", "yes a", "S:;Q:"},
		scripted{2, "+a +b +b !", "yes a", "S: b/h;Q:"},
		scripted{2, "+a +b +a !", "yes b", "S: a/h;Q:"},
		scripted{2, "+a +b -a !", "yes b", "S:;Q:"},
		scripted{4, "+a +b +c +d +e +e !", "yes a", "S: b/h c/h d/g e/h;Q:"},
		scripted{20, all18 + "+x +y " + allTurned + "!", "yes x", "S:" + hot(0, 18) + ";Q: y"},
		scripted{20, all18 + "+x +y " + allTurned + "+x !", "yes y", "S:" + hot(0, 18) + " x/c;Q: x"},
		// S has fewer than c ghosts, just c: the lowest leaves S.
		scripted{2, "+a +b +c !", "yes c", "S: a/h b/g c/g;Q:"},
		scripted{2, "+a +b +c +d !", "yes d", "S: a/h c/g d/g;Q:"},
		scripted{3, "+a +b +c +d +e !", "yes e", "S: a/h b/h c/g d/g e/g;Q:"},
		scripted{3, "+a +b +c +d +e +f !", "yes f", "S: a/h b/h d/g e/g f/g;Q:"},
		scripted{3, "+a +b +c +d +b +e +f !", "yes f", "S: a/h d/g b/h e/g f/g;Q:"},
		scripted{3, "+a +b +c +b +d +e +f !", "yes f", "S: a/h b/h d/g e/g f/g;Q:"},
		scripted{3, "+a +b +c +d +e +b +f +a !", "yes f", "S: b/h f/g a/h;Q:"},
		// It has just c, and who goes is not in S: all of them stay.
		scripted{3, "+a +b +c +d +e +f +f !", "yes a", "S: b/h c/g d/g e/g f/h;Q:"},
	)
}

// P13.3: where Q has none, the lowest hot one cools, and goes: it becomes no ghost.
func TestEvictOfHot(t *testing.T) {
	run(t,
		scripted{2, "+a !", "yes a", "S:;Q:"},
		scripted{4, "+a +b +c !", "yes a", "S: b/h c/h;Q:"},
		scripted{4, "+a +b +c +a !", "yes b", "S: c/h a/h;Q:"},
		scripted{4, "=a =b =c ! !", "yes b", "S: c/h;Q:"},
		scripted{4, "=a =b =c ! ! !", "yes c", "S:;Q:"},
		scripted{3, "+a +b +c ! !", "yes a", "S: b/h c/g;Q:"},
		scripted{3, "+a +b +c ! ! !", "yes b", "S:;Q:"},
		scripted{3, "+a +b +c +b ! !", "yes a", "S: b/h;Q:"},
		scripted{3, "+a +b +c +d +e ! !", "yes a", "S: b/h c/g d/g e/g;Q:"},
		scripted{20, all18 + "!", "yes m0", "S:" + hot(1, 18) + ";Q:"},
		// Used again it is new.
		scripted{3, "+a +b ! +a", "miss", "S: b/h a/h;Q:"},
		// Nobody is resident: nothing is answered, nothing is changed.
		scripted{3, "!", "no", "S:;Q:"},
		scripted{1, "!", "no", "S:;Q:"},
		scripted{3, "+a -a !", "no", "S:;Q:"},
		scripted{3, "+a +b +c ! ! ! !", "no", "S:;Q:"},
		scripted{1, "+a ! !", "no", "S:;Q:"},
	)
}

// P13.3, P13.4: Keys, Ghosts and State in the order that is told, and Has, Len and Room beside them.
func TestTold(t *testing.T) {
	x := newPair(t, 20)
	x.does(calls(all18 + "+z +y +b +a +m3 +a -m5")...)
	e := x.e
	hots := hot(1, 3) + hot(4, 5) + hot(6, 18)
	if got := e.State(); got != "S:"+hots+" z/g y/g b/c m3/h a/h;Q: b m0" {
		t.Fatal(got)
	}
	if got := strings.Join(e.Keys(), " "); got != "b m0"+strings.ReplaceAll(hots, "/h", "")+" m3 a" {
		t.Errorf("Keys %s", got)
	}
	if got := strings.Join(e.Ghosts(), " "); got != "z y" {
		t.Errorf("Ghosts %s", got)
	}
	for key, want := range map[string]bool{"a": true, "b": true, "m0": true, "m1": true, "m3": true, "m5": false, "y": false, "z": false, "x": false, "": false, "ab": false, "a/h": false, "m": false} {
		if got := e.Has(key); got != want {
			t.Errorf("Has(%s): %v", key, got)
		}
	}
	if e.Len() != 19 || e.Room() != 20 {
		t.Errorf("Len %d, Room %d", e.Len(), e.Room())
	}
	x.same()
}

// P13.3: what Evict answers, till nobody is resident, and then it answers nothing and changes nothing.
func TestEvictAll(t *testing.T) {
	for _, room := range []int{1, 2, 3, 4, 9, 10, 11, 19, 20, 21, 22, 35} {
		for before := range 3*room + 1 {
			x := newPair(t, room)
			pick := lots(uint64(room*before + 1))
			for range before {
				x.does(call{"+++=-"[pick(5)], "k" + strconv.Itoa(pick(2*room))})
			}
			for x.m.resident() > 0 {
				x.does(call{'!', ""})
			}
			if x.e.Len() != 0 || len(x.e.Keys()) != 0 || x.e.State() != "S:;Q:" {
				t.Fatal(room, before, x.e.State())
			}
			for range 2 {
				if key, ok := x.e.Evict(); key != "" || ok {
					t.Fatal(room, before, key, ok)
				}
				x.same()
			}
		}
	}
}

// reached is a plain engine and the calls that lead to it.
type reached struct {
	m    *plain
	path []call
}

// next is all calls that differ: on each key of the rows, and on one that is nowhere.
func (x *plain) next() []call {
	fresh := 0
	known := x.known()
	for slices.Contains(known, strconv.Itoa(fresh)) {
		fresh++
	}
	all := []call{{'!', ""}}
	for _, key := range append(known, strconv.Itoa(fresh)) {
		all = append(all, call{'+', key}, call{'=', key}, call{'-', key})
	}
	return all
}

// choices is in how many ways k of n may be taken; in one way none is, in none more than there are.
func choices(n, k int) int {
	all := 1
	for i := range k {
		all = all * (n - i) / (i + 1)
	}
	return all
}

// shapes is how many shapes there are in a room where one may be cold.
func shapes(room int) int {
	// Nobody is hot: S is empty, and one is in Q, or none.
	all := 2
	for hots := 1; hots < room; hots++ {
		for ghosts := range room + 1 {
			// The bottom is hot, the others stand in any order, and nobody is cold.
			orders := choices(hots-1+ghosts, ghosts)
			all += orders
			// One is cold, and stands in S above all ghosts.
			all += choices(hots+ghosts, ghosts+1)
			// One is cold, and in Q alone: it came out of S by a hot one that came to the top, and is there till one is Removed.
			if hots == room-1 {
				orders = choices(hots-2+ghosts, ghosts)
			}
			all += orders
		}
	}
	return all
}

// P13.1 to P13.5: each shape that can be reached at all in small rooms, and each call there.
func TestEachShape(t *testing.T) {
	for room := 1; room <= 5; room++ {
		seen := map[string]int{}
		queue := []reached{{m: newPlain(room)}}
		for len(queue) > 0 {
			at := queue[0]
			queue = queue[1:]
			for _, c := range at.m.next() {
				x := &pair{t, lirs.New(room), at.m.copied()}
				for _, before := range at.path {
					onEngine(x.e, before)
				}
				x.does(c)
				x.has("0", "1", "none")
				if seen[x.m.shape()]++; seen[x.m.shape()] == 1 {
					queue = append(queue, reached{x.m, append(slices.Clone(at.path), c)})
				}
			}
		}
		if len(seen) != shapes(room) {
			t.Errorf("room %d: %d shapes, not %d", room, len(seen), shapes(room))
		}
	}
}

// P13.1 to P13.5: all short rows of calls on few keys, behind calls by which more than one may be cold, too.
func TestAllShortRows(t *testing.T) {
	for _, x := range []struct {
		room, length int
		before, keys string
	}{
		{1, 5, "", "abc"},
		{2, 5, "", "abc"},
		{3, 4, "+a +b +c +d", "abcd"},
		{20, 4, numbered("=m", 17), "abc"},
		{20, 4, all18, "abc"},
		{20, 4, all18 + "+a +b " + allTurned, "abc"},
		{20, 4, all18 + strings.ReplaceAll(numbered("-m", 17), "-m0 ", "") + "+a +b", "abc"},
	} {
		all := []call{{'!', ""}}
		for _, key := range strings.Split(x.keys, "") {
			all = append(all, call{'+', key}, call{'=', key}, call{'-', key})
		}
		rows := 1
		for length := 1; length <= x.length; length++ {
			rows *= len(all)
			for n := range rows {
				shortRow(t, x.room, x.before, all, n, length)
			}
		}
	}
}

// shortRow makes some calls and then the n-th row of so many calls, and looks at what is told behind the last one.
func shortRow(t *testing.T, room int, before string, all []call, n, length int) {
	t.Helper()
	x := newPair(t, room)
	for _, c := range calls(before) {
		onEngine(x.e, c)
		onPlain(x.m, c)
	}
	for k := n; length > 0; k /= len(all) {
		x.quick(all[k%len(all)])
		length--
	}
	x.same()
}

// anyKeys is keys of many kinds: the empty one, alike ones, long ones, ones with any bytes.
func anyKeys() []string {
	bytes := make([]byte, 512)
	for i := range bytes {
		bytes[i] = byte(i)
	}
	long := strings.Repeat("long", 300)
	return []string{
		"", " ", "  ", ";", ":", "S:", "Q", ";Q:", "/", "/h", "a/h", "a/c", "a/g", "a/", "a/h b/c", "\x00", "\x00\x00", "\n", "a", "b", "aa", "ab", "a b", "a;b",
		"alike0", "alike1", "alike2", "alike", long, long + "0", long + "1", long[1:], "0" + long,
		string(bytes), string(bytes[:256]), string(bytes[1:]), "\xff", "\xff\xfe", "\x80", "é", "e\u0301", "日本", "\U0010ffff",
	}
}

// P13.1 to P13.5: long rows of all calls in whatever order.
func TestLongRows(t *testing.T) {
	for room := 1; room <= 24; room++ {
		mixed(t, room, manyKeys(3*room+1), 3000)
	}
	for _, room := range []int{30, 31, 57} {
		mixed(t, room, manyKeys(3*room), 3000)
		mixed(t, room, manyKeys(room+room/3), 3000)
	}
	for _, room := range []int{1, 2, 3, 5, 8, 13, 17, 20, 30} {
		mixed(t, room, anyKeys(), 3000)
	}
	mixed(t, 100, manyKeys(300), 4000)
	mixed(t, math.MaxInt, manyKeys(3*api.MaxRoom), 4*api.MaxRoom)
}

func manyKeys(n int) []string {
	var keys []string
	for i := range n {
		keys = append(keys, "k"+strconv.Itoa(i))
	}
	return keys
}

// mixed makes calls, mostly Accesses, of some of the keys more often than of others, with times of one key behind the other, and of each other call.
func mixed(t *testing.T, room int, keys []string, n int) {
	t.Helper()
	x := newPair(t, room)
	pick := lots(uint64(room))
	last := keys[0]
	for i := range n {
		among := len(keys)
		if pick(3) == 0 {
			among = len(keys)/6 + 1
		}
		c := call{'+', keys[pick(among)]}
		switch time := i * 8 / n % 4; {
		case time == 1 && pick(8) > 0:
			c.key = keys[i%len(keys)]
		case pick(20) < 2:
			c.what = '='
		case pick(20) < 1:
			c.what = '-'
		case pick(20) < 2:
			c = call{'!', ""}
		case pick(20) < 4:
			c.key = last
		case time == 3 && pick(2) == 0:
			c = call{"-=!"[pick(3)], c.key}
		}
		if c.what == '+' {
			last = c.key
		}
		x.quick(c)
		if len(keys) < 200 || i%100 == 0 {
			x.same()
			x.has(c.key)
		}
	}
	x.same()
	x.has(keys...)
}

// P13.1: keys that come once drive none away that is hot, and those that go round are met though not all have room.
func TestOnceAndAround(t *testing.T) {
	e := lirs.New(64)
	said(e, strings.Repeat(numbered("+m", 32), 3))
	for i := range 1000 {
		hit, gone := e.Access("scan" + strconv.Itoa(i))
		if hit || len(gone) > 1 || len(gone) == 1 && strings.HasPrefix(gone[0], "m") {
			t.Fatalf("scan%d: %v %q", i, hit, gone)
		}
	}
	for i := range 32 {
		if !e.Has("m" + strconv.Itoa(i)) {
			t.Errorf("m%d went", i)
		}
	}
	e = lirs.New(10)
	for i := range 110 {
		hit, _ := e.Access(strconv.Itoa(i % 11))
		if want := i >= 11 && i%11 < 9; hit != want {
			t.Fatalf("%d, the time %d: %v", i%11, i/11, hit)
		}
	}
}

// P13.1 to P13.4: the empty text is a key as any other one.
func TestEmptyText(t *testing.T) {
	e := lirs.New(2)
	if hit, gone := e.Access(""); hit || len(gone) != 0 || !e.Has("") || e.Len() != 1 || e.State() != "S: /h;Q:" {
		t.Error(hit, gone, e.State())
	}
	if hit, gone := e.Access(""); !hit || len(gone) != 0 || e.State() != "S: /h;Q:" {
		t.Error(hit, gone, e.State())
	}
	if key, ok := e.Evict(); key != "" || !ok || e.Has("") || e.State() != "S:;Q:" {
		t.Error(key, ok, e.State())
	}
	if key, ok := e.Evict(); key != "" || ok || len(e.Ghosts()) != 0 {
		t.Error(key, ok, e.State())
	}
	if e.Remove("") || !e.Load("") || e.Load("") || !e.Remove("") || e.Remove("") || e.Len() != 0 {
		t.Error(e.State())
	}
	e.Access("a")
	if hit, gone := e.Access(""); hit || len(gone) != 0 || e.State() != "S: a/h /c;Q: " {
		t.Error(hit, gone, e.State())
	}
	if hit, gone := e.Access("b"); hit || !slices.Equal(gone, []string{""}) || e.State() != "S: a/h /g b/c;Q: b" {
		t.Error(hit, gone, e.State())
	}
	if got := e.Ghosts(); len(got) != 1 || got[0] != "" || e.Remove("") {
		t.Errorf("%q", got)
	}
	if hit, gone := e.Access(""); hit || !slices.Equal(gone, []string{"b"}) || e.State() != "S: /h;Q: a" {
		t.Error(hit, gone, e.State())
	}
	said(e, "+a +a")
	if key, ok := e.Evict(); key != "" || !ok || e.State() != "S: a/h;Q:" {
		t.Error(key, ok, e.State())
	}
}

// P13.4: keys with any bytes are told as they are.
func TestAnyBytes(t *testing.T) {
	for _, key := range anyKeys() {
		const other = "another one"
		e := lirs.New(2)
		e.Access(key)
		e.Access(other)
		holds(t, e, "S: "+key+"/h "+other+"/c;Q: "+other, []string{other, key}, nil, key, other)
		e.Access(other)
		holds(t, e, "S: "+other+"/h;Q: "+key, []string{key, other}, nil, key, other)
		e.Access(key)
		holds(t, e, "S: "+other+"/h "+key+"/c;Q: "+key, []string{key, other}, nil, key, other)
		if got, ok := e.Evict(); got != key || !ok {
			t.Errorf("Evict %.80q, not %.80q", got, key)
		}
		holds(t, e, "S: "+other+"/h "+key+"/g;Q:", []string{other}, []string{key}, other)
		if hit, gone := e.Access(key); hit || len(gone) != 0 {
			t.Errorf("Access of %.80q: %v %.80q", key, hit, gone)
		}
		holds(t, e, "S: "+key+"/h;Q: "+other, []string{other, key}, nil, key, other)
	}
}

// holds holds what can be asked against what is to be told, and Has against the resident keys.
func holds(t *testing.T, e *lirs.Engine, state string, keys, ghosts []string, resident ...string) {
	t.Helper()
	if got := e.State(); got != state {
		t.Errorf("State %.80q, not %.80q", got, state)
	}
	if got := e.Keys(); !slices.Equal(got, keys) {
		t.Errorf("Keys %.80q, not %.80q", got, keys)
	}
	if got := e.Ghosts(); !slices.Equal(got, ghosts) {
		t.Errorf("Ghosts %.80q, not %.80q", got, ghosts)
	}
	for _, key := range anyKeys() {
		if got := e.Has(key); got != slices.Contains(resident, key) {
			t.Errorf("%.80q: Has(%.80q): %v", resident, key, got)
		}
	}
}

// fresh is a text of the test's own, which may be written over.
func fresh(text string) string { return strings.Clone(text) }

// blot writes over a text's bytes.
func blot(text string) {
	for i := range len(text) {
		unsafe.Slice(unsafe.StringData(text), len(text))[i] = '#'
	}
}

// P13.5, W6: what is answered is new memory: written over, lists, their spare room and texts, it changes nothing.
func TestAnswersWrittenOver(t *testing.T) {
	x := newPair(t, 5)
	pick := lots(7)
	for range 4000 {
		key := fresh("key" + strconv.Itoa(pick(16)))
		switch pick(8) {
		case 0:
			got, _ := x.e.Evict()
			want, _ := x.m.evict()
			if got != want {
				t.Fatalf("Evict %q, not %q", got, want)
			}
			blot(got)
		case 1:
			x.e.Load(key)
			x.m.load(fresh(key))
		default:
			_, got := x.e.Access(key)
			_, want := x.m.access(fresh(key))
			if !slices.Equal(got, want) {
				t.Fatalf("Access %q, not %q", got, want)
			}
			blotAll(got)
		}
		// What was handed in is the test's again, too.
		blot(key)
		x.same()
		blotAll(x.e.Keys())
		blotAll(x.e.Ghosts())
		blot(x.e.State())
		x.same()
	}
}

// blotAll writes over the texts, then over the list with all of its spare room.
func blotAll(list []string) {
	for _, text := range list {
		blot(text)
	}
	list = list[:cap(list)]
	for i := range list {
		list[i] = "###"
	}
}

// P13.5, W7: what was answered stays what it is.
func TestAnswersStay(t *testing.T) {
	e := lirs.New(6)
	pick := lots(11)
	var held [][]string
	var copies []string
	keep := func(list ...string) {
		held = append(held, list)
		copies = append(copies, fmt.Sprintf("%q", list))
	}
	for range 2000 {
		_, gone := e.Access("k" + strconv.Itoa(pick(20)))
		keep(gone...)
		keep(e.Keys()...)
		keep(e.Ghosts()...)
		keep(e.State())
		if pick(4) == 0 {
			key, _ := e.Evict()
			keep(key)
		}
	}
	for i, list := range held {
		if got := fmt.Sprintf("%q", list); got != copies[i] {
			t.Fatalf("answer %d: %s, not %s", i, got, copies[i])
		}
	}
}

// W6: no two answers share a text, nor does one share it with what was handed in.
func TestTextsAreNew(t *testing.T) {
	e := lirs.New(4)
	seen := map[*byte]int{}
	var all []string
	note := func(texts ...string) {
		for _, text := range texts {
			all = append(all, text)
			if seen[unsafe.StringData(text)]++; seen[unsafe.StringData(text)] > 1 {
				t.Fatalf("%q was answered before", text)
			}
		}
	}
	pick := lots(3)
	for range 500 {
		key := fresh("key" + strconv.Itoa(pick(12)))
		_, gone := e.Access(key)
		note(key)
		note(gone...)
		note(e.Keys()...)
		note(e.Keys()...)
		note(e.Ghosts()...)
		note(e.Ghosts()...)
		note(e.State(), e.State())
		if pick(5) == 0 {
			went, _ := e.Evict()
			note(went)
		}
	}
	runtime.KeepAlive(all)
}

// W6: the long text of which keys are pieces is free while the engine lives on.
func TestHandedInIsNotKept(t *testing.T) {
	e := lirs.New(4)
	long := strings.Repeat("key", 1<<16)
	weakly := weak.Make(unsafe.StringData(long))
	for i := range 9 {
		e.Access(long[i : 2*i])
		e.Access(long[i : 2*i])
		e.Access(long[i : 3*i])
		e.Load(long[i : i+5])
		e.Has(long[i:])
		e.Remove(long[i : i+2])
		e.Evict()
	}
	long = ""
	runtime.GC()
	if weakly.Value() != nil {
		t.Error("the long text is still held")
	}
	if e.Len()+len(e.Ghosts()) == 0 {
		t.Error("nothing is there")
	}
}

// W6, P13.1 to P13.3: keys that are in no row any more are held no more.
func TestGoneIsNotHeld(t *testing.T) {
	const size = 1 << 20
	e := lirs.New(2)
	long := func(i int) string { return strings.Repeat(strconv.Itoa(i), size) }
	before := heap()
	// One is hot, one cold, two are ghosts, and others were.
	for i := range 8 {
		e.Access(long(i))
	}
	// A ghost becomes hot, the hot one cools, the other ghost leaves S by Prune.
	e.Access(long(6))
	if got := len(e.Keys()) + 10*len(e.Ghosts()); got != 2 {
		t.Error(got)
	}
	// One goes from Q alone, one is Loaded, one goes with Q empty.
	e.Evict()
	e.Load(long(8))
	e.Evict()
	e.Evict()
	e.Access(long(9))
	e.Remove(long(9))
	if after := heap(); after > before+size/2 {
		t.Errorf("%d bytes are held, %d before", after, before)
	}
	if got := e.State(); got != "S:;Q:" {
		t.Errorf("%.100s", got)
	}
}

func heap() uint64 {
	runtime.GC()
	var m runtime.MemStats
	runtime.ReadMemStats(&m)
	return m.HeapAlloc
}

// W2: two engines do not meet, and what is told hangs on the calls alone.
func TestTwoEngines(t *testing.T) {
	x, y, z := newPair(t, 3), newPair(t, 3), newPair(t, 7)
	pick := lots(5)
	for range 3000 {
		c := call{"+++++=-!"[pick(8)], "k" + strconv.Itoa(pick(12))}
		switch pick(3) {
		case 0:
			x.does(c)
		case 1:
			y.does(c)
		default:
			z.does(c)
		}
		x.same()
		y.same()
		z.same()
	}
}

// P13.5, W8: a nil Engine has nothing, and takes nothing.
func TestNilEngine(t *testing.T) {
	var e *lirs.Engine
	hasNothing(t, e)
	if e != nil {
		t.Error("nil no more")
	}
}

// W1: so does one that New did not make.
func TestZeroEngine(t *testing.T) { hasNothing(t, new(lirs.Engine)) }

func hasNothing(t *testing.T, e *lirs.Engine) {
	t.Helper()
	for range 2 {
		for _, key := range anyKeys() {
			hit, gone := e.Access(key)
			if hit || len(gone) != 0 || e.Load(key) || e.Has(key) || e.Remove(key) {
				t.Errorf("%.40q: %v %q", key, hit, gone)
			}
			if went, ok := e.Evict(); went != "" || ok {
				t.Errorf("Evict %q %v", went, ok)
			}
			if len(e.Keys()) != 0 || len(e.Ghosts()) != 0 || e.State() != "" || e.Len() != 0 || e.Room() != 0 {
				t.Errorf("%q %q %q %d %d", e.Keys(), e.Ghosts(), e.State(), e.Len(), e.Room())
			}
		}
	}
}

// W8: of an engine and its copy one may be used.
func TestCopied(t *testing.T) {
	x := newPair(t, 3)
	x.does(calls("+a +b +c +d +e")...)
	engine := *x.e
	x.e = &engine
	x.same()
	x.does(calls("+c +f +b =g ! -a +a +h =d +e ! ! !")...)
}
