package arc_test

import (
	"fmt"
	"math"
	"runtime"
	"slices"
	"strconv"
	"strings"
	"testing"
	"unsafe"
	"weak"

	"hoard/api"
	"hoard/arc"
)

// said is what the last call of a script answered: hit or miss and what went, yes or no, or the key that an Evict answered.
func said(e *arc.Engine, script string) string {
	answer := ""
	for _, c := range calls(script) {
		switch c.what {
		case '+':
			hit, gone := e.Access(c.key)
			answer = map[bool]string{true: "hit", false: "miss"}[hit] + strings.Join(append([]string{""}, gone...), " ")
		case '=':
			answer = map[bool]string{true: "yes", false: "no"}[e.Load(c.key)]
		case '-':
			answer = map[bool]string{true: "yes", false: "no"}[e.Remove(c.key)]
		default:
			key, ok := e.Evict()
			answer = map[bool]string{true: "yes " + key, false: "no" + key}[ok]
		}
	}
	return answer
}

// scripted is a script, what its last call answers, and all of State behind it.
type scripted struct {
	room                  int
	script, answer, state string
}

func run(t *testing.T, all ...scripted) {
	t.Helper()
	for _, s := range all {
		e := arc.New(s.room)
		if got := said(e, s.script); got != s.answer {
			t.Errorf("room %d, %s: %q, not %q", s.room, s.script, got, s.answer)
		}
		if got := e.State(); got != s.state {
			t.Errorf("room %d, %s:\n%s, not\n%s", s.room, s.script, got, s.state)
		}
		newPair(t, s.room).does(calls(s.script)...)
	}
}

// raise is a script by which p is so much more in an engine without keys, and which leaves none.
func raise(p int) string { return strings.Repeat("+x ! +x -x ", p) }

// often is a script by which each letter becomes the newest of B2, where nobody is resident.
func often(keys string) string {
	s := ""
	for _, k := range keys {
		s += fmt.Sprintf("+%c +%c ! ", k, k)
	}
	return s
}

// once is a script by which each letter becomes the newest of B1, where nobody is resident.
func once(keys string) string {
	s := ""
	for _, k := range keys {
		s += fmt.Sprintf("+%c ! ", k)
	}
	return s
}

func TestExample(t *testing.T) {
	e := arc.New(2)
	for _, key := range []string{"a", "a", "b", "c"} {
		e.Access(key)
	}
	if got := e.State(); got != "T1: c;T2: a;B1: b;B2:;p: 0" {
		t.Error(got)
	}
}

// Words, P10.4: the room is held within 1 and MaxRoom.
func TestRooms(t *testing.T) {
	for _, x := range []struct{ room, want int }{
		{math.MinInt, 1}, {math.MinInt + 1, 1}, {-(1 << 32) + 5, 1}, {-(1 << 32), 1}, {-1025, 1}, {-1024, 1}, {-2, 1}, {-1, 1}, {0, 1},
		{1, 1}, {2, 2}, {3, 3}, {7, 7}, {255, 255}, {256, 256}, {1022, 1022}, {1023, 1023}, {1024, 1024}, {1025, 1024}, {2048, 1024},
		{1 << 16, 1024}, {1<<31 - 1, 1024}, {1 << 31, 1024}, {1 << 32, 1024}, {1<<32 + 5, 1024}, {1 << 62, 1024}, {math.MaxInt - 1, 1024}, {math.MaxInt, 1024},
	} {
		e := arc.New(x.room)
		if got := e.Room(); got != x.want {
			t.Errorf("New(%d): Room %d, not %d", x.room, got, x.want)
		}
		if got := e.State(); got != "T1:;T2:;B1:;B2:;p: 0" || e.Len() != 0 || len(e.Keys()) != 0 || len(e.Ghosts()) != 0 {
			t.Errorf("New(%d): %s", x.room, got)
		}
		for i := range x.want + 2 {
			e.Access(strconv.Itoa(i))
		}
		if got := e.Len(); got != x.want {
			t.Errorf("New(%d): %d are resident, not %d", x.room, got, x.want)
		}
	}
	if api.MaxRoom != 1024 {
		t.Error("the test's own words")
	}
}

// P10.1: a key in T1 or T2 becomes the newest of T2.
func TestAccessOfResident(t *testing.T) {
	run(t,
		scripted{1, "+a +a", "hit", "T1:;T2: a;B1:;B2:;p: 0"},
		scripted{1, "+a +a +a", "hit", "T1:;T2: a;B1:;B2:;p: 0"},
		scripted{3, "+a +b +c +a", "hit", "T1: b c;T2: a;B1:;B2:;p: 0"},
		scripted{3, "+a +b +c +b", "hit", "T1: a c;T2: b;B1:;B2:;p: 0"},
		scripted{3, "+a +b +c +c", "hit", "T1: a b;T2: c;B1:;B2:;p: 0"},
		scripted{3, "+a +b +c +b +a", "hit", "T1: c;T2: b a;B1:;B2:;p: 0"},
		scripted{3, "+a +b +c +b +a +b", "hit", "T1: c;T2: a b;B1:;B2:;p: 0"},
		scripted{3, "+a +b +c +c +b +a +b", "hit", "T1:;T2: c a b;B1:;B2:;p: 0"},
		scripted{3, "+a +b +c +c +b +a +a", "hit", "T1:;T2: c b a;B1:;B2:;p: 0"},
		// Where p and ghosts are, they stay.
		scripted{4, raise(2) + often("gh") + once("ij") + "+a +a", "hit", "T1:;T2: a;B1: i j;B2: g h;p: 2"},
	)
}

// P10.1: a key in B1 makes p more, and is the newest of T2.
func TestAccessOfB1(t *testing.T) {
	run(t,
		// Fewer than c are resident: nobody goes.
		scripted{3, once("abc") + "+b", "miss", "T1:;T2: b;B1: a c;B2:;p: 1"},
		scripted{3, once("abc") + "+b +a", "miss", "T1:;T2: b a;B1: c;B2:;p: 2"},
		scripted{3, once("abc") + "+b +a +c", "miss", "T1:;T2: b a c;B1:;B2:;p: 3"},
		// c are: one goes, from T1, or from T2.
		scripted{2, "+a +a +b +c +b", "miss a", "T1: c;T2: b;B1:;B2: a;p: 1"},
		scripted{3, "+a +a +b +c +d +b", "miss c", "T1: d;T2: a b;B1: c;B2:;p: 1"},
		scripted{1, "+a ! +a +b ! +b", "miss", "T1:;T2: b;B1:;B2: a;p: 1"},
		scripted{1, "+a +a +b +a +b", "miss a", "T1:;T2: b;B1:;B2: a;p: 1"},
	)
}

// P10.1: a key in B2 makes p less, and is the newest of T2.
func TestAccessOfB2(t *testing.T) {
	run(t,
		scripted{3, often("abc") + "+b", "miss", "T1:;T2: b;B1:;B2: a c;p: 0"},
		scripted{3, raise(3) + often("abc") + "+b", "miss", "T1:;T2: b;B1:;B2: a c;p: 2"},
		scripted{3, raise(3) + often("abc") + "+b +c +a", "miss", "T1:;T2: b c a;B1:;B2:;p: 0"},
		scripted{2, "+a +a +b +c +b +a", "miss c", "T1:;T2: b a;B1: c;B2:;p: 0"},
		scripted{1, "+a +a +b +a", "miss b", "T1:;T2: a;B1: b;B2:;p: 0"},
		scripted{1, "+a +a +b +a +b +a", "miss b", "T1:;T2: a;B1:;B2: b;p: 0"},
	)
}

// P10.1: p is more by B2's keys by B1's, less by B1's by B2's, with the key itself among them; rounded down, at least 1, within 0 and c.
func TestHowMuch(t *testing.T) {
	const small, great = "abcdefghijklmnop", "ABCDEFGHIJKLMNOP"
	for _, x := range []struct {
		room, p, b1, b2 int
		more, less      int // p behind an Access of a key in B1, in B2
	}{
		{8, 3, 1, 1, 4, 2}, {8, 3, 2, 2, 4, 2}, {8, 3, 7, 7, 4, 2}, // as long
		{8, 0, 1, 2, 2, 0}, {8, 0, 1, 3, 3, 0}, {8, 0, 2, 3, 1, 0}, {8, 0, 2, 4, 2, 0}, {8, 0, 2, 5, 2, 0}, {8, 0, 2, 6, 3, 0}, {8, 0, 3, 8, 2, 0}, {8, 0, 3, 9, 3, 0}, // B2 longer
		{8, 0, 1, 7, 7, 0}, {8, 0, 1, 8, 8, 0}, {8, 0, 1, 9, 8, 0}, {8, 0, 1, 15, 8, 0}, {8, 1, 2, 13, 7, 0}, {8, 1, 2, 14, 8, 0}, {8, 2, 2, 14, 8, 1}, // much longer: held at c
		{8, 8, 2, 1, 8, 6}, {8, 8, 3, 1, 8, 5}, {8, 8, 3, 2, 8, 7}, {8, 8, 4, 2, 8, 6}, {8, 8, 5, 2, 8, 6}, {8, 8, 7, 2, 8, 5}, {8, 8, 8, 3, 8, 6}, // B1 longer
		{8, 8, 8, 1, 8, 0}, {8, 7, 7, 1, 8, 0}, {8, 6, 7, 1, 7, 0}, {8, 1, 8, 1, 2, 0}, {8, 3, 8, 2, 4, 0}, {8, 4, 8, 2, 5, 0}, {8, 5, 8, 2, 6, 1}, // much longer: held at 0
		{8, 0, 8, 1, 1, 0}, {8, 0, 8, 8, 1, 0}, {8, 8, 1, 15, 8, 7}, {8, 7, 8, 8, 8, 6}, {8, 8, 8, 8, 8, 7}, // at the ends
		{1, 0, 1, 1, 1, 0}, {1, 1, 1, 1, 1, 0}, {2, 0, 1, 3, 2, 0}, {2, 2, 2, 1, 2, 0}, {2, 2, 2, 2, 2, 1}, {16, 0, 1, 16, 16, 0}, {16, 0, 2, 16, 8, 0}, {16, 16, 16, 2, 16, 8},
	} {
		script := raise(x.p) + often(great[:x.b2]) + once(small[:x.b1])
		ghosts := fmt.Sprintf("B1:%s;B2:%s;", parted(small[:x.b1]), parted(great[:x.b2]))
		run(t,
			scripted{x.room, script, "yes " + small[x.b1-1:x.b1], fmt.Sprintf("T1:;T2:;%sp: %d", ghosts, x.p)},
			scripted{x.room, script + "+a", "miss", fmt.Sprintf("T1:;T2: a;%sp: %d", strings.Replace(ghosts, " a", "", 1), x.more)},
			scripted{x.room, script + "+A", "miss", fmt.Sprintf("T1:;T2: A;%sp: %d", strings.Replace(ghosts, " A", "", 1), x.less)},
		)
	}
}

// parted is each letter behind a blank.
func parted(letters string) string {
	s := ""
	for _, k := range letters {
		s += " " + string(k)
	}
	return s
}

// P10.1, replace: nobody goes where fewer than c are resident.
func TestReplaceWithRoom(t *testing.T) {
	run(t,
		scripted{3, often("gh") + "+a +a +b +c", "miss", "T1: b c;T2: a;B1:;B2: g h;p: 0"},
		scripted{3, often("gh") + "+a +a +b +g", "miss", "T1: b;T2: a g;B1:;B2: h;p: 0"},
		scripted{3, once("gh") + "+a +a +g", "miss", "T1:;T2: a g;B1: h;B2:;p: 1"},
		scripted{3, "+a +a +b +c -b +d", "miss", "T1: c d;T2: a;B1:;B2:;p: 0"},
		scripted{3, "+a +a +b +c ! +d", "miss", "T1: c d;T2: a;B1: b;B2:;p: 0"},
		scripted{3, "+a +b +c -a +d", "miss", "T1: b c d;T2:;B1:;B2:;p: 0"},
	)
}

// P10.1, replace: whose turn it is where c are resident.
func TestReplace(t *testing.T) {
	run(t,
		// T1 has more than p: its oldest.
		scripted{4, raise(1) + "+a +a +b +b +c +d +e", "miss c", "T1: d e;T2: a b;B1: c;B2:;p: 1"},
		scripted{4, raise(1) + often("g") + "+a +a +b +b +c +d +g", "miss c", "T1: d;T2: a b g;B1: c;B2:;p: 0"},
		scripted{4, once("h") + "+a +a +b +b +c +d +h", "miss c", "T1: d;T2: a b h;B1: c;B2:;p: 1"},
		// T1 has just p, and the key is not in B2: the oldest of T2.
		scripted{4, raise(2) + "+a +a +b +b +c +d +e", "miss a", "T1: c d e;T2: b;B1:;B2: a;p: 2"},
		scripted{4, raise(1) + once("h") + "+a +a +b +b +c +d +h", "miss a", "T1: c d;T2: b h;B1:;B2: a;p: 2"},
		scripted{4, raise(2) + often("g") + "+a +a +b +b +c +d +e", "miss a", "T1: c d e;T2: b;B1:;B2: g a;p: 2"},
		// T1 has just p, and the key is in B2: the oldest of T1.
		scripted{4, raise(3) + often("g") + "+a +a +b +b +c +d +g", "miss c", "T1: d;T2: a b g;B1: c;B2:;p: 2"},
		scripted{4, raise(3) + often("gh") + "+a +a +b +b +c +d +h", "miss c", "T1: d;T2: a b h;B1: c;B2: g;p: 2"},
		// T1 has fewer: the oldest of T2.
		scripted{4, raise(3) + "+a +a +b +b +c +d +e", "miss a", "T1: c d e;T2: b;B1:;B2: a;p: 3"},
		scripted{4, raise(4) + often("g") + "+a +a +b +b +c +d +g", "miss a", "T1: c d;T2: b g;B1:;B2: a;p: 3"},
		scripted{4, raise(3) + once("h") + "+a +a +b +b +c +d +h", "miss a", "T1: c d;T2: b h;B1:;B2: a;p: 4"},
		// T1 has none, be that just p, and the key in B2: the oldest of T2.
		scripted{3, "+a +a +b +b +c +c +d", "miss a", "T1: d;T2: b c;B1:;B2: a;p: 0"},
		scripted{3, raise(2) + "+a +a +b +b +c +c +d", "miss a", "T1: d;T2: b c;B1:;B2: a;p: 2"},
		scripted{3, often("g") + "+a +a +b +b +c +c +g", "miss a", "T1:;T2: b c g;B1:;B2: a;p: 0"},
		scripted{3, raise(1) + often("g") + "+a +a +b +b +c +c +g", "miss a", "T1:;T2: b c g;B1:;B2: a;p: 0"},
		scripted{3, raise(2) + often("g") + "+a +a +b +b +c +c +g", "miss a", "T1:;T2: b c g;B1:;B2: a;p: 1"},
		scripted{3, once("h") + "+a +a +b +b +c +c +h", "miss a", "T1:;T2: b c h;B1:;B2: a;p: 1"},
		// T2 has none: the oldest of T1.
		scripted{3, raise(3) + often("g") + "+a +b +c +g", "miss a", "T1: b c;T2: g;B1: a;B2:;p: 2"},
		scripted{3, often("g") + "+a +b +c +g", "miss a", "T1: b c;T2: g;B1: a;B2:;p: 0"},
		scripted{1, raise(1) + often("g") + "+a +g", "miss a", "T1:;T2: g;B1: a;B2:;p: 0"},
	)
}

// P10.1: what leaves ahead of a key that is in none of the lists.
func TestAccessOfUnknown(t *testing.T) {
	run(t,
		// All four have fewer than c.
		scripted{3, "+a", "miss", "T1: a;T2:;B1:;B2:;p: 0"},
		scripted{3, "+a +b", "miss", "T1: a b;T2:;B1:;B2:;p: 0"},
		scripted{3, once("h") + often("g") + "+a", "miss", "T1: a;T2:;B1: h;B2: g;p: 0"},
		// T1 and B1 have c, T1 fewer: the oldest of B1 goes, and replace.
		scripted{3, "+a +a +b +c +d +e", "miss c", "T1: d e;T2: a;B1: c;B2:;p: 0"},
		scripted{3, "+a +a +b +c +d ! +e", "miss", "T1: d e;T2: a;B1: c;B2:;p: 0"},
		scripted{3, once("abc") + "+d", "miss", "T1: d;T2:;B1: b c;B2:;p: 0"},
		scripted{3, once("abc") + "+d +e", "miss", "T1: d e;T2:;B1: c;B2:;p: 0"},
		scripted{3, once("abc") + "+d +e +f", "miss", "T1: d e f;T2:;B1:;B2:;p: 0"},
		scripted{3, often("gh") + once("abc") + "+d", "miss", "T1: d;T2:;B1: b c;B2: g h;p: 0"},
		scripted{3, "+a +a +b +b +c +d +e +f", "miss e", "T1: f;T2: a b;B1: d e;B2:;p: 0"},
		scripted{1, "+a ! +b", "miss", "T1: b;T2:;B1:;B2:;p: 0"},
		// T1 has just c: its oldest goes, and becomes no ghost.
		scripted{1, "+a +b", "miss a", "T1: b;T2:;B1:;B2:;p: 0"},
		scripted{3, "+a +b +c +d", "miss a", "T1: b c d;T2:;B1:;B2:;p: 0"},
		scripted{3, "+a +b +c +d +e", "miss b", "T1: c d e;T2:;B1:;B2:;p: 0"},
		scripted{3, raise(3) + often("gh") + "+a +b +c +d", "miss a", "T1: b c d;T2:;B1:;B2: g h;p: 3"},
		scripted{2, often("gh") + "+a +b +c", "miss a", "T1: b c;T2:;B1:;B2: g h;p: 0"},
		// They have fewer, all four c or more: replace.
		scripted{3, "+a +a +b +c +d", "miss b", "T1: c d;T2: a;B1: b;B2:;p: 0"},
		scripted{3, often("gh") + "+a +a +b +c +d", "miss b", "T1: c d;T2: a;B1: b;B2: g h;p: 0"},
		scripted{3, often("gh") + once("i") + "+a", "miss", "T1: a;T2:;B1: i;B2: g h;p: 0"},
		scripted{1, "+a +a +b", "miss a", "T1: b;T2:;B1:;B2: a;p: 0"},
		// All four have 2c or more: the oldest of B2 goes, and replace.
		scripted{2, often("gh") + "+a +a +b +b +c", "miss a", "T1: c;T2: b;B1:;B2: h a;p: 0"},
		scripted{2, often("ghij") + "+a", "miss", "T1: a;T2:;B1:;B2: h i j;p: 0"},
		scripted{2, often("ghi") + "+a +a +b", "miss", "T1: b;T2: a;B1:;B2: h i;p: 0"},
		scripted{2, often("gh") + "+a +a +b +c", "miss b", "T1: c;T2: a;B1: b;B2: h;p: 0"},
		scripted{3, often("ghi") + "+a +a +b +b +c +d", "miss c", "T1: d;T2: a b;B1: c;B2: h i;p: 0"},
		scripted{3, often("ghi") + "+a +a +b +b +c +c +d", "miss a", "T1: d;T2: b c;B1:;B2: h i a;p: 0"},
		scripted{1, often("g") + "+a +a +b", "miss a", "T1: b;T2:;B1:;B2: a;p: 0"},
		// One fewer than that: nothing leaves B2.
		scripted{3, often("gh") + "+a +a +b +b +c +c +d", "miss a", "T1: d;T2: b c;B1:;B2: g h a;p: 0"},
		scripted{2, often("ghi") + "+a", "miss", "T1: a;T2:;B1:;B2: g h i;p: 0"},
		// What left all of the lists is unknown again.
		scripted{2, "+a +b +c +a", "miss b", "T1: c a;T2:;B1:;B2:;p: 0"},
		scripted{3, once("abc") + "+d +a", "miss", "T1: d a;T2:;B1: c;B2:;p: 0"},
		scripted{2, often("ghij") + "+a +g", "miss", "T1: a g;T2:;B1:;B2: i j;p: 0"},
	)
}

// P10.2: Load makes a key the newest of T1, if it may.
func TestLoad(t *testing.T) {
	run(t,
		scripted{3, "=a", "yes", "T1: a;T2:;B1:;B2:;p: 0"},
		scripted{3, "=a =b =c", "yes", "T1: a b c;T2:;B1:;B2:;p: 0"},
		scripted{1, "=a", "yes", "T1: a;T2:;B1:;B2:;p: 0"},
		// Resident, in T1 and T2.
		scripted{3, "=a =b =a", "no", "T1: a b;T2:;B1:;B2:;p: 0"},
		scripted{3, "+a +b +b +a =b", "no", "T1:;T2: b a;B1:;B2:;p: 0"},
		// c are resident: a new key, one that is resident, a ghost of each kind.
		scripted{3, "=a =b =c =d", "no", "T1: a b c;T2:;B1:;B2:;p: 0"},
		scripted{3, "=a =b =c =b", "no", "T1: a b c;T2:;B1:;B2:;p: 0"},
		scripted{1, "+a =b", "no", "T1: a;T2:;B1:;B2:;p: 0"},
		scripted{3, "+a +a +b +c +d =e", "no", "T1: c d;T2: a;B1: b;B2:;p: 0"},
		scripted{3, "+a +a +b +c +d =b", "no", "T1: c d;T2: a;B1: b;B2:;p: 0"},
		scripted{3, often("g") + "+a +a +b +c =g", "no", "T1: b c;T2: a;B1:;B2: g;p: 0"},
		// A ghost of B1, of B2: p stays.
		scripted{3, once("abc") + "=b", "yes", "T1: b;T2:;B1: a c;B2:;p: 0"},
		scripted{3, once("abc") + "=b =c =a", "yes", "T1: b c a;T2:;B1:;B2:;p: 0"},
		scripted{3, raise(2) + often("abc") + "=b", "yes", "T1: b;T2:;B1:;B2: a c;p: 2"},
		scripted{3, raise(2) + often("gh") + once("ij") + "+a =i", "yes", "T1: a i;T2:;B1: j;B2: g h;p: 2"},
		// T1 and B1 together would have more than c: the oldest of B1 goes.
		scripted{3, once("abc") + "=d", "yes", "T1: d;T2:;B1: b c;B2:;p: 0"},
		scripted{3, once("abc") + "=d =e =f", "yes", "T1: d e f;T2:;B1:;B2:;p: 0"},
		scripted{2, often("g") + once("ab") + "=g", "yes", "T1: g;T2:;B1: b;B2:;p: 0"},
		scripted{2, often("gh") + once("ab") + "=c", "yes", "T1: c;T2:;B1: b;B2: g h;p: 0"},
		scripted{2, often("gh") + once("ab") + "=h", "yes", "T1: h;T2:;B1: b;B2: g;p: 0"},
		scripted{2, often("gh") + once("ab") + "=a", "yes", "T1: a;T2:;B1: b;B2: g h;p: 0"},
		scripted{3, once("ab") + "=c", "yes", "T1: c;T2:;B1: a b;B2:;p: 0"},
		scripted{1, once("a") + "=b", "yes", "T1: b;T2:;B1:;B2:;p: 0"},
		// All four would have more than 2c: the oldest of B2 goes.
		scripted{2, often("ghij") + "=a", "yes", "T1: a;T2:;B1:;B2: h i j;p: 0"},
		scripted{2, often("ghij") + "=a =b", "yes", "T1: a b;T2:;B1:;B2: i j;p: 0"},
		scripted{2, often("ghij") + "=i", "yes", "T1: i;T2:;B1:;B2: g h j;p: 0"},
		scripted{2, often("ghi") + "=a", "yes", "T1: a;T2:;B1:;B2: g h i;p: 0"},
		scripted{3, often("ghi") + once("j") + "+a +a +b +b =c", "yes", "T1: c;T2: a b;B1: j;B2: h i;p: 0"},
		scripted{1, often("gh") + "=a", "yes", "T1: a;T2:;B1:;B2: h;p: 0"},
	)
}

// P10.2: Remove of a resident key leaves it in no list; nothing is changed by that of another one.
func TestRemove(t *testing.T) {
	run(t,
		scripted{3, "+a -a", "yes", "T1:;T2:;B1:;B2:;p: 0"},
		scripted{3, "+a +b +c -b", "yes", "T1: a c;T2:;B1:;B2:;p: 0"},
		scripted{3, "+a +b +c -a", "yes", "T1: b c;T2:;B1:;B2:;p: 0"},
		scripted{3, "+a +b +c -c", "yes", "T1: a b;T2:;B1:;B2:;p: 0"},
		scripted{3, "+a +b +c +a +b +c -b", "yes", "T1:;T2: a c;B1:;B2:;p: 0"},
		scripted{3, "+a +b +c +a +b +c -a", "yes", "T1:;T2: b c;B1:;B2:;p: 0"},
		scripted{3, "+a +b +c +a +b +c -c", "yes", "T1:;T2: a b;B1:;B2:;p: 0"},
		scripted{3, raise(2) + often("gh") + once("i") + "+a +b +b -b", "yes", "T1: a;T2:;B1: i;B2: g h;p: 2"},
		// Twice, of a key that was never there, of ghosts.
		scripted{3, "+a +b -a -a", "no", "T1: b;T2:;B1:;B2:;p: 0"},
		scripted{3, "-a", "no", "T1:;T2:;B1:;B2:;p: 0"},
		scripted{3, "+a +b +b -c", "no", "T1: a;T2: b;B1:;B2:;p: 0"},
		scripted{3, raise(2) + often("gh") + once("ij") + "-i", "no", "T1:;T2:;B1: i j;B2: g h;p: 2"},
		scripted{3, raise(2) + often("gh") + once("ij") + "-h", "no", "T1:;T2:;B1: i j;B2: g h;p: 2"},
		// It is unknown then.
		scripted{3, "+a +a +b -a +a", "miss", "T1: b a;T2:;B1:;B2:;p: 0"},
		scripted{2, "+a +b -a =a", "yes", "T1: b a;T2:;B1:;B2:;p: 0"},
	)
}

// P10.3: Evict makes a ghost of the oldest of T1 or T2, by p.
func TestEvict(t *testing.T) {
	run(t,
		scripted{3, "!", "no", "T1:;T2:;B1:;B2:;p: 0"},
		scripted{3, "+a +b !", "yes a", "T1: b;T2:;B1: a;B2:;p: 0"},
		scripted{3, "+a +b ! !", "yes b", "T1:;T2:;B1: a b;B2:;p: 0"},
		scripted{3, "+a +b ! ! !", "no", "T1:;T2:;B1: a b;B2:;p: 0"},
		// T1 has more than p, just p, fewer.
		scripted{5, raise(1) + "+a +a +b +b +c +d !", "yes c", "T1: d;T2: a b;B1: c;B2:;p: 1"},
		scripted{5, raise(2) + "+a +a +b +b +c +d !", "yes a", "T1: c d;T2: b;B1:;B2: a;p: 2"},
		scripted{5, raise(3) + "+a +a +b +b +c +d !", "yes a", "T1: c d;T2: b;B1:;B2: a;p: 3"},
		// None; T2 has none.
		scripted{5, "+a +a +b +b !", "yes a", "T1:;T2: b;B1:;B2: a;p: 0"},
		scripted{5, raise(2) + "+a +a +b +b !", "yes a", "T1:;T2: b;B1:;B2: a;p: 2"},
		scripted{5, raise(2) + "+a +b !", "yes a", "T1: b;T2:;B1: a;B2:;p: 2"},
		scripted{5, raise(5) + "+a +b !", "yes a", "T1: b;T2:;B1: a;B2:;p: 5"},
		// All of them, one by one.
		scripted{5, "+a +a +b +b +c +d ! !", "yes d", "T1:;T2: a b;B1: c d;B2:;p: 0"},
		scripted{5, raise(1) + "+a +a +b +b +c +d ! !", "yes a", "T1: d;T2: b;B1: c;B2: a;p: 1"},
		scripted{5, raise(1) + "+a +a +b +b +c +d ! ! !", "yes b", "T1: d;T2:;B1: c;B2: a b;p: 1"},
		scripted{5, raise(1) + "+a +a +b +b +c +d ! ! ! !", "yes d", "T1:;T2:;B1: c d;B2: a b;p: 1"},
		scripted{5, raise(1) + "+a +a +b +b +c +d ! ! ! ! !", "no", "T1:;T2:;B1: c d;B2: a b;p: 1"},
		// It is the newest of its ghosts.
		scripted{5, often("g") + once("h") + "+a +b +b !", "yes a", "T1:;T2: b;B1: h a;B2: g;p: 0"},
		scripted{5, often("g") + once("h") + "+a +b +b ! !", "yes b", "T1:;T2:;B1: h a;B2: g b;p: 0"},
		// All rooms of the ghosts are full.
		scripted{2, often("gh") + "+a +b !", "yes a", "T1: b;T2:;B1: a;B2: g h;p: 0"},
		scripted{2, often("gh") + "+a +a +b +b ! !", "yes b", "T1:;T2:;B1:;B2: g h a b;p: 0"},
	)
}

// P10.3, P10.4: Keys, Ghosts and State from the oldest to the newest, and Has, Len and Room beside them.
func TestTold(t *testing.T) {
	x := newPair(t, 6)
	x.does(calls(raise(3) + often("hg") + once("ji") + "+d +c +b +a +d +b")...)
	e := x.e
	if got := e.State(); got != "T1: c a;T2: d b;B1: j i;B2: h g;p: 3" {
		t.Fatal(got)
	}
	if got := strings.Join(e.Keys(), " "); got != "c a d b" {
		t.Errorf("Keys %s", got)
	}
	if got := strings.Join(e.Ghosts(), " "); got != "j i h g" {
		t.Errorf("Ghosts %s", got)
	}
	for key, want := range map[string]bool{"a": true, "b": true, "c": true, "d": true, "g": false, "h": false, "i": false, "j": false, "x": false, "": false, "ab": false} {
		if got := e.Has(key); got != want {
			t.Errorf("Has(%s): %v", key, got)
		}
	}
	if e.Len() != 4 || e.Room() != 6 {
		t.Errorf("Len %d, Room %d", e.Len(), e.Room())
	}
	x.same()
}

// P10.3: what Evict answers, till nobody is resident, and then it answers nothing and changes nothing.
func TestEvictAll(t *testing.T) {
	for room := 1; room <= 9; room++ {
		for p := 0; p <= room; p++ {
			for again := 0; again <= room; again++ {
				x := newPair(t, room)
				x.does(calls(raise(p))...)
				for i := range room {
					x.does(call{'+', strconv.Itoa(i)})
				}
				for i := range again {
					x.does(call{'+', strconv.Itoa(i)})
				}
				for range room + 2 {
					x.does(call{'!', ""})
				}
				if x.e.Len() != 0 || len(x.e.Ghosts()) != room {
					t.Fatal(room, p, again, x.e.State())
				}
			}
		}
	}
}

// reached is a plain engine and the calls that lead to it.
type reached struct {
	m    *plain
	path []call
}

// next is all calls that differ: on each key of the lists, and on one in none of them.
func (m *plain) next() []call {
	fresh := 0
	known := slices.Concat(m.t1, m.t2, m.b1, m.b2)
	for slices.Contains(known, strconv.Itoa(fresh)) {
		fresh++
	}
	all := []call{{'!', ""}}
	for _, key := range append(known, strconv.Itoa(fresh)) {
		all = append(all, call{'+', key}, call{'=', key}, call{'-', key})
	}
	return all
}

// P10.1 to P10.5: each shape that can be reached at all in small rooms, and each call there.
func TestEachShape(t *testing.T) {
	for room := 1; room <= 5; room++ {
		seen := map[string]int{}
		queue := []reached{{m: newPlain(room)}}
		for len(queue) > 0 {
			at := queue[0]
			queue = queue[1:]
			for _, c := range at.m.next() {
				x := &pair{t, arc.New(room), at.m.copied()}
				for _, before := range at.path {
					onEngine(x.e, before)
				}
				x.does(c)
				x.has("0", "1", "none")
				if seen[x.m.shape()]++; seen[x.m.shape()] == 1 {
					queue = append(queue, reached{x.m, append(slices.Clone(at.path), c)})
				}
			}
		}
		if len(seen) < room*room*room {
			t.Errorf("room %d: %d shapes alone", room, len(seen))
		}
	}
}

// P10.1 to P10.5: all short rows of calls on few keys.
func TestAllShortRows(t *testing.T) {
	var all []call
	for _, key := range []string{"a", "b", "c"} {
		all = append(all, call{'+', key}, call{'=', key}, call{'-', key})
	}
	all = append(all, call{'!', ""})
	for room := 1; room <= 2; room++ {
		rows := 1
		for length := 1; length <= 5; length++ {
			rows *= len(all)
			for n := range rows {
				shortRow(t, room, all, n, length)
			}
		}
	}
}

// shortRow makes the n-th row of so many calls, and looks at what is told behind the last one.
func shortRow(t *testing.T, room int, all []call, n, length int) {
	t.Helper()
	x := newPair(t, room)
	for k := n; length > 0; k /= len(all) {
		x.quick(all[k%len(all)])
		length--
	}
	if got, want := x.e.State(), x.m.state(); got != want {
		t.Fatalf("room %d, row %d: %s, not %s", room, n, got, want)
	}
}

// anyKeys is keys of many kinds: the empty one, alike ones, long ones, ones with any bytes.
func anyKeys() []string {
	bytes := make([]byte, 512)
	for i := range bytes {
		bytes[i] = byte(i)
	}
	long := strings.Repeat("long", 300)
	return []string{
		"", " ", "  ", ";", ":", "T1:", "T1", ";p: 0", "\x00", "\x00\x00", "\n", "a", "b", "aa", "ab", "a b", "a;b",
		"alike0", "alike1", "alike2", "alike", long, long + "0", long + "1", long[1:], "0" + long,
		string(bytes), string(bytes[:256]), string(bytes[1:]), "\xff", "\xff\xfe", "\x80", "é", "e\u0301", "日本", "\U0010ffff",
	}
}

// P10.1 to P10.5: long rows of all calls in whatever order.
func TestLongRows(t *testing.T) {
	for room := 1; room <= 24; room++ {
		var keys []string
		for i := range 3*room + 1 {
			keys = append(keys, "k"+strconv.Itoa(i))
		}
		mixed(t, room, keys, 3000)
	}
	for _, room := range []int{1, 2, 3, 5, 8, 13, 17, 30} {
		mixed(t, room, anyKeys(), 3000)
	}
	for _, room := range []int{100, api.MaxRoom, math.MaxInt} {
		var keys []string
		for i := range 3 * min(room, api.MaxRoom) {
			keys = append(keys, "k"+strconv.Itoa(i))
		}
		mixed(t, room, keys, 12000)
	}
}

// mixed makes calls, first mostly Accesses of few of the keys, then of all, with times of each other call.
func mixed(t *testing.T, room int, keys []string, n int) {
	t.Helper()
	x := newPair(t, room)
	pick := lots(uint64(room))
	for i := range n {
		among := len(keys)
		if pick(3) == 0 {
			among = len(keys)/3 + 1
		}
		c := call{'+', keys[pick(among)]}
		switch pick(20) {
		case 0, 1:
			c.what = '='
		case 2:
			c.what = '-'
		case 3, 4:
			c = call{'!', ""}
		}
		if i/500%4 == 3 && c.what == '+' && pick(2) == 0 {
			c = call{"-=!"[pick(3)], c.key}
		}
		x.quick(c)
		if len(keys) < 200 || i%100 == 0 {
			x.same()
			x.has(c.key)
		}
	}
	x.same()
	x.has(keys...)
}

// P10.1: a row of keys that are used once drives no one away that is used often; one that is used again and again makes p more.
func TestOnceAndOften(t *testing.T) {
	e := arc.New(64)
	for i := range 64 {
		e.Access("hot" + strconv.Itoa(i%32))
	}
	for i := range 1000 {
		e.Access("scan" + strconv.Itoa(i))
	}
	for i := range 32 {
		if !e.Has("hot" + strconv.Itoa(i)) {
			t.Errorf("hot%d went", i)
		}
	}
	if !strings.HasSuffix(e.State(), ";p: 0") {
		t.Error(e.State())
	}
	for i := range 20 {
		e.Access("scan" + strconv.Itoa(940+i))
	}
	if !strings.HasSuffix(e.State(), ";p: 20") {
		t.Error(e.State())
	}
}

// P10.1 to P10.4: the empty text is a key as any other one.
func TestEmptyText(t *testing.T) {
	e := arc.New(2)
	if hit, gone := e.Access(""); hit || len(gone) != 0 || !e.Has("") || e.Len() != 1 || e.State() != "T1: ;T2:;B1:;B2:;p: 0" {
		t.Error(hit, gone, e.State())
	}
	if hit, gone := e.Access(""); !hit || len(gone) != 0 || e.State() != "T1:;T2: ;B1:;B2:;p: 0" {
		t.Error(hit, gone, e.State())
	}
	if key, ok := e.Evict(); key != "" || !ok || e.Has("") || e.State() != "T1:;T2:;B1:;B2: ;p: 0" {
		t.Error(key, ok, e.State())
	}
	if key, ok := e.Evict(); key != "" || ok || len(e.Ghosts()) != 1 {
		t.Error(key, ok, e.State())
	}
	if e.Remove("") || !e.Load("") || e.Load("") || !e.Remove("") || e.Remove("") || e.Len() != 0 || len(e.Ghosts()) != 0 {
		t.Error(e.State())
	}
	e.Access("")
	e.Access("a")
	if hit, gone := e.Access("b"); hit || !slices.Equal(gone, []string{""}) || e.State() != "T1: a b;T2:;B1:;B2:;p: 0" {
		t.Error(hit, gone, e.State())
	}
}

// P10.4: keys with any bytes are told as they are.
func TestAnyBytes(t *testing.T) {
	for _, key := range anyKeys() {
		e := arc.New(3)
		e.Access(key)
		if got, want := e.State(), "T1: "+key+";T2:;B1:;B2:;p: 0"; got != want {
			t.Errorf("State %.80q, not %.80q", got, want)
		}
		if got := e.Keys(); len(got) != 1 || got[0] != key {
			t.Errorf("Keys %.80q, not %.80q", got, key)
		}
		for _, other := range anyKeys() {
			if got := e.Has(other); got != (other == key) {
				t.Errorf("%.80q: Has(%.80q): %v", key, other, got)
			}
		}
		if got, ok := e.Evict(); got != key || !ok {
			t.Errorf("Evict %.80q, not %.80q", got, key)
		}
		if got := e.Ghosts(); len(got) != 1 || got[0] != key {
			t.Errorf("Ghosts %.80q, not %.80q", got, key)
		}
	}
}

// fresh is a text of the test's own, which may be written over.
func fresh(text string) string { return strings.Clone(text) }

// blot writes over a text's bytes.
func blot(text string) {
	for i := range len(text) {
		unsafe.Slice(unsafe.StringData(text), len(text))[i] = '#'
	}
}

// P10.5, W6: what is answered is new memory: written over, lists, their spare room and texts, it changes nothing.
func TestAnswersWrittenOver(t *testing.T) {
	x := newPair(t, 5)
	pick := lots(7)
	for range 4000 {
		key := fresh("key" + strconv.Itoa(pick(16)))
		switch pick(8) {
		case 0:
			got, _ := x.e.Evict()
			want, _ := x.m.evict()
			if got != want {
				t.Fatalf("Evict %q, not %q", got, want)
			}
			blot(got)
		case 1:
			x.e.Load(key)
			x.m.load(fresh(key))
		default:
			_, got := x.e.Access(key)
			_, want := x.m.access(fresh(key))
			if !slices.Equal(got, want) {
				t.Fatalf("Access %q, not %q", got, want)
			}
			blotAll(got)
		}
		// What was handed in is the test's again, too.
		blot(key)
		x.same()
		blotAll(x.e.Keys())
		blotAll(x.e.Ghosts())
		blot(x.e.State())
		x.same()
	}
}

// blotAll writes over the texts, then over the list with all of its spare room.
func blotAll(list []string) {
	for _, text := range list {
		blot(text)
	}
	list = list[:cap(list)]
	for i := range list {
		list[i] = "###"
	}
}

// P10.5, W7: what was answered stays what it is.
func TestAnswersStay(t *testing.T) {
	e := arc.New(6)
	pick := lots(11)
	var held [][]string
	var copies []string
	keep := func(list ...string) {
		held = append(held, list)
		copies = append(copies, fmt.Sprintf("%q", list))
	}
	for range 2000 {
		_, gone := e.Access("k" + strconv.Itoa(pick(20)))
		keep(gone...)
		keep(e.Keys()...)
		keep(e.Ghosts()...)
		keep(e.State())
		if pick(4) == 0 {
			key, _ := e.Evict()
			keep(key)
		}
	}
	for i, list := range held {
		if got := fmt.Sprintf("%q", list); got != copies[i] {
			t.Fatalf("answer %d: %s, not %s", i, got, copies[i])
		}
	}
}

// W6: no two answers share a text, nor does one share it with what was handed in.
func TestTextsAreNew(t *testing.T) {
	e := arc.New(4)
	seen := map[*byte]int{}
	var all []string
	note := func(texts ...string) {
		for _, text := range texts {
			all = append(all, text)
			if seen[unsafe.StringData(text)]++; seen[unsafe.StringData(text)] > 1 {
				t.Fatalf("%q was answered before", text)
			}
		}
	}
	pick := lots(3)
	for range 500 {
		key := fresh("key" + strconv.Itoa(pick(12)))
		_, gone := e.Access(key)
		note(key)
		note(gone...)
		note(e.Keys()...)
		note(e.Keys()...)
		note(e.Ghosts()...)
		note(e.Ghosts()...)
		note(e.State(), e.State())
		if pick(5) == 0 {
			went, _ := e.Evict()
			note(went)
		}
	}
	runtime.KeepAlive(all)
}

// W6: the long text of which keys are pieces is free while the engine lives on.
func TestHandedInIsNotKept(t *testing.T) {
	e := arc.New(4)
	long := strings.Repeat("key", 1<<16)
	weakly := weak.Make(unsafe.StringData(long))
	for i := range 9 {
		e.Access(long[i : 2*i])
		e.Access(long[i : 2*i])
		e.Access(long[i : 3*i])
		e.Load(long[i : i+5])
		e.Has(long[i:])
		e.Remove(long[i : i+2])
		e.Evict()
	}
	long = ""
	runtime.GC()
	if weakly.Value() != nil {
		t.Error("the long text is still held")
	}
	if e.Len()+len(e.Ghosts()) == 0 {
		t.Error("nothing is there")
	}
}

// W6, P10.2: keys that are in no list any more are held no more.
func TestGoneIsNotHeld(t *testing.T) {
	const size = 1 << 22
	e := arc.New(1)
	before := heap()
	for i := range 8 {
		e.Access(strings.Repeat(strconv.Itoa(i), size))
	}
	e.Remove(strings.Repeat("7", size))
	if after := heap(); after > before+size/2 {
		t.Errorf("%d bytes are held, %d before", after, before)
	}
	if got := e.State(); got != "T1:;T2:;B1:;B2:;p: 0" {
		t.Errorf("%.100s", got)
	}
}

func heap() uint64 {
	runtime.GC()
	var m runtime.MemStats
	runtime.ReadMemStats(&m)
	return m.HeapAlloc
}

// W2: two engines do not meet, and what is told hangs on the calls alone.
func TestTwoEngines(t *testing.T) {
	x, y, z := newPair(t, 3), newPair(t, 3), newPair(t, 7)
	pick := lots(5)
	for range 3000 {
		c := call{"+++++=-!"[pick(8)], "k" + strconv.Itoa(pick(12))}
		switch pick(3) {
		case 0:
			x.does(c)
		case 1:
			y.does(c)
		default:
			z.does(c)
		}
		x.same()
		y.same()
		z.same()
	}
}

// P10.5, W8: a nil Engine has nothing, and takes nothing.
func TestNilEngine(t *testing.T) {
	var e *arc.Engine
	hasNothing(t, e)
	if e != nil {
		t.Error("nil no more")
	}
}

// W1: so does one that New did not make.
func TestZeroEngine(t *testing.T) { hasNothing(t, new(arc.Engine)) }

func hasNothing(t *testing.T, e *arc.Engine) {
	t.Helper()
	for range 2 {
		for _, key := range anyKeys() {
			hit, gone := e.Access(key)
			if hit || len(gone) != 0 || e.Load(key) || e.Has(key) || e.Remove(key) {
				t.Errorf("%.40q: %v %q", key, hit, gone)
			}
			if went, ok := e.Evict(); went != "" || ok {
				t.Errorf("Evict %q %v", went, ok)
			}
			if len(e.Keys()) != 0 || len(e.Ghosts()) != 0 || e.State() != "" || e.Len() != 0 || e.Room() != 0 {
				t.Errorf("%q %q %q %d %d", e.Keys(), e.Ghosts(), e.State(), e.Len(), e.Room())
			}
		}
	}
}

// W8: of an engine and its copy one may be used.
func TestCopied(t *testing.T) {
	x := newPair(t, 3)
	x.does(calls(raise(2) + often("gh") + "+a +a +b +c")...)
	engine := *x.e
	x.e = &engine
	x.same()
	x.does(calls("+g +d +b =h ! -a +a +h ! ! !")...)
}
