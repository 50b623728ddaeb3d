package tinylfu_test

import (
	"fmt"
	"math"
	"runtime"
	"slices"
	"strconv"
	"strings"
	"testing"
	"unsafe"
	"weak"

	"hoard/api"
	"hoard/tinylfu"
)

// said is what the last call of a script answered: hit or miss and what went, yes or no, or the key that an Evict answered.
func said(e *tinylfu.Engine, script string) string {
	answer := ""
	for _, c := range calls(script) {
		switch c.what {
		case '+':
			hit, gone := e.Access(c.key)
			answer = map[bool]string{true: "hit", false: "miss"}[hit] + strings.Join(append([]string{""}, gone...), " ")
		case '=':
			answer = map[bool]string{true: "yes", false: "no"}[e.Load(c.key)]
		case '-':
			answer = map[bool]string{true: "yes", false: "no"}[e.Remove(c.key)]
		default:
			key, ok := e.Evict()
			answer = map[bool]string{true: "yes " + key, false: "no" + key}[ok]
		}
	}
	return answer
}

// scripted is a script, what its last call answers, and all of State behind it.
type scripted struct {
	room                  int
	script, answer, state string
}

func run(t *testing.T, all ...scripted) {
	t.Helper()
	for _, s := range all {
		e := tinylfu.New(s.room)
		if got := said(e, s.script); got != s.answer {
			t.Errorf("room %d, %s: %q, not %q", s.room, s.script, got, s.answer)
		}
		if got := e.State(); got != s.state {
			t.Errorf("room %d, %s:\n%s, not\n%s", s.room, s.script, got, s.state)
		}
		newPair(t, s.room).does(calls(s.script)...)
	}
}

// numbered is so many words of a script: a call on a letter and 0, 1, 2 and so on.
func numbered(what string, n int) string {
	s := ""
	for i := range n {
		s += what + strconv.Itoa(i) + " "
	}
	return s
}

// row is what State tells of keys with these numbers.
func row(name string, first, n int) string {
	s := ""
	for i := first; i < n; i++ {
		s += fmt.Sprintf(" %s%d", name, i)
	}
	return s
}

// used is a script by which a key is used so many times, and nobody is resident, if nobody was.
func used(key string, n int) string {
	if n == 0 {
		return ""
	}
	return strings.Repeat("+"+key+" ", n) + "-" + key + " "
}

// letters is keys of which each has a cell and a bit that no other one of them has, so that how often they were used is told as it was.
var letters = strings.Fields("a b c d e f g h i j")

func TestLettersDoNotMeet(t *testing.T) {
	for _, room := range []int{8, 16, 32, 64} {
		for _, key := range letters {
			x := newPlain(room)
			for _, other := range letters {
				if other == key {
					continue
				}
				x.door(other, true)
				for i := range x.cells {
					*x.cell(i, other) = 15
				}
			}
			if x.counted(key) != 0 || x.door(key, false) {
				t.Errorf("room %d: %s", room, key)
			}
		}
	}
}

// howOften is how often a key was used, as is to be seen behind a script that leaves nobody resident: by how many uses of g, which was not used yet, it drives g no longer away. h is not to be used either.
func howOften(room int, script, key string) int {
	forW := max(room/8, 1)
	for n := range 20 {
		e := tinylfu.New(room)
		said(e, script+used("g", n)+"=g "+numbered("=m", room-forW-1)+"="+key+" "+numbered("=n", forW-1)+"+h")
		if e.Has("g") == e.Has(key) {
			return -1
		}
		if e.Has("g") {
			return n
		}
	}
	return -2
}

func TestExample(t *testing.T) {
	e := tinylfu.New(8)
	e.Access("a")
	e.Access("b")
	if got := e.State(); got != "W: b;A: a;P:" {
		t.Error(got)
	}
}

// Words, P14.4: the room is held within 1 and MaxRoom.
func TestRooms(t *testing.T) {
	for _, x := range []struct{ room, want int }{
		{math.MinInt, 1}, {math.MinInt + 1, 1}, {-(1 << 32) + 5, 1}, {-(1 << 32), 1}, {-1025, 1}, {-1024, 1}, {-8, 1}, {-2, 1}, {-1, 1}, {0, 1},
		{1, 1}, {2, 2}, {3, 3}, {7, 7}, {8, 8}, {9, 9}, {15, 15}, {16, 16}, {17, 17}, {255, 255}, {256, 256},
		{1022, 1022}, {1023, 1023}, {1024, 1024}, {1025, 1024}, {2048, 1024},
		{1 << 16, 1024}, {1<<31 - 1, 1024}, {1 << 31, 1024}, {1 << 32, 1024}, {1<<32 + 5, 1024}, {1 << 62, 1024}, {math.MaxInt - 1, 1024}, {math.MaxInt, 1024},
	} {
		e := tinylfu.New(x.room)
		if got := e.Room(); got != x.want {
			t.Errorf("New(%d): Room %d, not %d", x.room, got, x.want)
		}
		if got := e.State(); got != "W:;A:;P:" || e.Len() != 0 || len(e.Keys()) != 0 || len(e.Ghosts()) != 0 {
			t.Errorf("New(%d): %s", x.room, got)
		}
		for i := range x.want + 2 {
			e.Access(strconv.Itoa(i))
		}
		if got := e.Len(); got != x.want {
			t.Errorf("New(%d): %d are resident, not %d", x.room, got, x.want)
		}
	}
	if api.MaxRoom != 1024 {
		t.Error("the test's own words")
	}
}

// Words: the window has room for an eighth, at least 1, main for the rest, P for four fifths of main, all rounded down.
func TestParts(t *testing.T) {
	for _, x := range []struct{ room, c, forW, forP int }{
		{math.MinInt, 1, 1, 0}, {-1024, 1, 1, 0}, {-1, 1, 1, 0}, {0, 1, 1, 0},
		{1, 1, 1, 0}, {2, 2, 1, 0}, {3, 3, 1, 1}, {4, 4, 1, 2}, {5, 5, 1, 3}, {6, 6, 1, 4}, {7, 7, 1, 4}, {8, 8, 1, 5}, {9, 9, 1, 6}, {10, 10, 1, 7}, {11, 11, 1, 8}, {12, 12, 1, 8},
		{15, 15, 1, 11}, {16, 16, 2, 11}, {17, 17, 2, 12}, {23, 23, 2, 16}, {24, 24, 3, 16}, {25, 25, 3, 17}, {31, 31, 3, 22}, {32, 32, 4, 22},
		{1016, 1016, 127, 711}, {1022, 1022, 127, 716}, {1023, 1023, 127, 716}, {1024, 1024, 128, 716}, {1025, 1024, 128, 716}, {2048, 1024, 128, 716}, {math.MaxInt, 1024, 128, 716},
	} {
		main := x.c - x.forW
		full := "W:" + row("m", main, x.c) + ";A:" + row("m", 0, main) + ";P:"
		for _, what := range []string{"+m", "=m"} {
			e := tinylfu.New(x.room)
			said(e, numbered(what, x.c))
			if got := e.State(); got != full {
				t.Errorf("New(%d), %s: %.200s, not %.200s", x.room, what, got, full)
			}
			// By one use of each of main P is full, and the others came back into A.
			said(e, numbered("+m", main))
			want := "W:" + row("m", main, x.c) + ";A:" + row("m", 0, main-x.forP) + ";P:" + row("m", main-x.forP, main)
			if got := e.State(); got != want {
				t.Errorf("New(%d), %s: %.200s, not %.200s", x.room, what, got, want)
			}
		}
	}
}

// P14.1: a key of W becomes its last one.
func TestAccessOfW(t *testing.T) {
	run(t,
		scripted{1, "+a +a", "hit", "W: a;A:;P:"},
		scripted{1, "=a +a +a", "hit", "W: a;A:;P:"},
		scripted{2, "+a +b +b", "hit", "W: b;A: a;P:"},
		// First, between, last.
		scripted{16, "+a +b +a", "hit", "W: b a;A:;P:"},
		scripted{24, "+a +b +a", "hit", "W: b a;A:;P:"},
		scripted{24, "+a +b +c +a", "hit", "W: b c a;A:;P:"},
		scripted{24, "+a +b +c +b", "hit", "W: a c b;A:;P:"},
		scripted{24, "+a +b +c +c", "hit", "W: a b c;A:;P:"},
		scripted{24, "+a +b +c +b +a", "hit", "W: c b a;A:;P:"},
		scripted{24, "+a +b +c +d +e +c", "hit", "W: d e c;A: a b;P:"},
		scripted{24, "+a +b +c +d +e +a +c +d", "hit", "W: e c d;A: b;P: a"},
		// c are resident: nobody goes, though it was used more often than others.
		scripted{2, "=a =b +b +b", "hit", "W: b;A: a;P:"},
		scripted{3, "=a =b =c +a +c", "hit", "W: c;A: b;P: a"},
		scripted{16, numbered("=m", 14) + "+a +b +a +a", "hit", "W: b a;A:" + row("m", 0, 14) + ";P:"},
		// It stays in W for as long as others are used longer ago.
		scripted{16, "+a +b +a +c", "miss", "W: a c;A: b;P:"},
	)
}

// P14.1: a key of P becomes its last one.
func TestAccessOfP(t *testing.T) {
	run(t,
		scripted{4, "=a +a +a", "hit", "W:;A:;P: a"},
		scripted{4, "=a +a +a +a +a", "hit", "W:;A:;P: a"},
		// First, between, last.
		scripted{4, "=a =b +a +b +a", "hit", "W:;A:;P: b a"},
		scripted{4, "=a =b +a +b +b", "hit", "W:;A:;P: a b"},
		scripted{6, "=a =b =c +a +b +c +a", "hit", "W:;A:;P: b c a"},
		scripted{6, "=a =b =c +a +b +c +b", "hit", "W:;A:;P: a c b"},
		scripted{6, "=a =b =c +a +b +c +c", "hit", "W:;A:;P: a b c"},
		scripted{6, "=a =b =c +a +b +c +b +a", "hit", "W:;A:;P: c b a"},
		// P is full: nobody leaves it.
		scripted{3, "=a =b +a +a", "hit", "W:;A: b;P: a"},
		scripted{4, "=a =b =c +a +b +a", "hit", "W:;A: c;P: b a"},
		scripted{4, "=a =b =c =d +a +b +a", "hit", "W: d;A: c;P: b a"},
		// The first one then is another one.
		scripted{4, "=a =b =c +a +b +a +c", "hit", "W:;A: b;P: a c"},
	)
}

// P14.1: a key of A becomes the last one of P, and who has no room there any more the last one of A.
func TestAccessOfA(t *testing.T) {
	run(t,
		// P is below its room: the first, between, the last.
		scripted{4, "=a +a", "hit", "W:;A:;P: a"},
		scripted{6, "=a =b =c +a", "hit", "W:;A: b c;P: a"},
		scripted{6, "=a =b =c +b", "hit", "W:;A: a c;P: b"},
		scripted{6, "=a =b =c +c", "hit", "W:;A: a b;P: c"},
		scripted{6, "=a =b =c +c +a", "hit", "W:;A: b;P: c a"},
		scripted{6, "=a =b =c +c +a +b", "hit", "W:;A:;P: c a b"},
		scripted{8, "+a +b +a", "hit", "W: b;A:;P: a"},
		// c are resident: nobody goes.
		scripted{3, "=a =b =c +a", "hit", "W: c;A: b;P: a"},
		scripted{3, "+a +b +c +b", "hit", "W: c;A: a;P: b"},
		// P is at its room.
		scripted{3, "=a =b +a +b", "hit", "W:;A: a;P: b"},
		scripted{3, "=a =b +a +b +a", "hit", "W:;A: b;P: a"},
		scripted{3, "=a =b =c +a +b", "hit", "W: c;A: a;P: b"},
		scripted{4, "=a =b =c +a +b +c", "hit", "W:;A: a;P: b c"},
		scripted{4, "=a =b =c +a +b +c +a", "hit", "W:;A: b;P: c a"},
		scripted{8, numbered("=m", 7) + numbered("+m", 6), "hit", "W:;A: m6 m0;P:" + row("m", 1, 6)},
		scripted{8, numbered("=m", 7) + numbered("+m", 5) + "+m6", "hit", "W:;A: m5 m0;P:" + row("m", 1, 5) + " m6"},
		scripted{8, numbered("=m", 7) + numbered("+m", 6) + "+m0", "hit", "W:;A: m6 m1;P:" + row("m", 2, 6) + " m0"},
		// P has no room at all: it is the last one of A again.
		scripted{2, "=a +a", "hit", "W:;A: a;P:"},
		scripted{2, "+a +b +a +a", "hit", "W: b;A: a;P:"},
	)
}

// P14.1: a key that is nowhere becomes the last one of W, and for the one that leaves W there is a place in main.
func TestAccessOfUnknown(t *testing.T) {
	run(t,
		// W is below its room: with main below, and at what it may have.
		scripted{1, "+a", "miss", "W: a;A:;P:"},
		scripted{8, "+a", "miss", "W: a;A:;P:"},
		scripted{24, "+a +b +c", "miss", "W: a b c;A:;P:"},
		scripted{24, "=a +a =b +c +d", "miss", "W: c d;A: b;P: a"},
		scripted{3, "=a =b +c", "miss", "W: c;A: a b;P:"},
		scripted{3, "=a =b +a +c", "miss", "W: c;A: b;P: a"},
		scripted{3, "=a =b =c -c +d", "miss", "W: d;A: a b;P:"},
		scripted{16, numbered("=m", 15) + "+a", "miss", "W: m14 a;A:" + row("m", 0, 14) + ";P:"},
		// W is at its room, main below.
		scripted{8, "+a +b", "miss", "W: b;A: a;P:"},
		scripted{8, "+a +b +c", "miss", "W: c;A: a b;P:"},
		scripted{16, "+a +b +c", "miss", "W: b c;A: a;P:"},
		scripted{16, "+a +b +c +d", "miss", "W: c d;A: a b;P:"},
		scripted{8, "=a =b +c +d", "miss", "W: d;A: a b c;P:"},
		scripted{8, "=a +a +b +c", "miss", "W: c;A: b;P: a"},
		scripted{8, "=a =b +a +c +d", "miss", "W: d;A: b c;P: a"},
		scripted{3, "=a +b +c", "miss", "W: c;A: a b;P:"},
		scripted{3, "=a +a +b +c", "miss", "W: c;A: b;P: a"},
		scripted{3, "=a =b =c -a +d", "miss", "W: d;A: b c;P:"},
		scripted{3, "=a =b =c +a -a +d", "miss", "W: d;A: b c;P:"},
		// Main is none.
		scripted{1, "+a +b", "miss a", "W: b;A:;P:"},
		scripted{1, "+a +a +a +b", "miss a", "W: b;A:;P:"},
		scripted{1, "+a +a +b +a", "miss b", "W: a;A:;P:"},
		scripted{1, "=a +b", "miss a", "W: b;A:;P:"},
		scripted{0, "+a +b +c", "miss b", "W: c;A:;P:"},
		scripted{-8, "+a +b +c", "miss b", "W: c;A:;P:"},
	)
}

// P14.1: main is full: the candidate goes, or, if it was more often, the victim.
func TestCandidateAndVictim(t *testing.T) {
	run(t,
		// More often.
		scripted{2, "=a +b +c", "miss a", "W: c;A: b;P:"},
		scripted{2, "+a +b +b +c", "miss a", "W: c;A: b;P:"},
		scripted{3, "=a =b +c +d", "miss a", "W: d;A: b c;P:"},
		scripted{4, "=a =b =e +c +d", "miss a", "W: d;A: b e c;P:"},
		scripted{4, "=a =b =e +b +c +d", "miss a", "W: d;A: e c;P: b"},
		scripted{16, numbered("=m", 14) + "+a +b +c", "miss m0", "W: b c;A:" + row("m", 1, 14) + " a;P:"},
		scripted{16, numbered("=m", 14) + "+a +b +a +c", "miss m0", "W: a c;A:" + row("m", 1, 14) + " b;P:"},
		// As often.
		scripted{2, "=a =b +c", "miss b", "W: c;A: a;P:"},
		scripted{2, "+a +b +c", "miss b", "W: c;A: a;P:"},
		scripted{2, "+a +a +b +b +c", "miss b", "W: c;A: a;P:"},
		scripted{3, "=a =b +c +d +e +f", "miss e", "W: f;A: c d;P:"},
		scripted{16, numbered("=m", 16) + "+c", "miss m14", "W: m15 c;A:" + row("m", 0, 14) + ";P:"},
		// Less often.
		scripted{2, "+a -a =a =b +c", "miss b", "W: c;A: a;P:"},
		scripted{2, "+a +b +a +c", "miss b", "W: c;A: a;P:"},
		scripted{2, "+a +b +a +a +b +c", "miss b", "W: c;A: a;P:"},
		// The victim is A's first, be one of P or another one of A used less often, or more.
		scripted{3, "=a =b +a +a +a +b +c +c +d", "miss c", "W: d;A: a;P: b"},
		scripted{3, "=a =b +a +a +a +b +c +c +c +d", "miss c", "W: d;A: a;P: b"},
		scripted{3, "=a =b +a +a +a +b +c +c +c +c +d", "miss a", "W: d;A: c;P: b"},
		scripted{3, "=a =b +b +b +b +c +d", "miss a", "W: d;A: c;P: b"},
		scripted{3, "+a -a =a =b +c +d", "miss c", "W: d;A: a b;P:"},
		// What was used is known of who went, or was Removed; a use ahead, of the new key itself, does not count for another one.
		scripted{2, "=a +b +c +a +a +d", "miss b", "W: d;A: a;P:"},
		scripted{2, "+a +a -a =b +b +a +c", "miss b", "W: c;A: a;P:"},
		scripted{2, "=a =b +c +c", "hit", "W: c;A: a;P:"},
		scripted{2, "+a +b ! -b +c +a +d", "miss c", "W: d;A: a;P:"},
		scripted{2, "=a =b -b +b +b +b +c +d", "miss c", "W: d;A: b;P:"},
	)
}

// P14.1: how often is told by the Door, once, and by the Sketch, up to 15.
func TestHowOftenAgainstHowOften(t *testing.T) {
	for n := range 21 {
		for m := range 21 {
			script := used("a", n) + used("b", m) + "=b =a +c"
			want := scripted{2, script, "miss a", "W: c;A: b;P:"}
			if min(n, 16) > min(m, 16) {
				want = scripted{2, script, "miss b", "W: c;A: a;P:"}
			}
			run(t, want)
		}
	}
}

// P14.1 to P14.3: each Access is noted, whatever it finds, and nothing else is.
func TestNoted(t *testing.T) {
	for _, room := range []int{2, 3, 4, 7, 8, 9, 15, 16, 17, 24} {
		for _, x := range []struct {
			script string
			want   int
		}{
			{"", 0}, {"+a -a", 1}, {"+a +a -a", 2}, {"+a -a +a -a", 2}, {used("a", 9), 9}, {used("a", 15), 15}, {used("a", 16), 16}, {used("a", 17), 16}, {used("a", 40), 16},
			{used("b", 9), 0}, {used("b", 9) + used("a", 1) + used("c", 3), 1},
			// Resident in A, or in P.
			{"=a +a -a", 1}, {"=a +a +a -a", 2}, {"=a +a +a +a -a", 3},
			// It went, or was Removed, in between.
			{"+a ! +a -a", 2}, {"+a +a ! +a -a", 3},
			// Loads, that are taken or not; Removes; Evicts.
			{"=a -a", 0}, {"=a =a =a -a", 0}, {"+a =a -a", 1}, {"=a +a =a -a", 1}, {"-a -a -a", 0}, {"+a -a -a", 1}, {"=a -a =a !", 0}, {"+a ! !", 1}, {"=a +a ! =a ! !", 1},
		} {
			if got := howOften(room, x.script+" ", "a"); got != x.want {
				t.Errorf("room %d, %s: %d times, not %d", room, x.script, got, x.want)
			}
		}
	}
	run(t,
		// Nobody is noted who is asked for, or who goes as a candidate or a victim.
		scripted{1, "+a +b +a +b", "miss a", "W: b;A:;P:"},
		scripted{2, "+a +a +b +c +d +b +e", "miss b", "W: e;A: a;P:"},
		scripted{2, "=b =a =a =a =c =c -d -d +c", "miss a", "W: c;A: b;P:"},
	)
	e := tinylfu.New(2)
	said(e, "=b =a")
	for range 3 {
		e.Has("a")
		e.Keys()
		e.Ghosts()
		e.Len()
		e.Room()
	}
	if got := said(e, "+c"); got != "miss a" {
		t.Errorf("to be asked for was noted: %s", got)
	}
}

// most is a script by which the letters a to e are used as often as can be told: the Sketch's Sum is 75, and by 80 it halves in rooms up to 8.
var most = used("a", 16) + used("b", 16) + used("c", 16) + used("d", 16) + used("e", 16)

// again is a script by which a to d are used so that 32 more are counted, where all was halved behind most.
var again = used("a", 9) + used("b", 9) + used("c", 9) + used("d", 9)

// P14.1: where the Sketch halves, the Door is Cleared, and nowhere else.
func TestHalved(t *testing.T) {
	for _, room := range []int{2, 3, 7, 8} {
		for _, x := range []struct {
			script, key string
			want        int
		}{
			// At 15 there is no more to count, so the Sum is as it was.
			{used("a", 40) + used("b", 3), "a", 16}, {used("b", 3) + used("a", 40), "b", 3}, {used("i", 1) + used("a", 40), "i", 1},
			// All is halved, rounded down, and whom the Door alone knew is known no more.
			{most + used("f", 6), "a", 7}, {most + used("f", 6), "e", 7}, {most + used("f", 6), "f", 2}, {most + used("f", 6), "i", 0},
			{most + used("i", 1) + used("f", 6), "i", 0}, {most + used("i", 2) + used("f", 5), "i", 0}, {most + used("i", 3) + used("f", 4), "i", 1}, {most + used("i", 3) + used("f", 4), "f", 1},
			// From then on the first use is the Door's again.
			{most + used("f", 7), "f", 3}, {most + used("f", 8), "f", 4}, {most + used("f", 9), "f", 5}, {most + used("f", 7), "a", 7},
			{most + used("f", 6) + used("a", 1), "a", 8}, {most + used("f", 6) + used("a", 2), "a", 9}, {most + used("f", 6) + used("a", 9), "a", 16}, {most + used("f", 6) + used("a", 10), "a", 16},
			{most + used("f", 6) + used("i", 1), "i", 1}, {most + used("f", 6) + used("i", 2), "i", 2},
			// And once more, by 40 that are counted.
			{most + used("f", 6) + again + used("e", 9), "a", 7}, {most + used("f", 6) + again + used("e", 9), "f", 1}, {most + used("f", 6) + again + used("e", 9), "e", 7},
			{most + used("f", 6) + again + used("e", 10), "e", 8},
		} {
			if got := howOften(room, x.script, x.key); got != x.want {
				t.Errorf("room %d, %s: %s %d times, not %d", room, x.script, x.key, got, x.want)
			}
		}
	}
	// The Sketch is one of c: from room 9 on 80 are not as many as it may count.
	for _, room := range []int{9, 15, 16, 17, 24} {
		if a, f := howOften(room, most+used("f", 6), "a"), howOften(room, most+used("f", 6), "f"); a != 16 || f != 6 {
			t.Errorf("room %d: a %d times, f %d times", room, a, f)
		}
	}
}

// P14.1: it is noted ahead of all: by the very Access that halves the candidate is no more often than the victim.
func TestHalvedAhead(t *testing.T) {
	four := used("a", 16) + used("b", 16) + used("c", 16) + used("d", 16)
	run(t,
		// Four times and three times: 3 and 2 are counted, 60 for the four, 13 or 14 for the key of the Access.
		scripted{2, four + used("f", 4) + used("g", 3) + used("e", 14) + "=g =f +e", "miss g", "W: e;A: f;P:"},
		scripted{2, four + used("f", 4) + used("g", 3) + used("e", 15) + "=g =f +e", "miss f", "W: e;A: g;P:"},
		// Once and never: what the Door knew is gone, too.
		scripted{2, most + used("f", 1) + used("h", 4) + "=g =f +h", "miss g", "W: h;A: f;P:"},
		scripted{2, most + used("f", 1) + used("h", 5) + "=g =f +h", "miss f", "W: h;A: g;P:"},
		// By the 40 that are left when all was halved: 3 and 2 are counted of f and g, 32 of a to d, 2 or 3 of e.
		scripted{2, most + used("h", 6) + again + used("f", 4) + used("g", 3) + used("e", 2) + "=g =f +e", "miss g", "W: e;A: f;P:"},
		scripted{2, most + used("h", 6) + again + used("f", 4) + used("g", 3) + used("e", 3) + "=g =f +e", "miss f", "W: e;A: g;P:"},
		// Thrice and once: 1 and none stay.
		scripted{2, most + used("f", 3) + used("g", 1) + used("h", 3) + "=g =f +h", "miss g", "W: h;A: f;P:"},
	)
}

// P14.2: Load makes a key the last one of A, or, if main is full, of W, if it may.
func TestLoad(t *testing.T) {
	run(t,
		// Main is below what it may have.
		scripted{2, "=a", "yes", "W:;A: a;P:"},
		scripted{3, "=a =b", "yes", "W:;A: a b;P:"},
		scripted{4, "=a +a =b", "yes", "W:;A: b;P: a"},
		scripted{4, "=a =b +a =c", "yes", "W:;A: b c;P: a"},
		scripted{8, "+a =b", "yes", "W: a;A: b;P:"},
		scripted{8, "+a +b =c", "yes", "W: b;A: a c;P:"},
		scripted{24, "+a +b =c =d", "yes", "W: a b;A: c d;P:"},
		// Main is full.
		scripted{1, "=a", "yes", "W: a;A:;P:"},
		scripted{2, "=a =b", "yes", "W: b;A: a;P:"},
		scripted{3, "=a =b =c", "yes", "W: c;A: a b;P:"},
		scripted{3, "=a =b +a =c", "yes", "W: c;A: b;P: a"},
		scripted{24, numbered("=m", 21) + "+a =b =c", "yes", "W: a b c;A:" + row("m", 0, 21) + ";P:"},
		scripted{24, numbered("=m", 21) + "=a =b +a =c", "yes", "W: b a c;A:" + row("m", 0, 21) + ";P:"},
		// Resident, with room left: in W, in A, in P.
		scripted{8, "+a =a", "no", "W: a;A:;P:"},
		scripted{24, "+a +b =a", "no", "W: a b;A:;P:"},
		scripted{8, "=a =b =a", "no", "W:;A: a b;P:"},
		scripted{8, "=a =b +a +b =a", "no", "W:;A:;P: a b"},
		// c are resident: a new one, one that went, resident ones.
		scripted{1, "=a =b", "no", "W: a;A:;P:"},
		scripted{1, "=a =a", "no", "W: a;A:;P:"},
		scripted{1, "+a +b =a", "no", "W: b;A:;P:"},
		scripted{3, "=a =b =c =d", "no", "W: c;A: a b;P:"},
		scripted{3, "+a +b +c =d", "no", "W: c;A: a b;P:"},
		scripted{3, "=a =b =c +a =d", "no", "W: c;A: b;P: a"},
		scripted{3, "=a =b =c +a =a", "no", "W: c;A: b;P: a"},
		scripted{3, "=a =b =c +a =b", "no", "W: c;A: b;P: a"},
		scripted{3, "=a =b =c +a =c", "no", "W: c;A: b;P: a"},
		scripted{2, "=a +b +c =a", "no", "W: c;A: b;P:"},
		// There is room again: in main, in W.
		scripted{3, "=a =b =c -a =d", "yes", "W: c;A: b d;P:"},
		scripted{3, "=a =b =c -c =d", "yes", "W: d;A: a b;P:"},
		scripted{3, "=a =b =c ! =a", "yes", "W: c;A: b a;P:"},
		scripted{2, "=a +b +c -b =a", "yes", "W: c;A: a;P:"},
		scripted{2, "=a +b +c -c =a", "yes", "W: a;A: b;P:"},
	)
}

// P14.2: a resident key that is Removed is nowhere; nothing is changed by a Remove of another one.
func TestRemove(t *testing.T) {
	run(t,
		// From W: alone, first, between, last.
		scripted{1, "+a -a", "yes", "W:;A:;P:"},
		scripted{24, "+a +b +c -a", "yes", "W: b c;A:;P:"},
		scripted{24, "+a +b +c -b", "yes", "W: a c;A:;P:"},
		scripted{24, "+a +b +c -c", "yes", "W: a b;A:;P:"},
		scripted{3, "=a =b =c +a -c", "yes", "W:;A: b;P: a"},
		// From A.
		scripted{4, "=a -a", "yes", "W:;A:;P:"},
		scripted{4, "=a =b =c -a", "yes", "W:;A: b c;P:"},
		scripted{4, "=a =b =c -b", "yes", "W:;A: a c;P:"},
		scripted{4, "=a =b =c -c", "yes", "W:;A: a b;P:"},
		scripted{3, "=a =b =c +a -b", "yes", "W: c;A:;P: a"},
		// From P.
		scripted{4, "=a +a -a", "yes", "W:;A:;P:"},
		scripted{6, "=a =b =c +a +b +c -a", "yes", "W:;A:;P: b c"},
		scripted{6, "=a =b =c +a +b +c -b", "yes", "W:;A:;P: a c"},
		scripted{6, "=a =b =c +a +b +c -c", "yes", "W:;A:;P: a b"},
		scripted{3, "=a =b =c +a -a", "yes", "W: c;A: b;P:"},
		// Twice, of a key that was never there, of one that went.
		scripted{8, "+a +b -a -a", "no", "W: b;A:;P:"},
		scripted{8, "=a =b +a -a -a", "no", "W:;A: b;P:"},
		scripted{3, "-a", "no", "W:;A:;P:"},
		scripted{3, "=a =b =c +a -d", "no", "W: c;A: b;P: a"},
		scripted{1, "+a +b -a", "no", "W: b;A:;P:"},
		scripted{2, "=a +b +c -a", "no", "W: c;A: b;P:"},
		scripted{2, "=a =b +c -b", "no", "W: c;A: a;P:"},
		scripted{4, "=a =b ! -a", "no", "W:;A: b;P:"},
		// It is new again.
		scripted{4, "=a +a -a +a", "miss", "W: a;A:;P:"},
		scripted{4, "=a =b -a =a", "yes", "W:;A: b a;P:"},
		scripted{24, "+a +b -a +a", "miss", "W: b a;A:;P:"},
	)
}

// P14.3: who goes by an Evict: A's first, else P's, else W's.
func TestEvict(t *testing.T) {
	run(t,
		scripted{4, "!", "no", "W:;A:;P:"},
		scripted{4, "+a -a !", "no", "W:;A:;P:"},
		scripted{4, "=a ! !", "no", "W:;A:;P:"},
		// A has some: with none in the other rows, and with some there.
		scripted{4, "=a !", "yes a", "W:;A:;P:"},
		scripted{4, "=a =b =c !", "yes a", "W:;A: b c;P:"},
		scripted{4, "=a =b =c ! !", "yes b", "W:;A: c;P:"},
		scripted{4, "=a =b =c +a !", "yes b", "W:;A: c;P: a"},
		scripted{4, "=a =b =c =d +a !", "yes b", "W: d;A: c;P: a"},
		scripted{8, "+a +b !", "yes a", "W: b;A:;P:"},
		scripted{4, "=a =b =c +a +b +c !", "yes a", "W:;A:;P: b c"},
		// However often it was used.
		scripted{2, "=a +a +a +a +b !", "yes a", "W: b;A:;P:"},
		// A has none: P's first, W or not.
		scripted{4, "=a +a !", "yes a", "W:;A:;P:"},
		scripted{6, "=a =b =c +a +b +c !", "yes a", "W:;A:;P: b c"},
		scripted{6, "=a =b =c +a +b +c +a ! !", "yes c", "W:;A:;P: a"},
		scripted{8, "=a =b +b +a +c !", "yes b", "W: c;A:;P: a"},
		scripted{4, "=a =b =c =d +a ! !", "yes c", "W: d;A:;P: a"},
		scripted{4, "=a =b =c =d +a ! ! !", "yes a", "W: d;A:;P:"},
		// Both have none: W's first.
		scripted{1, "+a !", "yes a", "W:;A:;P:"},
		scripted{1, "=a !", "yes a", "W:;A:;P:"},
		scripted{24, "+a +b +c !", "yes a", "W: b c;A:;P:"},
		scripted{24, "+a +b +c +a !", "yes b", "W: c a;A:;P:"},
		scripted{4, "=a =b =c =d +a ! ! ! !", "yes d", "W:;A:;P:"},
		scripted{4, "=a =b =c =d +a ! ! ! ! !", "no", "W:;A:;P:"},
		// There is room again.
		scripted{3, "=a =b =c ! +d", "miss", "W: d;A: b c;P:"},
		scripted{3, "=a =b =c ! +a", "miss", "W: a;A: b c;P:"},
	)
}

// P14.3, P14.4: Keys, Ghosts and State in the order that is told, and Has, Len and Room beside them.
func TestTold(t *testing.T) {
	x := newPair(t, 18)
	x.does(calls("=d =j =b =i +j +d +c +a +e")...)
	e := x.e
	if got := e.State(); got != "W: a e;A: b i c;P: j d" {
		t.Fatal(got)
	}
	if got := strings.Join(e.Keys(), " "); got != "a e b i c j d" {
		t.Errorf("Keys %s", got)
	}
	if got := e.Ghosts(); len(got) != 0 {
		t.Errorf("Ghosts %q", got)
	}
	for key, want := range map[string]bool{"a": true, "b": true, "c": true, "d": true, "e": true, "i": true, "j": true, "f": false, "x": false, "": false, "ab": false, "W": false} {
		if got := e.Has(key); got != want {
			t.Errorf("Has(%s): %v", key, got)
		}
	}
	if e.Len() != 7 || e.Room() != 18 {
		t.Errorf("Len %d, Room %d", e.Len(), e.Room())
	}
	x.same()
}

// P14.3: what Evict answers, till nobody is resident, and then it answers nothing and changes nothing.
func TestEvictAll(t *testing.T) {
	for _, room := range []int{1, 2, 3, 4, 7, 8, 9, 15, 16, 17, 24} {
		for loads := 0; loads <= room; loads++ {
			for uses := 0; uses <= room+2; uses++ {
				x := newPair(t, room)
				x.does(calls(numbered("=k", loads) + numbered("+k", uses))...)
				for n := x.e.Len(); n > 0; n-- {
					x.does(call{'!', ""})
				}
				if x.e.Len() != 0 || x.e.State() != "W:;A:;P:" {
					t.Fatal(room, loads, uses, x.e.State())
				}
				for range 2 {
					if key, ok := x.e.Evict(); key != "" || ok {
						t.Fatal(room, loads, uses, key, ok)
					}
					x.same()
				}
			}
		}
	}
}

// reached is a plain engine and the calls that lead to it.
type reached struct {
	m    *plain
	path []call
}

// next is all calls that differ: on each key of the rows, and on one that is nowhere.
func (x *plain) next() []call {
	fresh := 0
	known := slices.Concat(x.w, x.a, x.p)
	for slices.Contains(known, strconv.Itoa(fresh)) {
		fresh++
	}
	all := []call{{'!', ""}}
	for _, key := range append(known, strconv.Itoa(fresh)) {
		all = append(all, call{'+', key}, call{'=', key}, call{'-', key})
	}
	return all
}

// P14.1 to P14.5: each shape that can be reached at all in small rooms, and each call there.
func TestEachShape(t *testing.T) {
	for _, room := range []int{1, 2, 3, 4, 5, 6, 7, 8, 9, 16} {
		seen := map[string]int{}
		queue := []reached{{m: newPlain(room)}}
		for len(queue) > 0 {
			at := queue[0]
			queue = queue[1:]
			for _, c := range at.m.next() {
				x := &pair{t, tinylfu.New(room), at.m.copied()}
				for _, before := range at.path {
					onEngine(x.e, before)
				}
				x.does(c)
				x.has("0", "1", "none")
				if seen[x.m.shape()]++; seen[x.m.shape()] == 1 {
					queue = append(queue, reached{x.m, append(slices.Clone(at.path), c)})
				}
			}
		}
		if want := shapes(newPlain(room)); len(seen) != want {
			t.Errorf("room %d: %d shapes, not %d", room, len(seen), want)
		}
	}
}

// shapes is how many there are: where there is a candidate and a victim, it was more often, as often, less often.
func shapes(x *plain) int {
	n := 0
	for w := range x.forW + 1 {
		for p := range x.forP + 1 {
			for a := range x.main - p + 1 {
				n++
				if w > 0 && a+p > 0 {
					n += 2
				}
			}
		}
	}
	return n
}

// P14.1 to P14.5: all short rows of calls on few keys.
func TestAllShortRows(t *testing.T) {
	var all []call
	for _, key := range []string{"a", "b", "c"} {
		all = append(all, call{'+', key}, call{'=', key}, call{'-', key})
	}
	all = append(all, call{'!', ""})
	for room := 1; room <= 3; room++ {
		rows := 1
		for length := 1; length <= 5; length++ {
			rows *= len(all)
			for n := range rows {
				shortRow(t, room, all, n, length)
			}
		}
	}
}

// shortRow makes the n-th row of so many calls, and looks at what is told behind the last one.
func shortRow(t *testing.T, room int, all []call, n, length int) {
	t.Helper()
	x := newPair(t, room)
	for k := n; length > 0; k /= len(all) {
		x.quick(all[k%len(all)])
		length--
	}
	if got, want := x.e.State(), x.m.state(); got != want {
		t.Fatalf("room %d, row %d: %s, not %s", room, n, got, want)
	}
}

// anyKeys is keys of many kinds: the empty one, alike ones, long ones, ones with any bytes.
func anyKeys() []string {
	bytes := make([]byte, 512)
	for i := range bytes {
		bytes[i] = byte(i)
	}
	long := strings.Repeat("long", 300)
	return []string{
		"", " ", "  ", ";", ":", "W:", "A", ";A:", ";P: a", "P", "/", "a ", " a", "a b c", "\x00", "\x00\x00", "\n", "a", "b", "aa", "ab", "a b", "a;b", "a:b",
		"alike0", "alike1", "alike2", "alike", long, long + "0", long + "1", long[1:], "0" + long,
		string(bytes), string(bytes[:256]), string(bytes[1:]), "\xff", "\xff\xfe", "\x80", "é", "e\u0301", "日本", "\U0010ffff",
	}
}

// P14.1 to P14.5: long rows of all calls in whatever order.
func TestLongRows(t *testing.T) {
	for room := 1; room <= 34; room++ {
		var keys []string
		for i := range 3*room + 1 {
			keys = append(keys, "k"+strconv.Itoa(i))
		}
		mixed(t, room, keys, 3000)
	}
	for _, room := range []int{1, 2, 3, 5, 8, 13, 17, 30} {
		mixed(t, room, anyKeys(), 3000)
	}
	for _, room := range []int{64, 65, api.MaxRoom - 1, math.MaxInt} {
		var keys []string
		for i := range 3 * min(room, api.MaxRoom) {
			keys = append(keys, "k"+strconv.Itoa(i))
		}
		mixed(t, room, keys, 24000)
	}
}

// mixed makes calls, mostly Accesses, of some of the keys more often than of others, with times of each other call.
func mixed(t *testing.T, room int, keys []string, n int) {
	t.Helper()
	x := newPair(t, room)
	pick := lots(uint64(room))
	last := keys[0]
	for i := range n {
		among := len(keys)
		if pick(3) == 0 {
			among = len(keys)/6 + 1
		}
		c := call{'+', keys[pick(among)]}
		switch pick(20) {
		case 0, 1:
			c.what = '='
		case 2:
			c.what = '-'
		case 3:
			c = call{'!', ""}
		case 4, 5, 6:
			c.key = last
		}
		if i/500%8 == 7 && c.what == '+' && pick(2) == 0 {
			c = call{"-=!"[pick(3)], c.key}
		}
		if c.what == '+' {
			last = c.key
		}
		x.quick(c)
		if len(keys) < 200 || i%100 == 0 {
			x.same()
			x.has(c.key)
		}
	}
	x.same()
	x.has(keys...)
	if room > 1 && (x.m.met.more == 0 || x.m.met.same == 0 || x.m.met.less == 0 || x.m.met.halved == 0) {
		t.Errorf("room %d: not all came about: %+v", room, x.m.met)
	}
}

// P14.1: a row of keys that are used once drives no one away that was used often.
func TestOnceAndOften(t *testing.T) {
	e := tinylfu.New(64)
	said(e, strings.Repeat(numbered("+hot", 32), 3))
	for i := range 100 {
		hit, gone := e.Access("scan" + strconv.Itoa(i))
		if hit || len(gone) > 1 || len(gone) == 1 && strings.HasPrefix(gone[0], "hot") {
			t.Fatalf("scan%d: %v %q", i, hit, gone)
		}
	}
	for i := range 32 {
		if !e.Has("hot" + strconv.Itoa(i)) {
			t.Errorf("hot%d went", i)
		}
	}
}

// P14.1 to P14.4: the empty text is a key as any other one.
func TestEmptyText(t *testing.T) {
	e := tinylfu.New(2)
	if hit, gone := e.Access(""); hit || len(gone) != 0 || !e.Has("") || e.Len() != 1 || e.State() != "W: ;A:;P:" {
		t.Error(hit, gone, e.State())
	}
	if hit, gone := e.Access(""); !hit || len(gone) != 0 || e.State() != "W: ;A:;P:" {
		t.Error(hit, gone, e.State())
	}
	if hit, gone := e.Access("a"); hit || len(gone) != 0 || e.State() != "W: a;A: ;P:" {
		t.Error(hit, gone, e.State())
	}
	if hit, gone := e.Access("b"); hit || !slices.Equal(gone, []string{"a"}) || e.State() != "W: b;A: ;P:" {
		t.Error(hit, gone, e.State())
	}
	if key, ok := e.Evict(); key != "" || !ok || e.Has("") || e.State() != "W: b;A:;P:" {
		t.Error(key, ok, e.State())
	}
	if key, ok := e.Evict(); key != "b" || !ok || e.Len() != 0 {
		t.Error(key, ok, e.State())
	}
	if key, ok := e.Evict(); key != "" || ok || e.Len() != 0 || len(e.Keys()) != 0 {
		t.Error(key, ok, e.State())
	}
	if e.Remove("") || !e.Load("") || e.Load("") || !e.Remove("") || e.Remove("") || e.Len() != 0 {
		t.Error(e.State())
	}
	e = tinylfu.New(3)
	e.Load("")
	e.Load("a")
	if hit, gone := e.Access(""); !hit || len(gone) != 0 || e.State() != "W:;A: a;P: " || !slices.Equal(e.Keys(), []string{"a", ""}) {
		t.Error(hit, gone, e.State())
	}
	e = tinylfu.New(1)
	e.Access("")
	if hit, gone := e.Access("a"); hit || !slices.Equal(gone, []string{""}) || e.State() != "W: a;A:;P:" {
		t.Error(hit, gone, e.State())
	}
	// Nobody is resident, and it is taken for nobody.
	e.Remove("a")
	if e.Has("") || e.Remove("") || e.Len() != 0 {
		t.Error(e.State())
	}
}

// P14.4: keys with any bytes are told as they are.
func TestAnyBytes(t *testing.T) {
	for _, key := range anyKeys() {
		e := tinylfu.New(3)
		e.Access(key)
		if got, want := e.State(), "W: "+key+";A:;P:"; got != want {
			t.Errorf("State %.80q, not %.80q", got, want)
		}
		if got := e.Keys(); len(got) != 1 || got[0] != key {
			t.Errorf("Keys %.80q, not %.80q", got, key)
		}
		for _, other := range anyKeys() {
			if got := e.Has(other); got != (other == key) {
				t.Errorf("%.80q: Has(%.80q): %v", key, other, got)
			}
		}
		e.Access(key + "1")
		if got, want := e.State(), "W: "+key+"1;A: "+key+";P:"; got != want {
			t.Errorf("State %.80q, not %.80q", got, want)
		}
		if hit, gone := e.Access(key); !hit || len(gone) != 0 || e.State() != "W: "+key+"1;A:;P: "+key {
			t.Errorf("State %.80q of %.80q", e.State(), key)
		}
		if got, ok := e.Evict(); got != key || !ok || e.Len() != 1 {
			t.Errorf("Evict %.80q, not %.80q", got, key)
		}
	}
}

// fresh is a text of the test's own, which may be written over.
func fresh(text string) string { return strings.Clone(text) }

// blot writes over a text's bytes.
func blot(text string) {
	for i := range len(text) {
		unsafe.Slice(unsafe.StringData(text), len(text))[i] = '#'
	}
}

// P14.5, W6: what is answered is new memory: written over, lists, their spare room and texts, it changes nothing.
func TestAnswersWrittenOver(t *testing.T) {
	x := newPair(t, 17)
	pick := lots(7)
	for range 4000 {
		key := fresh("key" + strconv.Itoa(pick(40)))
		switch pick(8) {
		case 0:
			got, _ := x.e.Evict()
			want, _ := x.m.evict()
			if got != want {
				t.Fatalf("Evict %q, not %q", got, want)
			}
			blot(got)
		case 1:
			x.e.Load(key)
			x.m.load(fresh(key))
		default:
			_, got := x.e.Access(key)
			_, want := x.m.access(fresh(key))
			if !slices.Equal(got, want) {
				t.Fatalf("Access %q, not %q", got, want)
			}
			blotAll(got)
		}
		// What was handed in is the test's again, too.
		blot(key)
		x.same()
		blotAll(x.e.Keys())
		blotAll(x.e.Ghosts())
		blot(x.e.State())
		x.same()
	}
}

// blotAll writes over the texts, then over the list with all of its spare room.
func blotAll(list []string) {
	for _, text := range list {
		blot(text)
	}
	list = list[:cap(list)]
	for i := range list {
		list[i] = "###"
	}
}

// P14.5, W7: what was answered stays what it is.
func TestAnswersStay(t *testing.T) {
	e := tinylfu.New(9)
	pick := lots(11)
	var held [][]string
	var copies []string
	keep := func(list ...string) {
		held = append(held, list)
		copies = append(copies, fmt.Sprintf("%q", list))
	}
	for range 2000 {
		_, gone := e.Access("k" + strconv.Itoa(pick(20)))
		keep(gone...)
		keep(e.Keys()...)
		keep(e.Ghosts()...)
		keep(e.State())
		if pick(4) == 0 {
			key, _ := e.Evict()
			keep(key)
		}
	}
	for i, list := range held {
		if got := fmt.Sprintf("%q", list); got != copies[i] {
			t.Fatalf("answer %d: %s, not %s", i, got, copies[i])
		}
	}
}

// W6: no two answers share a text, nor does one share it with what was handed in.
func TestTextsAreNew(t *testing.T) {
	e := tinylfu.New(4)
	seen := map[*byte]int{}
	var all []string
	note := func(texts ...string) {
		for _, text := range texts {
			all = append(all, text)
			if seen[unsafe.StringData(text)]++; seen[unsafe.StringData(text)] > 1 {
				t.Fatalf("%q was answered before", text)
			}
		}
	}
	pick := lots(3)
	for range 500 {
		key := fresh("key" + strconv.Itoa(pick(12)))
		_, gone := e.Access(key)
		note(key)
		note(gone...)
		note(e.Keys()...)
		note(e.Keys()...)
		note(e.State(), e.State())
		if pick(5) == 0 {
			went, _ := e.Evict()
			note(went)
		}
	}
	runtime.KeepAlive(all)
}

// W6: the long text of which keys are pieces is free while the engine lives on.
func TestHandedInIsNotKept(t *testing.T) {
	e := tinylfu.New(8)
	long := strings.Repeat("key", 1<<16)
	weakly := weak.Make(unsafe.StringData(long))
	for i := range 9 {
		e.Access(long[i : 2*i])
		e.Access(long[i : 2*i])
		e.Access(long[i : 3*i])
		e.Access(long[i : 3*i])
		e.Load(long[i : i+5])
		e.Has(long[i:])
		e.Remove(long[i : i+2])
		e.Evict()
	}
	e.Load(long[1:50])
	e.Access(long[1:51])
	long = ""
	runtime.GC()
	if weakly.Value() != nil {
		t.Error("the long text is still held")
	}
	if e.Len() == 0 {
		t.Error("nothing is there")
	}
}

// W6, P14.1 to P14.3: keys that are in no row any more are held no more.
func TestGoneIsNotHeld(t *testing.T) {
	const size = 1 << 20
	e := tinylfu.New(2)
	long := func(i int) string { return strings.Repeat(strconv.Itoa(i), size) }
	before := heap()
	// They go as candidates, as victims, by an Evict, by a Remove.
	for i := range 8 {
		e.Access(long(i))
		e.Access(long(i))
		if i > 4 {
			e.Access(long(i))
		}
	}
	e.Evict()
	e.Load(long(8))
	e.Remove(long(8))
	e.Remove(long(7))
	if after := heap(); after > before+size/2 {
		t.Errorf("%d bytes are held, %d before", after, before)
	}
	if got := e.State(); got != "W:;A:;P:" {
		t.Errorf("%.100s", got)
	}
	runtime.KeepAlive(e)
}

func heap() uint64 {
	runtime.GC()
	var m runtime.MemStats
	runtime.ReadMemStats(&m)
	return m.HeapAlloc
}

// W2: two engines do not meet, and what is told hangs on the calls alone.
func TestTwoEngines(t *testing.T) {
	x, y, z := newPair(t, 3), newPair(t, 3), newPair(t, 17)
	pick := lots(5)
	for range 3000 {
		c := call{"++++++=-!"[pick(9)], "k" + strconv.Itoa(pick(24))}
		switch pick(3) {
		case 0:
			x.does(c)
		case 1:
			y.does(c)
		default:
			z.does(c)
		}
		x.same()
		y.same()
		z.same()
	}
}

// P14.5, W8: a nil Engine has nothing, and takes nothing.
func TestNilEngine(t *testing.T) {
	var e *tinylfu.Engine
	hasNothing(t, e)
	if e != nil {
		t.Error("nil no more")
	}
}

// W1: so does one that New did not make.
func TestZeroEngine(t *testing.T) { hasNothing(t, new(tinylfu.Engine)) }

func hasNothing(t *testing.T, e *tinylfu.Engine) {
	t.Helper()
	for range 2 {
		for _, key := range anyKeys() {
			hit, gone := e.Access(key)
			if hit || len(gone) != 0 || e.Load(key) || e.Has(key) || e.Remove(key) {
				t.Errorf("%.40q: %v %q", key, hit, gone)
			}
			if went, ok := e.Evict(); went != "" || ok {
				t.Errorf("Evict %q %v", went, ok)
			}
			if len(e.Keys()) != 0 || len(e.Ghosts()) != 0 || e.State() != "" || e.Len() != 0 || e.Room() != 0 {
				t.Errorf("%q %q %q %d %d", e.Keys(), e.Ghosts(), e.State(), e.Len(), e.Room())
			}
		}
	}
}

// W8: of an engine and its copy one may be used.
func TestCopied(t *testing.T) {
	x := newPair(t, 3)
	x.does(calls("=a =b +c +a +a")...)
	engine := *x.e
	x.e = &engine
	x.same()
	x.does(calls("+d +d +e +b =f ! -a +a +d =f ! ! !")...)
}
