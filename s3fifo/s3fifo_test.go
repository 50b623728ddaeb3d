package s3fifo_test

import (
	"fmt"
	"math"
	"runtime"
	"slices"
	"strconv"
	"strings"
	"testing"
	"unsafe"
	"weak"

	"hoard/api"
	"hoard/s3fifo"
)

// said is what the last call of a script answered: hit or miss and what went, yes or no, or the key that an Evict answered.
func said(e *s3fifo.Engine, script string) string {
	answer := ""
	for _, c := range calls(script) {
		switch c.what {
		case '+':
			hit, gone := e.Access(c.key)
			answer = map[bool]string{true: "hit", false: "miss"}[hit] + strings.Join(append([]string{""}, gone...), " ")
		case '=':
			answer = map[bool]string{true: "yes", false: "no"}[e.Load(c.key)]
		case '-':
			answer = map[bool]string{true: "yes", false: "no"}[e.Remove(c.key)]
		default:
			key, ok := e.Evict()
			answer = map[bool]string{true: "yes " + key, false: "no" + key}[ok]
		}
	}
	return answer
}

// scripted is a script, what its last call answers, and all of State behind it.
type scripted struct {
	room                  int
	script, answer, state string
}

func run(t *testing.T, all ...scripted) {
	t.Helper()
	for _, s := range all {
		e := s3fifo.New(s.room)
		if got := said(e, s.script); got != s.answer {
			t.Errorf("room %d, %s: %q, not %q", s.room, s.script, got, s.answer)
		}
		if got := e.State(); got != s.state {
			t.Errorf("room %d, %s:\n%s, not\n%s", s.room, s.script, got, s.state)
		}
		newPair(t, s.room).does(calls(s.script)...)
	}
}

// once is a script by which each letter becomes the newest of G, where nobody is resident.
func once(keys string) string {
	s := ""
	for _, k := range keys {
		s += fmt.Sprintf("+%c ! ", k)
	}
	return s
}

// often is a script by which each letter is used three times: if it is new, its count is 2 then.
func often(keys string) string {
	s := ""
	for _, k := range keys {
		s += fmt.Sprintf("+%c +%c +%c ", k, k, k)
	}
	return s
}

// numbered is so many words of a script: a call on a letter and 0, 1, 2 and so on.
func numbered(what string, n int) string {
	s := ""
	for i := range n {
		s += what + strconv.Itoa(i) + " "
	}
	return s
}

func TestExample(t *testing.T) {
	e := s3fifo.New(2)
	for _, key := range []string{"a", "a", "a", "b", "c"} {
		e.Access(key)
	}
	if got := e.State(); got != "S: c/0;M: a/0;G: b" {
		t.Error(got)
	}
}

// Words, P12.4: the room is held within 1 and MaxRoom.
func TestRooms(t *testing.T) {
	for _, x := range []struct{ room, want int }{
		{math.MinInt, 1}, {math.MinInt + 1, 1}, {-(1 << 32) + 5, 1}, {-(1 << 32), 1}, {-1025, 1}, {-1024, 1}, {-20, 1}, {-2, 1}, {-1, 1}, {0, 1},
		{1, 1}, {2, 2}, {3, 3}, {9, 9}, {10, 10}, {11, 11}, {19, 19}, {20, 20}, {21, 21}, {255, 255}, {256, 256},
		{1022, 1022}, {1023, 1023}, {1024, 1024}, {1025, 1024}, {2048, 1024},
		{1 << 16, 1024}, {1<<31 - 1, 1024}, {1 << 31, 1024}, {1 << 32, 1024}, {1<<32 + 5, 1024}, {1 << 62, 1024}, {math.MaxInt - 1, 1024}, {math.MaxInt, 1024},
	} {
		e := s3fifo.New(x.room)
		if got := e.Room(); got != x.want {
			t.Errorf("New(%d): Room %d, not %d", x.room, got, x.want)
		}
		if got := e.State(); got != "S:;M:;G:" || e.Len() != 0 || len(e.Keys()) != 0 || len(e.Ghosts()) != 0 {
			t.Errorf("New(%d): %s", x.room, got)
		}
		for i := range x.want + 2 {
			e.Access(strconv.Itoa(i))
		}
		if got := e.Len(); got != x.want {
			t.Errorf("New(%d): %d are resident, not %d", x.room, got, x.want)
		}
	}
	if api.MaxRoom != 1024 {
		t.Error("the test's own words")
	}
}

// Words: small is a tenth of the room, rounded down, G has room for the rest, each at least 1.
func TestParts(t *testing.T) {
	for _, x := range []struct{ room, c, small, forG int }{
		{math.MinInt, 1, 1, 1}, {-1024, 1, 1, 1}, {-20, 1, 1, 1}, {-1, 1, 1, 1}, {0, 1, 1, 1},
		{1, 1, 1, 1}, {2, 2, 1, 1}, {3, 3, 1, 2}, {4, 4, 1, 3}, {9, 9, 1, 8}, {10, 10, 1, 9}, {11, 11, 1, 10}, {15, 15, 1, 14},
		{19, 19, 1, 18}, {20, 20, 2, 18}, {21, 21, 2, 19}, {29, 29, 2, 27}, {30, 30, 3, 27}, {31, 31, 3, 28},
		{99, 99, 9, 90}, {100, 100, 10, 90}, {1019, 1019, 101, 918}, {1020, 1020, 102, 918}, {1023, 1023, 102, 921},
		{1024, 1024, 102, 922}, {1025, 1024, 102, 922}, {2048, 1024, 102, 922}, {math.MaxInt, 1024, 102, 922},
	} {
		ghosts := s3fifo.New(x.room)
		said(ghosts, numbered("+k", 2*x.c+2))
		if got := len(ghosts.Ghosts()); got != x.forG {
			t.Errorf("New(%d): %d ghosts, not %d", x.room, got, x.forG)
		}
		// With just small in S, and with one more, where there is room for that beside one of M.
		if x.small >= x.c {
			continue
		}
		just := s3fifo.New(x.room)
		said(just, numbered("=m", x.c-x.small)+numbered("+k", x.small))
		if hit, gone := just.Access("new"); hit || !slices.Equal(gone, []string{"m0"}) || len(just.Ghosts()) != 0 {
			t.Errorf("New(%d): %d in S: %q went", x.room, x.small, gone)
		}
		if x.small+1 >= x.c {
			continue
		}
		more := s3fifo.New(x.room)
		said(more, numbered("=m", x.c-x.small-1)+numbered("+k", x.small+1))
		if hit, gone := more.Access("new"); hit || !slices.Equal(gone, []string{"k0"}) || !slices.Equal(more.Ghosts(), gone) {
			t.Errorf("New(%d): %d in S: %q went", x.room, x.small+1, gone)
		}
	}
}

// P12.1: the count of a key of S is one more, at most 3, and it stays where it is.
func TestAccessOfS(t *testing.T) {
	run(t,
		scripted{1, "+a +a", "hit", "S: a/1;M:;G:"},
		scripted{1, "+a +a +a", "hit", "S: a/2;M:;G:"},
		scripted{1, "+a +a +a +a", "hit", "S: a/3;M:;G:"},
		scripted{1, "+a +a +a +a +a", "hit", "S: a/3;M:;G:"},
		scripted{1, "+a +a +a +a +a +a", "hit", "S: a/3;M:;G:"},
		scripted{3, "+a +b +c +a", "hit", "S: a/1 b/0 c/0;M:;G:"},
		scripted{3, "+a +b +c +b", "hit", "S: a/0 b/1 c/0;M:;G:"},
		scripted{3, "+a +b +c +c", "hit", "S: a/0 b/0 c/1;M:;G:"},
		scripted{3, "+a +b +c +b +a +b", "hit", "S: a/1 b/2 c/0;M:;G:"},
		scripted{3, often("abc") + "+a +b +c +a +b +c", "hit", "S: a/3 b/3 c/3;M:;G:"},
		// c are resident, and G is full: nobody goes.
		scripted{4, once("fgh") + "=p +p +x +y +z +y", "hit", "S: x/0 y/1 z/0;M: p/1;G: f g h"},
		// Once more is not often: it goes as the others.
		scripted{3, "+a +b +c +a +d", "miss a", "S: b/0 c/0 d/0;M:;G: a"},
		scripted{3, "+a +b +c +a +a +d", "miss b", "S: c/0 d/0;M: a/0;G: b"},
	)
}

// P12.1: so is that of a key of M.
func TestAccessOfM(t *testing.T) {
	run(t,
		scripted{1, "=a +a", "hit", "S:;M: a/1;G:"},
		scripted{1, "=a +a +a", "hit", "S:;M: a/2;G:"},
		scripted{1, "=a +a +a +a", "hit", "S:;M: a/3;G:"},
		scripted{1, "=a +a +a +a +a", "hit", "S:;M: a/3;G:"},
		scripted{1, "=a +a +a +a +a +a", "hit", "S:;M: a/3;G:"},
		scripted{3, "=a =b =c +a", "hit", "S:;M: a/1 b/0 c/0;G:"},
		scripted{3, "=a =b =c +b", "hit", "S:;M: a/0 b/1 c/0;G:"},
		scripted{3, "=a =b =c +c", "hit", "S:;M: a/0 b/0 c/1;G:"},
		scripted{3, "=a =b =c +b +a +b", "hit", "S:;M: a/1 b/2 c/0;G:"},
		// c are resident, and G is full: nobody goes.
		scripted{4, once("fgh") + "=p =q =r +x +x +q", "hit", "S: x/1;M: p/0 q/1 r/0;G: f g h"},
		// It came from S, from G.
		scripted{2, often("a") + "+b +c +a", "hit", "S: c/0;M: a/1;G: b"},
		scripted{4, once("ab") + "+a +b +a", "hit", "S:;M: a/1 b/0;G:"},
		// By one use it stays for one turn.
		scripted{4, "=a =b =c =d +a +x", "miss b", "S: x/0;M: c/0 d/0 a/0;G:"},
	)
}

// P12.1: a key in G, if it still is behind those that went, leaves it, and is the newest of M.
func TestAccessOfG(t *testing.T) {
	run(t,
		// Fewer than c are resident: nobody goes.
		scripted{4, once("abc") + "+a", "miss", "S:;M: a/0;G: b c"},
		scripted{4, once("abc") + "+b", "miss", "S:;M: b/0;G: a c"},
		scripted{4, once("abc") + "+c", "miss", "S:;M: c/0;G: a b"},
		scripted{4, once("abc") + "+b +a +c", "miss", "S:;M: b/0 a/0 c/0;G:"},
		scripted{4, once("abc") + "+x =p +a", "miss", "S: x/0;M: p/0 a/0;G: b c"},
		scripted{4, once("abc") + "+x +y +z +a", "miss", "S: x/0 y/0 z/0;M: a/0;G: b c"},
		scripted{1, once("a") + "+a", "miss", "S:;M: a/0;G:"},
		// It went with a count of 1: it has none any more.
		scripted{4, "+a +a ! +a", "miss", "S:;M: a/0;G:"},
		// c are, one goes from S, and G has room for it beside all.
		scripted{4, once("ab") + "+w +x +y +z +a", "miss w", "S: x/0 y/0 z/0;M: a/0;G: b w"},
		scripted{4, once("ab") + "+w +x +y +z +b", "miss w", "S: x/0 y/0 z/0;M: b/0;G: a w"},
		scripted{4, once("ab") + "=p =q +x +y +b", "miss x", "S: y/0;M: p/0 q/0 b/0;G: a x"},
		// G is full: its oldest goes ahead of that, and is as one that is nowhere.
		scripted{4, once("abc") + "+w +x +y +z +a", "miss w", "S: x/0 y/0 z/0 a/0;M:;G: b c w"},
		scripted{4, once("abc") + "+w +x +y +z +b", "miss w", "S: x/0 y/0 z/0;M: b/0;G: c w"},
		scripted{4, once("abc") + "+w +x +y +z +c", "miss w", "S: x/0 y/0 z/0;M: c/0;G: b w"},
		scripted{4, once("abc") + "=p =q +x +y +a", "miss x", "S: y/0 a/0;M: p/0 q/0;G: b c x"},
		scripted{4, once("abc") + "=p +x +x +x +y +y +z +a", "miss y", "S: z/0 a/0;M: p/0 x/0;G: b c y"},
		scripted{2, "+a +b +c +a", "miss b", "S: c/0 a/0;M:;G: b"},
		scripted{1, "+a +b +a", "miss b", "S: a/0;M:;G: b"},
		// One goes from M: G is as it was, and its oldest comes out of it.
		scripted{4, once("abc") + "=p =q =r +x +a", "miss p", "S: x/0;M: q/0 r/0 a/0;G: b c"},
		scripted{4, once("abc") + "=p =q =r =s +a", "miss p", "S:;M: q/0 r/0 s/0 a/0;G: b c"},
		scripted{4, once("abc") + "=p =q =r +x +p +a", "miss q", "S: x/0;M: r/0 p/0 a/0;G: b c"},
		scripted{4, once("abc") + often("wxyz") + "+a", "miss w", "S:;M: x/0 y/0 z/0 a/0;G: b c"},
		scripted{1, once("a") + "=p +a", "miss p", "S:;M: a/0;G:"},
		scripted{2, once("a") + "=p +x +a", "miss p", "S: x/0;M: a/0;G:"},
	)
}

// P12.1: a key that is nowhere: room for it, then it is the newest of S.
func TestAccessOfUnknown(t *testing.T) {
	run(t,
		// Fewer than c are resident: nobody goes.
		scripted{1, "+a", "miss", "S: a/0;M:;G:"},
		scripted{3, "+a +b +c", "miss", "S: a/0 b/0 c/0;M:;G:"},
		scripted{3, "=p =q +a", "miss", "S: a/0;M: p/0 q/0;G:"},
		scripted{4, once("ghi") + "=p +a +b +c", "miss", "S: a/0 b/0 c/0;M: p/0;G: g h i"},
		scripted{4, "+a +b +c +d -b +e", "miss", "S: a/0 c/0 d/0 e/0;M:;G:"},
		scripted{4, "+a +b +c +d ! +e", "miss", "S: b/0 c/0 d/0 e/0;M:;G: a"},
		// c are, S has more than small: its oldest becomes the newest of G.
		scripted{3, "+a +b +c +d", "miss a", "S: b/0 c/0 d/0;M:;G: a"},
		scripted{4, "=p =q +x +y +z", "miss x", "S: y/0 z/0;M: p/0 q/0;G: x"},
		scripted{4, once("g") + "=p =q +x +y +z", "miss x", "S: y/0 z/0;M: p/0 q/0;G: g x"},
		scripted{4, once("ghi") + "=p =q +x +y +z", "miss x", "S: y/0 z/0;M: p/0 q/0;G: h i x"},
		// Those that were used often come to M, till one goes.
		scripted{4, "+w +w +w +x +y +z +a", "miss x", "S: y/0 z/0 a/0;M: w/0;G: x"},
		scripted{4, often("wxy") + "+z +a", "miss z", "S: a/0;M: w/0 x/0 y/0;G: z"},
		scripted{4, often("wxyz") + "+a", "miss w", "S: a/0;M: x/0 y/0 z/0;G:"},
		// Just small, fewer, none: the first of M goes, and becomes no ghost.
		scripted{4, "=p =q =r +x +y", "miss p", "S: x/0 y/0;M: q/0 r/0;G:"},
		scripted{4, "=p =q =r =s +x", "miss p", "S: x/0;M: q/0 r/0 s/0;G:"},
		scripted{2, "=p +x +y", "miss p", "S: x/0 y/0;M:;G:"},
		scripted{1, "=p +x", "miss p", "S: x/0;M:;G:"},
		scripted{1, "=p +p +p +p +x", "miss p", "S: x/0;M:;G:"},
		scripted{4, "=p =q =r +p +q +x +y", "miss r", "S: x/0 y/0;M: p/0 q/0;G:"},
		// M has none: one goes from S, though it has just small.
		scripted{1, "+a +b", "miss a", "S: b/0;M:;G: a"},
		scripted{1, "+a +b +c", "miss b", "S: c/0;M:;G: b"},
		scripted{1, "+a +a +a +b", "miss a", "S: b/0;M:;G:"},
		// Who went from M, or left G, or was Removed, is nowhere: its count is 0 again.
		scripted{1, "=a +a ! +a", "miss", "S: a/0;M:;G:"},
		scripted{3, "+a +a +b -a +a", "miss", "S: b/0 a/0;M:;G:"},
		scripted{3, "=a +a =b -a +a", "miss", "S: a/0;M: b/0;G:"},
		scripted{4, once("abcd") + "+a", "miss", "S: a/0;M:;G: b c d"},
	)
}

// P12.2: Load makes a key the newest of M, if it may, its count 0.
func TestLoad(t *testing.T) {
	run(t,
		scripted{1, "=a", "yes", "S:;M: a/0;G:"},
		scripted{3, "=a =b =c", "yes", "S:;M: a/0 b/0 c/0;G:"},
		scripted{3, "+x =a =b", "yes", "S: x/0;M: a/0 b/0;G:"},
		scripted{3, "+x +y =a", "yes", "S: x/0 y/0;M: a/0;G:"},
		// Resident, in M and in S: no use is counted.
		scripted{3, "=a =b =a", "no", "S:;M: a/0 b/0;G:"},
		scripted{3, "=a =b +a =a", "no", "S:;M: a/1 b/0;G:"},
		scripted{3, "+a +b =a", "no", "S: a/0 b/0;M:;G:"},
		scripted{3, "+a +b +a =a", "no", "S: a/1 b/0;M:;G:"},
		// c are resident: a new key, a resident one of either row, a ghost.
		scripted{3, "=a =b =c =d", "no", "S:;M: a/0 b/0 c/0;G:"},
		scripted{3, "=a =b =c =a", "no", "S:;M: a/0 b/0 c/0;G:"},
		scripted{3, "+a +b +c =d", "no", "S: a/0 b/0 c/0;M:;G:"},
		scripted{3, "+a +b =c =a", "no", "S: a/0 b/0;M: c/0;G:"},
		scripted{3, "+a +b +c +d =e", "no", "S: b/0 c/0 d/0;M:;G: a"},
		scripted{3, "+a +b +c +d =a", "no", "S: b/0 c/0 d/0;M:;G: a"},
		scripted{1, "+a =b", "no", "S: a/0;M:;G:"},
		scripted{1, "=a =b", "no", "S:;M: a/0;G:"},
		scripted{1, "+a +b =a", "no", "S: b/0;M:;G: a"},
		// A ghost leaves G; the others stay.
		scripted{1, once("a") + "=a", "yes", "S:;M: a/0;G:"},
		scripted{1, "+a +a ! =a", "yes", "S:;M: a/0;G:"},
		scripted{4, once("abc") + "=a", "yes", "S:;M: a/0;G: b c"},
		scripted{4, once("abc") + "=b =a", "yes", "S:;M: b/0 a/0;G: c"},
		scripted{4, once("abc") + "+x =p =c", "yes", "S: x/0;M: p/0 c/0;G: a b"},
		scripted{4, once("abc") + "=d", "yes", "S:;M: d/0;G: a b c"},
		// There is room again.
		scripted{3, "=a =b =c -b =d", "yes", "S:;M: a/0 c/0 d/0;G:"},
		scripted{3, "=a =b =c ! =d", "yes", "S:;M: b/0 c/0 d/0;G:"},
		scripted{3, "+a +b +c ! =a", "yes", "S: b/0 c/0;M: a/0;G:"},
	)
}

// P12.2: a resident key that is Removed is nowhere; nothing is changed by a Remove of another one.
func TestRemove(t *testing.T) {
	run(t,
		scripted{3, "+a -a", "yes", "S:;M:;G:"},
		scripted{3, "=a -a", "yes", "S:;M:;G:"},
		scripted{3, often("a") + "-a", "yes", "S:;M:;G:"},
		scripted{3, "+a +b +c -a", "yes", "S: b/0 c/0;M:;G:"},
		scripted{3, "+a +b +c -b", "yes", "S: a/0 c/0;M:;G:"},
		scripted{3, "+a +b +c -c", "yes", "S: a/0 b/0;M:;G:"},
		scripted{3, "=a =b =c -a", "yes", "S:;M: b/0 c/0;G:"},
		scripted{3, "=a =b =c -b", "yes", "S:;M: a/0 c/0;G:"},
		scripted{3, "=a =b =c -c", "yes", "S:;M: a/0 b/0;G:"},
		scripted{4, once("gh") + "+a +b =c =d +a +c +d -b", "yes", "S: a/1;M: c/1 d/1;G: g h"},
		scripted{4, once("gh") + "+a +b =c =d +a +c +d -c", "yes", "S: a/1 b/0;M: d/1;G: g h"},
		// Twice, of a key that was never there, of ghosts.
		scripted{3, "+a +b -a -a", "no", "S: b/0;M:;G:"},
		scripted{3, "=a =b -a -a", "no", "S:;M: b/0;G:"},
		scripted{3, "-a", "no", "S:;M:;G:"},
		scripted{3, "+a =b -c", "no", "S: a/0;M: b/0;G:"},
		scripted{4, once("gh") + "-g", "no", "S:;M:;G: g h"},
		scripted{4, once("gh") + "+a =b -h", "no", "S: a/0;M: b/0;G: g h"},
		scripted{1, "+a +b -a", "no", "S: b/0;M:;G: a"},
		// Its use is forgotten, too.
		scripted{2, often("a") + "+b -a +a ! !", "yes a", "S:;M:;G: a"},
	)
}

// P12.3: from which row one goes.
func TestEvictWhence(t *testing.T) {
	run(t,
		// Nobody is resident: with ghosts, and without.
		scripted{4, "!", "no", "S:;M:;G:"},
		scripted{4, once("gh") + "!", "no", "S:;M:;G: g h"},
		scripted{4, "=a -a !", "no", "S:;M:;G:"},
		// S has more than small, just small, fewer, none.
		scripted{20, "=p =q +w +x +y +z !", "yes w", "S: x/0 y/0 z/0;M: p/0 q/0;G: w"},
		scripted{20, "=p =q +x +y +z !", "yes x", "S: y/0 z/0;M: p/0 q/0;G: x"},
		scripted{20, "=p =q +x +y !", "yes p", "S: x/0 y/0;M: q/0;G:"},
		scripted{20, "=p =q +x !", "yes p", "S: x/0;M: q/0;G:"},
		scripted{20, "=p =q !", "yes p", "S:;M: q/0;G:"},
		scripted{21, "=p +x +y +z !", "yes x", "S: y/0 z/0;M: p/0;G: x"},
		scripted{21, "=p +x +y !", "yes p", "S: x/0 y/0;M:;G:"},
		scripted{19, "=p +x +y !", "yes x", "S: y/0;M: p/0;G: x"},
		scripted{19, "=p +x !", "yes p", "S: x/0;M:;G:"},
		scripted{9, "=p +x +y !", "yes x", "S: y/0;M: p/0;G: x"},
		scripted{9, "=p +x !", "yes p", "S: x/0;M:;G:"},
		scripted{2, "+x =p !", "yes p", "S: x/0;M:;G:"},
		// M has none: from S, however many it has.
		scripted{20, "+x +y +z !", "yes x", "S: y/0 z/0;M:;G: x"},
		scripted{20, "+x +y !", "yes x", "S: y/0;M:;G: x"},
		scripted{20, "+x !", "yes x", "S:;M:;G: x"},
		scripted{1, "+x !", "yes x", "S:;M:;G: x"},
		scripted{1, "=p !", "yes p", "S:;M:;G:"},
		// All of them, one by one.
		scripted{8, "=p =q +x +y +z !", "yes x", "S: y/0 z/0;M: p/0 q/0;G: x"},
		scripted{8, "=p =q +x +y +z ! !", "yes y", "S: z/0;M: p/0 q/0;G: x y"},
		scripted{8, "=p =q +x +y +z ! ! !", "yes p", "S: z/0;M: q/0;G: x y"},
		scripted{8, "=p =q +x +y +z ! ! ! !", "yes q", "S: z/0;M:;G: x y"},
		scripted{8, "=p =q +x +y +z ! ! ! ! !", "yes z", "S:;M:;G: x y z"},
		scripted{8, "=p =q +x +y +z ! ! ! ! ! !", "no", "S:;M:;G: x y z"},
	)
}

// P12.3: from S: the oldest with a count above 1 come to M, the first other one becomes a ghost.
func TestEvictFromS(t *testing.T) {
	run(t,
		// Its oldest has each count.
		scripted{4, "+a +b !", "yes a", "S: b/0;M:;G: a"},
		scripted{4, "+a +a +b !", "yes a", "S: b/0;M:;G: a"},
		scripted{4, "+a +a +a +b !", "yes b", "S:;M: a/0;G: b"},
		scripted{4, "+a +a +a +a +b !", "yes b", "S:;M: a/0;G: b"},
		scripted{4, often("a") + "+b +b !", "yes b", "S:;M: a/0;G: b"},
		// Who comes to M is the newest there, and the others of S stay.
		scripted{4, "=p +p " + often("a") + "+b +c !", "yes b", "S: c/0;M: p/1 a/0;G: b"},
		scripted{5, "=p " + often("ab") + "+c +d +d !", "yes c", "S: d/1;M: p/0 a/0 b/0;G: c"},
		scripted{5, "=p +a +a " + often("b") + "+c !", "yes a", "S: b/2 c/0;M: p/0;G: a"},
		// S falls to small, and below, on the way: one of S goes all the same.
		scripted{4, "=p " + often("a") + "+b !", "yes b", "S:;M: p/0 a/0;G: b"},
		scripted{20, "=p " + often("ab") + "+c !", "yes c", "S:;M: p/0 a/0 b/0;G: c"},
		// All of S come to M: one goes from there, and becomes no ghost.
		scripted{4, "=p " + often("ab") + "!", "yes p", "S:;M: a/0 b/0;G:"},
		scripted{4, "=p +p " + often("ab") + "!", "yes a", "S:;M: b/0 p/0;G:"},
		scripted{4, "=p +p +p " + often("ab") + "!", "yes a", "S:;M: b/0 p/1;G:"},
		scripted{4, once("g") + often("ab") + "!", "yes a", "S:;M: b/0;G: g"},
		scripted{4, often("a") + "!", "yes a", "S:;M:;G:"},
		scripted{4, often("aa") + "!", "yes a", "S:;M:;G:"},
		scripted{1, often("a") + "!", "yes a", "S:;M:;G:"},
		// S is at small, M has one: who was used often stays in S.
		scripted{4, "=p " + often("a") + "!", "yes p", "S: a/2;M:;G:"},
		// G has room for two more, for one more, for none.
		scripted{4, once("g") + "+a !", "yes a", "S:;M:;G: g a"},
		scripted{4, once("gh") + "+a !", "yes a", "S:;M:;G: g h a"},
		scripted{4, once("ghi") + "+a !", "yes a", "S:;M:;G: h i a"},
		scripted{4, once("ghi") + "+a +b +c ! ! !", "yes c", "S:;M:;G: a b c"},
		scripted{2, once("g") + "+a !", "yes a", "S:;M:;G: a"},
		scripted{1, once("g") + "+a !", "yes a", "S:;M:;G: a"},
		scripted{10, once("abcdefghij"), "yes j", "S:;M:;G: b c d e f g h i j"},
	)
}

// P12.3: from M: turn by turn counts fall by one, till one has none.
func TestEvictFromM(t *testing.T) {
	run(t,
		scripted{4, "=p =q !", "yes p", "S:;M: q/0;G:"},
		scripted{4, "=p =q +q !", "yes p", "S:;M: q/1;G:"},
		scripted{4, "=p =q +p !", "yes q", "S:;M: p/0;G:"},
		scripted{4, "=p =q +p +p !", "yes q", "S:;M: p/1;G:"},
		scripted{4, "=p =q +p +p +p !", "yes q", "S:;M: p/2;G:"},
		scripted{4, "=p =q +p +p +p +p !", "yes q", "S:;M: p/2;G:"},
		scripted{4, "=p =q +p +q !", "yes p", "S:;M: q/0;G:"},
		scripted{4, "=p =q +p +p +q !", "yes q", "S:;M: p/0;G:"},
		scripted{4, "=p =q +p +q +q !", "yes p", "S:;M: q/1;G:"},
		scripted{4, "=p =q =r +p +p +p +q +r !", "yes q", "S:;M: r/0 p/1;G:"},
		scripted{4, "=p =q =r " + often("pqr") + "!", "yes p", "S:;M: q/0 r/0;G:"},
		scripted{4, "=p =q =r " + often("pqr") + "! +q !", "yes r", "S:;M: q/0;G:"},
		scripted{1, "=p !", "yes p", "S:;M:;G:"},
		scripted{1, "=p +p !", "yes p", "S:;M:;G:"},
		scripted{1, "=p +p +p +p !", "yes p", "S:;M:;G:"},
		// S and G are as they were.
		scripted{4, once("ghi") + "=p =q =r +p +x +x !", "yes q", "S: x/1;M: r/0 p/0;G: g h i"},
		scripted{4, once("ghi") + "=p =q =r +p +r +x !", "yes q", "S: x/0;M: r/1 p/0;G: g h i"},
	)
}

// P12.3, W1: all counts at their greatest in the greatest room: three turns, and then the oldest goes.
func TestManyTurns(t *testing.T) {
	e := s3fifo.New(math.MaxInt)
	said(e, numbered("=m", api.MaxRoom)+strings.Repeat(numbered("+m", api.MaxRoom), 4))
	if key, ok := e.Evict(); key != "m0" || !ok {
		t.Error(key, ok)
	}
	want := "S:;M:"
	for i := 1; i < api.MaxRoom; i++ {
		want += fmt.Sprintf(" m%d/0", i)
	}
	if got := e.State(); got != want+";G:" {
		t.Errorf("%.400s", got)
	}
}

// P12.3, P12.4: Keys, Ghosts and State in the order that is told, and Has, Len and Room beside them.
func TestTold(t *testing.T) {
	x := newPair(t, 6)
	x.does(calls(once("jhi") + "=d =b +c +a +d +d +c +c +c")...)
	e := x.e
	if got := e.State(); got != "S: c/3 a/0;M: d/2 b/0;G: j h i" {
		t.Fatal(got)
	}
	if got := strings.Join(e.Keys(), " "); got != "c a d b" {
		t.Errorf("Keys %s", got)
	}
	if got := strings.Join(e.Ghosts(), " "); got != "j h i" {
		t.Errorf("Ghosts %s", got)
	}
	for key, want := range map[string]bool{"a": true, "b": true, "c": true, "d": true, "h": false, "i": false, "j": false, "x": false, "": false, "ab": false, "a/0": false} {
		if got := e.Has(key); got != want {
			t.Errorf("Has(%s): %v", key, got)
		}
	}
	if e.Len() != 4 || e.Room() != 6 {
		t.Errorf("Len %d, Room %d", e.Len(), e.Room())
	}
	x.same()
}

// P12.3: what Evict answers, till nobody is resident, and then it answers nothing and changes nothing.
func TestEvictAll(t *testing.T) {
	for _, room := range []int{1, 2, 3, 4, 9, 10, 11, 19, 20, 21, 22} {
		for s := 0; s <= room; s++ {
			for m := 0; s+m <= room; m++ {
				x := newPair(t, room)
				x.does(calls(numbered("+k", s) + numbered("=m", m) + numbered("+k", s/2) + numbered("+m", m/2) + numbered("+k", s/3))...)
				for range s + m {
					x.does(call{'!', ""})
				}
				if x.e.Len() != 0 {
					t.Fatal(room, s, m, x.e.State())
				}
				for range 2 {
					if key, ok := x.e.Evict(); key != "" || ok {
						t.Fatal(room, s, m, key, ok)
					}
					x.same()
				}
			}
		}
	}
}

// reached is a plain engine and the calls that lead to it.
type reached struct {
	m    *plain
	path []call
}

// next is all calls that differ: on each key of the rows, and on one that is nowhere.
func (m *plain) next() []call {
	fresh := 0
	known := slices.Concat(names(m.s, m.m), m.g)
	for slices.Contains(known, strconv.Itoa(fresh)) {
		fresh++
	}
	all := []call{{'!', ""}}
	for _, key := range append(known, strconv.Itoa(fresh)) {
		all = append(all, call{'+', key}, call{'=', key}, call{'-', key})
	}
	return all
}

// P12.1 to P12.5: each shape that can be reached at all in small rooms, and each call there.
func TestEachShape(t *testing.T) {
	for room := 1; room <= 4; room++ {
		seen := map[string]int{}
		queue := []reached{{m: newPlain(room)}}
		for len(queue) > 0 {
			at := queue[0]
			queue = queue[1:]
			for _, c := range at.m.next() {
				x := &pair{t, s3fifo.New(room), at.m.copied()}
				for _, before := range at.path {
					onEngine(x.e, before)
				}
				x.does(c)
				x.has("0", "1", "none")
				if seen[x.m.shape()]++; seen[x.m.shape()] == 1 {
					queue = append(queue, reached{x.m, append(slices.Clone(at.path), c)})
				}
			}
		}
		// With n resident keys there are n + 1 ways to part them, and 4 counts for each.
		want, counts := 0, 1
		for n := range room + 1 {
			want += (n + 1) * counts
			counts *= 4
		}
		if want *= max(room-1, 1) + 1; len(seen) != want {
			t.Errorf("room %d: %d shapes, not %d", room, len(seen), want)
		}
	}
}

// P12.1 to P12.5: all short rows of calls on few keys.
func TestAllShortRows(t *testing.T) {
	var all []call
	for _, key := range []string{"a", "b", "c"} {
		all = append(all, call{'+', key}, call{'=', key}, call{'-', key})
	}
	all = append(all, call{'!', ""})
	for room := 1; room <= 2; room++ {
		rows := 1
		for length := 1; length <= 5; length++ {
			rows *= len(all)
			for n := range rows {
				shortRow(t, room, all, n, length)
			}
		}
	}
}

// shortRow makes the n-th row of so many calls, and looks at what is told behind the last one.
func shortRow(t *testing.T, room int, all []call, n, length int) {
	t.Helper()
	x := newPair(t, room)
	for k := n; length > 0; k /= len(all) {
		x.quick(all[k%len(all)])
		length--
	}
	if got, want := x.e.State(), x.m.state(); got != want {
		t.Fatalf("room %d, row %d: %s, not %s", room, n, got, want)
	}
}

// anyKeys is keys of many kinds: the empty one, alike ones, long ones, ones with any bytes.
func anyKeys() []string {
	bytes := make([]byte, 512)
	for i := range bytes {
		bytes[i] = byte(i)
	}
	long := strings.Repeat("long", 300)
	return []string{
		"", " ", "  ", ";", ":", "S:", "M", ";M:", "/", "/0", "a/0", "a/1", "a/", "a/0 b/0", "\x00", "\x00\x00", "\n", "a", "b", "aa", "ab", "a b", "a;b",
		"alike0", "alike1", "alike2", "alike", long, long + "0", long + "1", long[1:], "0" + long,
		string(bytes), string(bytes[:256]), string(bytes[1:]), "\xff", "\xff\xfe", "\x80", "é", "e\u0301", "日本", "\U0010ffff",
	}
}

// P12.1 to P12.5: long rows of all calls in whatever order.
func TestLongRows(t *testing.T) {
	for room := 1; room <= 24; room++ {
		var keys []string
		for i := range 3*room + 1 {
			keys = append(keys, "k"+strconv.Itoa(i))
		}
		mixed(t, room, keys, 3000)
	}
	for _, room := range []int{1, 2, 3, 5, 8, 13, 17, 30} {
		mixed(t, room, anyKeys(), 3000)
	}
	for _, room := range []int{100, api.MaxRoom, math.MaxInt} {
		var keys []string
		for i := range 3 * min(room, api.MaxRoom) {
			keys = append(keys, "k"+strconv.Itoa(i))
		}
		mixed(t, room, keys, 12000)
	}
}

// mixed makes calls, mostly Accesses, of some of the keys more often than of others, with times of each other call.
func mixed(t *testing.T, room int, keys []string, n int) {
	t.Helper()
	x := newPair(t, room)
	pick := lots(uint64(room))
	last := keys[0]
	for i := range n {
		among := len(keys)
		if pick(3) == 0 {
			among = len(keys)/6 + 1
		}
		c := call{'+', keys[pick(among)]}
		switch pick(20) {
		case 0, 1:
			c.what = '='
		case 2:
			c.what = '-'
		case 3, 4:
			c = call{'!', ""}
		case 5, 6, 7, 8:
			c.key = last
		}
		if i/500%4 == 3 && c.what == '+' && pick(2) == 0 {
			c = call{"-=!"[pick(3)], c.key}
		}
		if c.what == '+' {
			last = c.key
		}
		x.quick(c)
		if len(keys) < 200 || i%100 == 0 {
			x.same()
			x.has(c.key)
		}
	}
	x.same()
	x.has(keys...)
}

// P12.1, P12.3: a row of keys that are used once drives no one away that was used often.
func TestOnceAndOften(t *testing.T) {
	e := s3fifo.New(64)
	said(e, strings.Repeat(numbered("+hot", 32), 3))
	for i := range 1000 {
		hit, gone := e.Access("scan" + strconv.Itoa(i))
		if hit || len(gone) > 1 || len(gone) == 1 && strings.HasPrefix(gone[0], "hot") {
			t.Fatalf("scan%d: %v %q", i, hit, gone)
		}
	}
	for i := range 32 {
		if !e.Has("hot" + strconv.Itoa(i)) {
			t.Errorf("hot%d went", i)
		}
	}
}

// P12.1 to P12.4: the empty text is a key as any other one.
func TestEmptyText(t *testing.T) {
	e := s3fifo.New(2)
	if hit, gone := e.Access(""); hit || len(gone) != 0 || !e.Has("") || e.Len() != 1 || e.State() != "S: /0;M:;G:" {
		t.Error(hit, gone, e.State())
	}
	if hit, gone := e.Access(""); !hit || len(gone) != 0 || e.State() != "S: /1;M:;G:" {
		t.Error(hit, gone, e.State())
	}
	if key, ok := e.Evict(); key != "" || !ok || e.Has("") || e.State() != "S:;M:;G: " {
		t.Error(key, ok, e.State())
	}
	if key, ok := e.Evict(); key != "" || ok || len(e.Ghosts()) != 1 {
		t.Error(key, ok, e.State())
	}
	if e.Remove("") || !e.Load("") || e.Load("") || !e.Remove("") || e.Remove("") || e.Len() != 0 || len(e.Ghosts()) != 0 {
		t.Error(e.State())
	}
	e.Access("")
	e.Access("a")
	if hit, gone := e.Access("b"); hit || !slices.Equal(gone, []string{""}) || e.State() != "S: a/0 b/0;M:;G: " {
		t.Error(hit, gone, e.State())
	}
	if key, ok := e.Evict(); key != "a" || !ok || e.State() != "S: b/0;M:;G: a" {
		t.Error(key, ok, e.State())
	}
	e.Load("")
	if hit, gone := e.Access(""); !hit || len(gone) != 0 || e.State() != "S: b/0;M: /1;G: a" {
		t.Error(hit, gone, e.State())
	}
	if hit, gone := e.Access("c"); hit || !slices.Equal(gone, []string{""}) || e.State() != "S: b/0 c/0;M:;G: a" {
		t.Error(hit, gone, e.State())
	}
	e = s3fifo.New(3)
	e.Access("")
	e.Evict()
	if hit, gone := e.Access(""); hit || len(gone) != 0 || e.State() != "S:;M: /0;G:" {
		t.Error(hit, gone, e.State())
	}
}

// P12.4: keys with any bytes are told as they are.
func TestAnyBytes(t *testing.T) {
	for _, key := range anyKeys() {
		e := s3fifo.New(3)
		e.Access(key)
		if got, want := e.State(), "S: "+key+"/0;M:;G:"; got != want {
			t.Errorf("State %.80q, not %.80q", got, want)
		}
		if got := e.Keys(); len(got) != 1 || got[0] != key {
			t.Errorf("Keys %.80q, not %.80q", got, key)
		}
		for _, other := range anyKeys() {
			if got := e.Has(other); got != (other == key) {
				t.Errorf("%.80q: Has(%.80q): %v", key, other, got)
			}
		}
		if got, ok := e.Evict(); got != key || !ok {
			t.Errorf("Evict %.80q, not %.80q", got, key)
		}
		if got := e.Ghosts(); len(got) != 1 || got[0] != key {
			t.Errorf("Ghosts %.80q, not %.80q", got, key)
		}
		if hit, gone := e.Access(key); hit || len(gone) != 0 || e.State() != "S:;M: "+key+"/0;G:" {
			t.Errorf("State %.80q of %.80q", e.State(), key)
		}
		if got, ok := e.Evict(); got != key || !ok || len(e.Ghosts()) != 0 {
			t.Errorf("Evict %.80q, not %.80q", got, key)
		}
	}
}

// fresh is a text of the test's own, which may be written over.
func fresh(text string) string { return strings.Clone(text) }

// blot writes over a text's bytes.
func blot(text string) {
	for i := range len(text) {
		unsafe.Slice(unsafe.StringData(text), len(text))[i] = '#'
	}
}

// P12.5, W6: what is answered is new memory: written over, lists, their spare room and texts, it changes nothing.
func TestAnswersWrittenOver(t *testing.T) {
	x := newPair(t, 5)
	pick := lots(7)
	for range 4000 {
		key := fresh("key" + strconv.Itoa(pick(16)))
		switch pick(8) {
		case 0:
			got, _ := x.e.Evict()
			want, _ := x.m.evict()
			if got != want {
				t.Fatalf("Evict %q, not %q", got, want)
			}
			blot(got)
		case 1:
			x.e.Load(key)
			x.m.load(fresh(key))
		default:
			_, got := x.e.Access(key)
			_, want := x.m.access(fresh(key))
			if !slices.Equal(got, want) {
				t.Fatalf("Access %q, not %q", got, want)
			}
			blotAll(got)
		}
		// What was handed in is the test's again, too.
		blot(key)
		x.same()
		blotAll(x.e.Keys())
		blotAll(x.e.Ghosts())
		blot(x.e.State())
		x.same()
	}
}

// blotAll writes over the texts, then over the list with all of its spare room.
func blotAll(list []string) {
	for _, text := range list {
		blot(text)
	}
	list = list[:cap(list)]
	for i := range list {
		list[i] = "###"
	}
}

// P12.5, W7: what was answered stays what it is.
func TestAnswersStay(t *testing.T) {
	e := s3fifo.New(6)
	pick := lots(11)
	var held [][]string
	var copies []string
	keep := func(list ...string) {
		held = append(held, list)
		copies = append(copies, fmt.Sprintf("%q", list))
	}
	for range 2000 {
		_, gone := e.Access("k" + strconv.Itoa(pick(20)))
		keep(gone...)
		keep(e.Keys()...)
		keep(e.Ghosts()...)
		keep(e.State())
		if pick(4) == 0 {
			key, _ := e.Evict()
			keep(key)
		}
	}
	for i, list := range held {
		if got := fmt.Sprintf("%q", list); got != copies[i] {
			t.Fatalf("answer %d: %s, not %s", i, got, copies[i])
		}
	}
}

// W6: no two answers share a text, nor does one share it with what was handed in.
func TestTextsAreNew(t *testing.T) {
	e := s3fifo.New(4)
	seen := map[*byte]int{}
	var all []string
	note := func(texts ...string) {
		for _, text := range texts {
			all = append(all, text)
			if seen[unsafe.StringData(text)]++; seen[unsafe.StringData(text)] > 1 {
				t.Fatalf("%q was answered before", text)
			}
		}
	}
	pick := lots(3)
	for range 500 {
		key := fresh("key" + strconv.Itoa(pick(12)))
		_, gone := e.Access(key)
		note(key)
		note(gone...)
		note(e.Keys()...)
		note(e.Keys()...)
		note(e.Ghosts()...)
		note(e.Ghosts()...)
		note(e.State(), e.State())
		if pick(5) == 0 {
			went, _ := e.Evict()
			note(went)
		}
	}
	runtime.KeepAlive(all)
}

// W6: the long text of which keys are pieces is free while the engine lives on.
func TestHandedInIsNotKept(t *testing.T) {
	e := s3fifo.New(4)
	long := strings.Repeat("key", 1<<16)
	weakly := weak.Make(unsafe.StringData(long))
	for i := range 9 {
		e.Access(long[i : 2*i])
		e.Access(long[i : 2*i])
		e.Access(long[i : 3*i])
		e.Load(long[i : i+5])
		e.Has(long[i:])
		e.Remove(long[i : i+2])
		e.Evict()
	}
	long = ""
	runtime.GC()
	if weakly.Value() != nil {
		t.Error("the long text is still held")
	}
	if e.Len()+len(e.Ghosts()) == 0 {
		t.Error("nothing is there")
	}
}

// W6, P12.1, P12.2: keys that are in no list any more are held no more.
func TestGoneIsNotHeld(t *testing.T) {
	const size = 1 << 22
	e := s3fifo.New(1)
	long := func(i int) string { return strings.Repeat(strconv.Itoa(i), size) }
	before := heap()
	for i := range 8 {
		e.Access(long(i))
	}
	// The last one, its ghost, and one that goes from M by another one.
	e.Remove(long(7))
	e.Load(long(6))
	e.Access(long(8))
	e.Remove(long(8))
	if after := heap(); after > before+size/2 {
		t.Errorf("%d bytes are held, %d before", after, before)
	}
	if got := e.State(); got != "S:;M:;G:" {
		t.Errorf("%.100s", got)
	}
}

func heap() uint64 {
	runtime.GC()
	var m runtime.MemStats
	runtime.ReadMemStats(&m)
	return m.HeapAlloc
}

// W2: two engines do not meet, and what is told hangs on the calls alone.
func TestTwoEngines(t *testing.T) {
	x, y, z := newPair(t, 3), newPair(t, 3), newPair(t, 7)
	pick := lots(5)
	for range 3000 {
		c := call{"+++++=-!"[pick(8)], "k" + strconv.Itoa(pick(12))}
		switch pick(3) {
		case 0:
			x.does(c)
		case 1:
			y.does(c)
		default:
			z.does(c)
		}
		x.same()
		y.same()
		z.same()
	}
}

// P12.5, W8: a nil Engine has nothing, and takes nothing.
func TestNilEngine(t *testing.T) {
	var e *s3fifo.Engine
	hasNothing(t, e)
	if e != nil {
		t.Error("nil no more")
	}
}

// W1: so does one that New did not make.
func TestZeroEngine(t *testing.T) { hasNothing(t, new(s3fifo.Engine)) }

func hasNothing(t *testing.T, e *s3fifo.Engine) {
	t.Helper()
	for range 2 {
		for _, key := range anyKeys() {
			hit, gone := e.Access(key)
			if hit || len(gone) != 0 || e.Load(key) || e.Has(key) || e.Remove(key) {
				t.Errorf("%.40q: %v %q", key, hit, gone)
			}
			if went, ok := e.Evict(); went != "" || ok {
				t.Errorf("Evict %q %v", went, ok)
			}
			if len(e.Keys()) != 0 || len(e.Ghosts()) != 0 || e.State() != "" || e.Len() != 0 || e.Room() != 0 {
				t.Errorf("%q %q %q %d %d", e.Keys(), e.Ghosts(), e.State(), e.Len(), e.Room())
			}
		}
	}
}

// W8: of an engine and its copy one may be used.
func TestCopied(t *testing.T) {
	x := newPair(t, 3)
	x.does(calls(once("gh") + "=a +b +c")...)
	engine := *x.e
	x.e = &engine
	x.same()
	x.does(calls("+g +d +b =h ! -a +a +h ! ! !")...)
}
