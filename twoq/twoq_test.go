package twoq_test

import (
	"fmt"
	"math"
	"runtime"
	"slices"
	"strconv"
	"strings"
	"testing"
	"unsafe"
	"weak"

	"hoard/api"
	"hoard/twoq"
)

// said is what the last call of a script answered: hit or miss and what went, yes or no, or the key that an Evict answered.
func said(e *twoq.Engine, script string) string {
	answer := ""
	for _, c := range calls(script) {
		switch c.what {
		case '+':
			hit, gone := e.Access(c.key)
			answer = map[bool]string{true: "hit", false: "miss"}[hit] + strings.Join(append([]string{""}, gone...), " ")
		case '=':
			answer = map[bool]string{true: "yes", false: "no"}[e.Load(c.key)]
		case '-':
			answer = map[bool]string{true: "yes", false: "no"}[e.Remove(c.key)]
		default:
			key, ok := e.Evict()
			answer = map[bool]string{true: "yes " + key, false: "no" + key}[ok]
		}
	}
	return answer
}

// scripted is a script, what its last call answers, and all of State behind it.
type scripted struct {
	room                  int
	script, answer, state string
}

func run(t *testing.T, all ...scripted) {
	t.Helper()
	for _, s := range all {
		e := twoq.New(s.room)
		if got := said(e, s.script); got != s.answer {
			t.Errorf("room %d, %s: %q, not %q", s.room, s.script, got, s.answer)
		}
		if got := e.State(); got != s.state {
			t.Errorf("room %d, %s:\n%s, not\n%s", s.room, s.script, got, s.state)
		}
		newPair(t, s.room).does(calls(s.script)...)
	}
}

// once is a script by which each letter becomes the newest of A1out, where nobody is resident.
func once(keys string) string {
	s := ""
	for _, k := range keys {
		s += fmt.Sprintf("+%c ! ", k)
	}
	return s
}

// numbered is so many words of a script: a call on a letter and 0, 1, 2 and so on.
func numbered(what string, n int) string {
	s := ""
	for i := range n {
		s += what + strconv.Itoa(i) + " "
	}
	return s
}

func TestExample(t *testing.T) {
	e := twoq.New(2)
	for _, key := range []string{"a", "b", "c", "a"} {
		e.Access(key)
	}
	if got := e.State(); got != "A1in: c;A1out: b;Am: a" {
		t.Error(got)
	}
}

// Words, P11.4: the room is held within 1 and MaxRoom.
func TestRooms(t *testing.T) {
	for _, x := range []struct{ room, want int }{
		{math.MinInt, 1}, {math.MinInt + 1, 1}, {-(1 << 32) + 5, 1}, {-(1 << 32), 1}, {-1025, 1}, {-1024, 1}, {-2, 1}, {-1, 1}, {0, 1},
		{1, 1}, {2, 2}, {3, 3}, {4, 4}, {5, 5}, {7, 7}, {8, 8}, {255, 255}, {256, 256}, {1022, 1022}, {1023, 1023}, {1024, 1024}, {1025, 1024}, {2048, 1024},
		{1 << 16, 1024}, {1<<31 - 1, 1024}, {1 << 31, 1024}, {1 << 32, 1024}, {1<<32 + 5, 1024}, {1 << 62, 1024}, {math.MaxInt - 1, 1024}, {math.MaxInt, 1024},
	} {
		e := twoq.New(x.room)
		if got := e.Room(); got != x.want {
			t.Errorf("New(%d): Room %d, not %d", x.room, got, x.want)
		}
		if got := e.State(); got != "A1in:;A1out:;Am:" || e.Len() != 0 || len(e.Keys()) != 0 || len(e.Ghosts()) != 0 {
			t.Errorf("New(%d): %s", x.room, got)
		}
		for i := range x.want + 2 {
			e.Access(strconv.Itoa(i))
		}
		if got := e.Len(); got != x.want {
			t.Errorf("New(%d): %d are resident, not %d", x.room, got, x.want)
		}
	}
	if api.MaxRoom != 1024 {
		t.Error("the test's own words")
	}
}

// Words: Kin is a fourth of the room, Kout a half, rounded down, each at least 1.
func TestParts(t *testing.T) {
	for _, x := range []struct{ room, c, kin, kout int }{
		{math.MinInt, 1, 1, 1}, {-1024, 1, 1, 1}, {-8, 1, 1, 1}, {-1, 1, 1, 1}, {0, 1, 1, 1},
		{1, 1, 1, 1}, {2, 2, 1, 1}, {3, 3, 1, 1}, {4, 4, 1, 2}, {5, 5, 1, 2}, {6, 6, 1, 3}, {7, 7, 1, 3}, {8, 8, 2, 4}, {9, 9, 2, 4},
		{10, 10, 2, 5}, {11, 11, 2, 5}, {12, 12, 3, 6}, {15, 15, 3, 7}, {16, 16, 4, 8}, {17, 17, 4, 8}, {19, 19, 4, 9}, {20, 20, 5, 10},
		{1020, 1020, 255, 510}, {1023, 1023, 255, 511}, {1024, 1024, 256, 512}, {1025, 1024, 256, 512}, {2048, 1024, 256, 512}, {math.MaxInt, 1024, 256, 512},
	} {
		ghosts := twoq.New(x.room)
		said(ghosts, numbered("+k", 2*x.c+2))
		if got := len(ghosts.Ghosts()); got != x.kout {
			t.Errorf("New(%d): %d ghosts, not %d", x.room, got, x.kout)
		}
		// With just Kin in A1in, and with one more, where there is room for that beside one of Am.
		if x.kin >= x.c {
			continue
		}
		just := twoq.New(x.room)
		said(just, numbered("=m", x.c-x.kin)+numbered("+k", x.kin))
		if hit, gone := just.Access("new"); hit || !slices.Equal(gone, []string{"m0"}) || len(just.Ghosts()) != 0 {
			t.Errorf("New(%d): %d in A1in: %q went", x.room, x.kin, gone)
		}
		if x.kin+1 >= x.c {
			continue
		}
		more := twoq.New(x.room)
		said(more, numbered("=m", x.c-x.kin-1)+numbered("+k", x.kin+1))
		if hit, gone := more.Access("new"); hit || !slices.Equal(gone, []string{"k0"}) || !slices.Equal(more.Ghosts(), gone) {
			t.Errorf("New(%d): %d in A1in: %q went", x.room, x.kin+1, gone)
		}
	}
}

// P11.1: a key in Am becomes the last one.
func TestAccessOfAm(t *testing.T) {
	run(t,
		scripted{1, "=a +a", "hit", "A1in:;A1out:;Am: a"},
		scripted{3, "=a =b =c +a", "hit", "A1in:;A1out:;Am: b c a"},
		scripted{3, "=a =b =c +b", "hit", "A1in:;A1out:;Am: a c b"},
		scripted{3, "=a =b =c +c", "hit", "A1in:;A1out:;Am: a b c"},
		scripted{3, "=a =b =c +a +b", "hit", "A1in:;A1out:;Am: c a b"},
		scripted{3, "=a =b =c +a +a", "hit", "A1in:;A1out:;Am: b c a"},
		scripted{4, "=a =b +x +y +a", "hit", "A1in: x y;A1out:;Am: b a"},
		scripted{4, once("gh") + "=a =b +x +a", "hit", "A1in: x;A1out: g h;Am: b a"},
		scripted{4, once("gh") + "+g +h +g", "hit", "A1in:;A1out:;Am: h g"},
		// It is the last one to go then.
		scripted{4, "=a =b =c =d +a +x", "miss b", "A1in: x;A1out:;Am: c d a"},
	)
}

// P11.1: nothing happens by a key in A1in.
func TestAccessOfA1in(t *testing.T) {
	run(t,
		scripted{1, "+a +a", "hit", "A1in: a;A1out:;Am:"},
		scripted{3, "+a +b +c +a", "hit", "A1in: a b c;A1out:;Am:"},
		scripted{3, "+a +b +c +b", "hit", "A1in: a b c;A1out:;Am:"},
		scripted{3, "+a +b +c +c", "hit", "A1in: a b c;A1out:;Am:"},
		scripted{3, "+a +b +c +a +a +a", "hit", "A1in: a b c;A1out:;Am:"},
		scripted{4, "=p +a +b +a", "hit", "A1in: a b;A1out:;Am: p"},
		scripted{4, once("gh") + "=p +a +b +c +b", "hit", "A1in: a b c;A1out: g h;Am: p"},
		// It goes as if it had been used once.
		scripted{3, "+a +b +c +a +d", "miss a", "A1in: b c d;A1out: a;Am:"},
	)
}

// P11.1: a key in A1out leaves it, then reclaim, then it is the last one of Am.
func TestAccessOfA1out(t *testing.T) {
	run(t,
		// Fewer than c are resident: nobody goes.
		scripted{4, once("ab") + "+a", "miss", "A1in:;A1out: b;Am: a"},
		scripted{4, once("ab") + "+b", "miss", "A1in:;A1out: a;Am: b"},
		scripted{4, once("ab") + "+b +a", "miss", "A1in:;A1out:;Am: b a"},
		scripted{4, once("ab") + "+x =p +a", "miss", "A1in: x;A1out: b;Am: p a"},
		scripted{4, once("ab") + "+x +y +z +a", "miss", "A1in: x y z;A1out: b;Am: a"},
		// c are, A1in has more than Kin: its oldest goes, and finds the ghost's place free.
		scripted{4, once("ab") + "+w +x +y +z +a", "miss w", "A1in: x y z;A1out: b w;Am: a"},
		scripted{4, once("ab") + "+w +x +y +z +b", "miss w", "A1in: x y z;A1out: a w;Am: b"},
		scripted{4, once("ab") + "=p =q +x +y +b", "miss x", "A1in: y;A1out: a x;Am: p q b"},
		scripted{8, once("abcd") + "=p =q =r =s =t +x +y +z +b", "miss x", "A1in: y z;A1out: a c d x;Am: p q r s t b"},
		scripted{8, once("abcd") + "=p =q =r =s =t +x +y +z +d", "miss x", "A1in: y z;A1out: a b c x;Am: p q r s t d"},
		// Just Kin, fewer, none: the first of Am goes, and becomes no ghost.
		scripted{8, once("abcd") + "=p =q =r =s =t =u +x +y +b", "miss p", "A1in: x y;A1out: a c d;Am: q r s t u b"},
		scripted{8, once("abcd") + "=p =q =r =s =t =u =v +x +b", "miss p", "A1in: x;A1out: a c d;Am: q r s t u v b"},
		scripted{8, once("abcd") + "=p =q =r =s =t =u =v =w +b", "miss p", "A1in:;A1out: a c d;Am: q r s t u v w b"},
		scripted{4, once("ab") + "=p =q =r +x +a", "miss p", "A1in: x;A1out: b;Am: q r a"},
		scripted{1, once("a") + "=p +a", "miss p", "A1in:;A1out:;Am: a"},
		// Am has none: the oldest of A1in goes, though it has just Kin.
		scripted{1, "+a +b +a", "miss b", "A1in:;A1out: b;Am: a"},
		scripted{1, "+a +b +a +b", "miss a", "A1in:;A1out:;Am: b"},
		scripted{2, "+a +b +c +a", "miss b", "A1in: c;A1out: b;Am: a"},
	)
}

// P11.1: of a key in none of the lists: reclaim, then it is the newest of A1in.
func TestAccessOfUnknown(t *testing.T) {
	run(t,
		// Fewer than c are resident: nobody goes.
		scripted{1, "+a", "miss", "A1in: a;A1out:;Am:"},
		scripted{3, "+a +b +c", "miss", "A1in: a b c;A1out:;Am:"},
		scripted{3, "=p =q +a", "miss", "A1in: a;A1out:;Am: p q"},
		scripted{4, once("gh") + "=p +a +b +c", "miss", "A1in: a b c;A1out: g h;Am: p"},
		scripted{4, "+a +b +c +d -b +e", "miss", "A1in: a c d e;A1out:;Am:"},
		scripted{4, "+a +b +c +d ! +e", "miss", "A1in: b c d e;A1out: a;Am:"},
		// c are, A1in has more than Kin: its oldest becomes the newest of A1out.
		scripted{3, "+a +b +c +d", "miss a", "A1in: b c d;A1out: a;Am:"},
		scripted{4, "=p =q +x +y +z", "miss x", "A1in: y z;A1out: x;Am: p q"},
		scripted{4, once("g") + "=p =q +x +y +z", "miss x", "A1in: y z;A1out: g x;Am: p q"},
		scripted{8, "=p =q =r =s =t +x +y +z +a", "miss x", "A1in: y z a;A1out: x;Am: p q r s t"},
		// Just Kin, fewer, none: the first of Am goes, and becomes no ghost.
		scripted{4, "=p =q =r +x +y", "miss p", "A1in: x y;A1out:;Am: q r"},
		scripted{2, "=p +x +y", "miss p", "A1in: x y;A1out:;Am:"},
		scripted{8, "=p =q =r =s =t =u +x +y +z", "miss p", "A1in: x y z;A1out:;Am: q r s t u"},
		scripted{8, "=p =q =r =s =t =u =v +x +y", "miss p", "A1in: x y;A1out:;Am: q r s t u v"},
		scripted{4, "=p =q =r =s +x", "miss p", "A1in: x;A1out:;Am: q r s"},
		scripted{1, "=p +x", "miss p", "A1in: x;A1out:;Am:"},
		// Am has none: the oldest of A1in goes, though it has just Kin.
		scripted{1, "+a +b", "miss a", "A1in: b;A1out: a;Am:"},
		// A1out has just Kout: its oldest goes.
		scripted{1, "+a +b +c", "miss b", "A1in: c;A1out: b;Am:"},
		scripted{3, "+a +b +c +d +e", "miss b", "A1in: c d e;A1out: b;Am:"},
		scripted{4, "+a +b +c +d +e +f", "miss b", "A1in: c d e f;A1out: a b;Am:"},
		scripted{4, "+a +b +c +d +e +f +g", "miss c", "A1in: d e f g;A1out: b c;Am:"},
		scripted{5, once("gh") + "=p +v +w +x +y +z", "miss v", "A1in: w x y z;A1out: h v;Am: p"},
		scripted{8, once("abcd") + "=p =q =r =s =t +x +y +z +e", "miss x", "A1in: y z e;A1out: b c d x;Am: p q r s t"},
		// Who left Am, or A1out, is in none of them again.
		scripted{4, "=p =q =r =s +x +p", "miss q", "A1in: x p;A1out:;Am: r s"},
		scripted{2, "+a +b +c +d +a", "miss c", "A1in: d a;A1out: c;Am:"},
		scripted{4, once("abc") + "+a", "miss", "A1in: a;A1out: b c;Am:"},
	)
}

// P11.2: Load makes a key the last one of Am, if it may.
func TestLoad(t *testing.T) {
	run(t,
		scripted{1, "=a", "yes", "A1in:;A1out:;Am: a"},
		scripted{3, "=a =b =c", "yes", "A1in:;A1out:;Am: a b c"},
		scripted{3, "+x =a =b", "yes", "A1in: x;A1out:;Am: a b"},
		scripted{3, "+x +y =a", "yes", "A1in: x y;A1out:;Am: a"},
		// Resident, in Am and in A1in.
		scripted{3, "=a =b =a", "no", "A1in:;A1out:;Am: a b"},
		scripted{3, "+a +b =a", "no", "A1in: a b;A1out:;Am:"},
		// c are resident: a new key, a resident one of either row, a ghost.
		scripted{3, "=a =b =c =d", "no", "A1in:;A1out:;Am: a b c"},
		scripted{3, "=a =b =c =a", "no", "A1in:;A1out:;Am: a b c"},
		scripted{3, "+a +b +c =d", "no", "A1in: a b c;A1out:;Am:"},
		scripted{3, "+a +b =c =a", "no", "A1in: a b;A1out:;Am: c"},
		scripted{3, "+a +b +c +d =e", "no", "A1in: b c d;A1out: a;Am:"},
		scripted{3, "+a +b +c +d =a", "no", "A1in: b c d;A1out: a;Am:"},
		scripted{1, "+a =b", "no", "A1in: a;A1out:;Am:"},
		scripted{1, "=a =b", "no", "A1in:;A1out:;Am: a"},
		scripted{1, "+a +b =a", "no", "A1in: b;A1out: a;Am:"},
		// A ghost leaves A1out; the others stay.
		scripted{1, once("a") + "=a", "yes", "A1in:;A1out:;Am: a"},
		scripted{4, once("ab") + "=a", "yes", "A1in:;A1out: b;Am: a"},
		scripted{4, once("ab") + "=b =a", "yes", "A1in:;A1out:;Am: b a"},
		scripted{4, once("ab") + "+x =p =a", "yes", "A1in: x;A1out: b;Am: p a"},
		scripted{4, once("ab") + "=c", "yes", "A1in:;A1out: a b;Am: c"},
		// There is room again.
		scripted{3, "=a =b =c -b =d", "yes", "A1in:;A1out:;Am: a c d"},
		scripted{3, "=a =b =c ! =d", "yes", "A1in:;A1out:;Am: b c d"},
		scripted{3, "+a +b +c ! =a", "yes", "A1in: b c;A1out:;Am: a"},
	)
}

// P11.2: Remove of a resident key leaves it in no list; nothing is changed by that of another one.
func TestRemove(t *testing.T) {
	run(t,
		scripted{3, "+a -a", "yes", "A1in:;A1out:;Am:"},
		scripted{3, "=a -a", "yes", "A1in:;A1out:;Am:"},
		scripted{3, "+a +b +c -a", "yes", "A1in: b c;A1out:;Am:"},
		scripted{3, "+a +b +c -b", "yes", "A1in: a c;A1out:;Am:"},
		scripted{3, "+a +b +c -c", "yes", "A1in: a b;A1out:;Am:"},
		scripted{3, "=a =b =c -a", "yes", "A1in:;A1out:;Am: b c"},
		scripted{3, "=a =b =c -b", "yes", "A1in:;A1out:;Am: a c"},
		scripted{3, "=a =b =c -c", "yes", "A1in:;A1out:;Am: a b"},
		scripted{4, once("gh") + "+a +b =c =d -b", "yes", "A1in: a;A1out: g h;Am: c d"},
		scripted{4, once("gh") + "+a +b =c =d -c", "yes", "A1in: a b;A1out: g h;Am: d"},
		// Twice, of a key that was never there, of ghosts.
		scripted{3, "+a +b -a -a", "no", "A1in: b;A1out:;Am:"},
		scripted{3, "=a =b -a -a", "no", "A1in:;A1out:;Am: b"},
		scripted{3, "-a", "no", "A1in:;A1out:;Am:"},
		scripted{3, "+a =b -c", "no", "A1in: a;A1out:;Am: b"},
		scripted{4, once("gh") + "-g", "no", "A1in:;A1out: g h;Am:"},
		scripted{4, once("gh") + "+a =b -h", "no", "A1in: a;A1out: g h;Am: b"},
		scripted{1, "+a +b -a", "no", "A1in: b;A1out: a;Am:"},
		// It is in none of the lists then.
		scripted{3, "=a =b -a +a", "miss", "A1in: a;A1out:;Am: b"},
		scripted{3, "+a +b -a +a", "miss", "A1in: b a;A1out:;Am:"},
		scripted{2, "+a +b -a =a", "yes", "A1in: b;A1out:;Am: a"},
	)
}

// P11.3: Evict makes the oldest of A1in a ghost, or the first of Am go.
func TestEvict(t *testing.T) {
	run(t,
		scripted{3, "!", "no", "A1in:;A1out:;Am:"},
		scripted{4, once("gh") + "!", "no", "A1in:;A1out: g h;Am:"},
		// A1in has more than Kin, just Kin, fewer, none.
		scripted{8, "=p =q +x +y +z !", "yes x", "A1in: y z;A1out: x;Am: p q"},
		scripted{8, "=p =q +x +y !", "yes p", "A1in: x y;A1out:;Am: q"},
		scripted{8, "=p =q +x !", "yes p", "A1in: x;A1out:;Am: q"},
		scripted{8, "=p =q !", "yes p", "A1in:;A1out:;Am: q"},
		scripted{4, "=p =q +x +y !", "yes x", "A1in: y;A1out: x;Am: p q"},
		scripted{4, "=p =q +x !", "yes p", "A1in: x;A1out:;Am: q"},
		// Am has none.
		scripted{8, "+x +y +z !", "yes x", "A1in: y z;A1out: x;Am:"},
		scripted{8, "+x +y !", "yes x", "A1in: y;A1out: x;Am:"},
		scripted{8, "+x !", "yes x", "A1in:;A1out: x;Am:"},
		scripted{1, "+x !", "yes x", "A1in:;A1out: x;Am:"},
		scripted{1, "=p !", "yes p", "A1in:;A1out:;Am:"},
		// All of them, one by one.
		scripted{8, "=p =q +x +y +z ! !", "yes p", "A1in: y z;A1out: x;Am: q"},
		scripted{8, "=p =q +x +y +z ! ! !", "yes q", "A1in: y z;A1out: x;Am:"},
		scripted{8, "=p =q +x +y +z ! ! ! !", "yes y", "A1in: z;A1out: x y;Am:"},
		scripted{8, "=p =q +x +y +z ! ! ! ! !", "yes z", "A1in:;A1out: x y z;Am:"},
		scripted{8, "=p =q +x +y +z ! ! ! ! ! !", "no", "A1in:;A1out: x y z;Am:"},
		// A1out has one fewer than Kout, just Kout.
		scripted{4, once("g") + "+a !", "yes a", "A1in:;A1out: g a;Am:"},
		scripted{4, once("gh") + "+a !", "yes a", "A1in:;A1out: h a;Am:"},
		scripted{4, once("gh") + "=a !", "yes a", "A1in:;A1out: g h;Am:"},
		scripted{1, once("g") + "+a !", "yes a", "A1in:;A1out: a;Am:"},
		scripted{4, once("gh") + "+a +b +c ! ! !", "yes c", "A1in:;A1out: b c;Am:"},
	)
}

// P11.3, P11.4: Keys, Ghosts and State in the order that is told, and Has, Len and Room beside them.
func TestTold(t *testing.T) {
	x := newPair(t, 6)
	x.does(calls(once("jhi") + "=d =b +c +a +d")...)
	e := x.e
	if got := e.State(); got != "A1in: c a;A1out: j h i;Am: b d" {
		t.Fatal(got)
	}
	if got := strings.Join(e.Keys(), " "); got != "c a b d" {
		t.Errorf("Keys %s", got)
	}
	if got := strings.Join(e.Ghosts(), " "); got != "j h i" {
		t.Errorf("Ghosts %s", got)
	}
	for key, want := range map[string]bool{"a": true, "b": true, "c": true, "d": true, "h": false, "i": false, "j": false, "x": false, "": false, "ab": false} {
		if got := e.Has(key); got != want {
			t.Errorf("Has(%s): %v", key, got)
		}
	}
	if e.Len() != 4 || e.Room() != 6 {
		t.Errorf("Len %d, Room %d", e.Len(), e.Room())
	}
	x.same()
}

// P11.3: what Evict answers, till nobody is resident, and then it answers nothing and changes nothing.
func TestEvictAll(t *testing.T) {
	for room := 1; room <= 16; room++ {
		for in := 0; in <= room; in++ {
			for again := 0; in+again <= room; again++ {
				x := newPair(t, room)
				x.does(calls(numbered("+k", in) + numbered("=m", again))...)
				for range in + again {
					x.does(call{'!', ""})
				}
				if x.e.Len() != 0 || len(x.e.Ghosts()) != min(in, max(room/2, 1)) {
					t.Fatal(room, in, again, x.e.State())
				}
				for range 2 {
					if key, ok := x.e.Evict(); key != "" || ok {
						t.Fatal(room, in, again, key, ok)
					}
					x.same()
				}
			}
		}
	}
}

// reached is a plain engine and the calls that lead to it.
type reached struct {
	m    *plain
	path []call
}

// next is all calls that differ: on each key of the lists, and on one in none of them.
func (m *plain) next() []call {
	fresh := 0
	known := slices.Concat(m.in, m.out, m.again)
	for slices.Contains(known, strconv.Itoa(fresh)) {
		fresh++
	}
	all := []call{{'!', ""}}
	for _, key := range append(known, strconv.Itoa(fresh)) {
		all = append(all, call{'+', key}, call{'=', key}, call{'-', key})
	}
	return all
}

// P11.1 to P11.5: each shape that can be reached at all in small rooms, and each call there.
func TestEachShape(t *testing.T) {
	for room := 1; room <= 12; room++ {
		seen := map[string]int{}
		queue := []reached{{m: newPlain(room)}}
		for len(queue) > 0 {
			at := queue[0]
			queue = queue[1:]
			for _, c := range at.m.next() {
				x := &pair{t, twoq.New(room), at.m.copied()}
				for _, before := range at.path {
					onEngine(x.e, before)
				}
				x.does(c)
				x.has("0", "1", "none")
				if seen[x.m.shape()]++; seen[x.m.shape()] == 1 {
					queue = append(queue, reached{x.m, append(slices.Clone(at.path), c)})
				}
			}
		}
		if want := (room + 1) * (room + 2) / 2 * (max(room/2, 1) + 1); len(seen) != want {
			t.Errorf("room %d: %d shapes, not %d", room, len(seen), want)
		}
	}
}

// P11.1 to P11.5: all short rows of calls on few keys.
func TestAllShortRows(t *testing.T) {
	var all []call
	for _, key := range []string{"a", "b", "c"} {
		all = append(all, call{'+', key}, call{'=', key}, call{'-', key})
	}
	all = append(all, call{'!', ""})
	for room := 1; room <= 2; room++ {
		rows := 1
		for length := 1; length <= 5; length++ {
			rows *= len(all)
			for n := range rows {
				shortRow(t, room, all, n, length)
			}
		}
	}
}

// shortRow makes the n-th row of so many calls, and looks at what is told behind the last one.
func shortRow(t *testing.T, room int, all []call, n, length int) {
	t.Helper()
	x := newPair(t, room)
	for k := n; length > 0; k /= len(all) {
		x.quick(all[k%len(all)])
		length--
	}
	if got, want := x.e.State(), x.m.state(); got != want {
		t.Fatalf("room %d, row %d: %s, not %s", room, n, got, want)
	}
}

// anyKeys is keys of many kinds: the empty one, alike ones, long ones, ones with any bytes.
func anyKeys() []string {
	bytes := make([]byte, 512)
	for i := range bytes {
		bytes[i] = byte(i)
	}
	long := strings.Repeat("long", 300)
	return []string{
		"", " ", "  ", ";", ":", "A1in:", "Am", ";Am:", "\x00", "\x00\x00", "\n", "a", "b", "aa", "ab", "a b", "a;b",
		"alike0", "alike1", "alike2", "alike", long, long + "0", long + "1", long[1:], "0" + long,
		string(bytes), string(bytes[:256]), string(bytes[1:]), "\xff", "\xff\xfe", "\x80", "é", "e\u0301", "日本", "\U0010ffff",
	}
}

// P11.1 to P11.5: long rows of all calls in whatever order.
func TestLongRows(t *testing.T) {
	for room := 1; room <= 24; room++ {
		var keys []string
		for i := range 3*room + 1 {
			keys = append(keys, "k"+strconv.Itoa(i))
		}
		mixed(t, room, keys, 3000)
	}
	for _, room := range []int{1, 2, 3, 5, 8, 13, 17, 30} {
		mixed(t, room, anyKeys(), 3000)
	}
	for _, room := range []int{100, api.MaxRoom, math.MaxInt} {
		var keys []string
		for i := range 3 * min(room, api.MaxRoom) {
			keys = append(keys, "k"+strconv.Itoa(i))
		}
		mixed(t, room, keys, 12000)
	}
}

// mixed makes calls, first mostly Accesses of few of the keys, then of all, with times of each other call.
func mixed(t *testing.T, room int, keys []string, n int) {
	t.Helper()
	x := newPair(t, room)
	pick := lots(uint64(room))
	for i := range n {
		among := len(keys)
		if pick(3) == 0 {
			among = len(keys)/3 + 1
		}
		c := call{'+', keys[pick(among)]}
		switch pick(20) {
		case 0, 1:
			c.what = '='
		case 2:
			c.what = '-'
		case 3, 4:
			c = call{'!', ""}
		}
		if i/500%4 == 3 && c.what == '+' && pick(2) == 0 {
			c = call{"-=!"[pick(3)], c.key}
		}
		x.quick(c)
		if len(keys) < 200 || i%100 == 0 {
			x.same()
			x.has(c.key)
		}
	}
	x.same()
	x.has(keys...)
}

// P11.1: a row of keys that are used once drives no one away that was used again.
func TestOnceAndAgain(t *testing.T) {
	e := twoq.New(64)
	said(e, numbered("+hot", 32)+numbered("+scan", 64)+numbered("+hot", 32))
	if hit, gone := e.Access("hot0"); !hit || len(gone) != 0 {
		t.Error(hit, gone)
	}
	for i := range 1000 {
		if hit, gone := e.Access("more" + strconv.Itoa(i)); hit || len(gone) != 1 || strings.HasPrefix(gone[0], "hot") {
			t.Fatalf("more%d: %v %q", i, hit, gone)
		}
	}
	for i := range 32 {
		if !e.Has("hot" + strconv.Itoa(i)) {
			t.Errorf("hot%d went", i)
		}
	}
}

// P11.1 to P11.4: the empty text is a key as any other one.
func TestEmptyText(t *testing.T) {
	e := twoq.New(2)
	if hit, gone := e.Access(""); hit || len(gone) != 0 || !e.Has("") || e.Len() != 1 || e.State() != "A1in: ;A1out:;Am:" {
		t.Error(hit, gone, e.State())
	}
	if hit, gone := e.Access(""); !hit || len(gone) != 0 || e.State() != "A1in: ;A1out:;Am:" {
		t.Error(hit, gone, e.State())
	}
	if key, ok := e.Evict(); key != "" || !ok || e.Has("") || e.State() != "A1in:;A1out: ;Am:" {
		t.Error(key, ok, e.State())
	}
	if key, ok := e.Evict(); key != "" || ok || len(e.Ghosts()) != 1 {
		t.Error(key, ok, e.State())
	}
	if e.Remove("") || !e.Load("") || e.Load("") || !e.Remove("") || e.Remove("") || e.Len() != 0 || len(e.Ghosts()) != 0 {
		t.Error(e.State())
	}
	e.Access("")
	e.Access("a")
	if hit, gone := e.Access("b"); hit || !slices.Equal(gone, []string{""}) || e.State() != "A1in: a b;A1out: ;Am:" {
		t.Error(hit, gone, e.State())
	}
	if hit, gone := e.Access(""); hit || !slices.Equal(gone, []string{"a"}) || e.State() != "A1in: b;A1out: a;Am: " {
		t.Error(hit, gone, e.State())
	}
	if hit, gone := e.Access(""); !hit || len(gone) != 0 || e.State() != "A1in: b;A1out: a;Am: " {
		t.Error(hit, gone, e.State())
	}
	if hit, gone := e.Access("c"); hit || !slices.Equal(gone, []string{""}) || e.State() != "A1in: b c;A1out: a;Am:" {
		t.Error(hit, gone, e.State())
	}
}

// P11.4: keys with any bytes are told as they are.
func TestAnyBytes(t *testing.T) {
	for _, key := range anyKeys() {
		e := twoq.New(3)
		e.Access(key)
		if got, want := e.State(), "A1in: "+key+";A1out:;Am:"; got != want {
			t.Errorf("State %.80q, not %.80q", got, want)
		}
		if got := e.Keys(); len(got) != 1 || got[0] != key {
			t.Errorf("Keys %.80q, not %.80q", got, key)
		}
		for _, other := range anyKeys() {
			if got := e.Has(other); got != (other == key) {
				t.Errorf("%.80q: Has(%.80q): %v", key, other, got)
			}
		}
		if got, ok := e.Evict(); got != key || !ok {
			t.Errorf("Evict %.80q, not %.80q", got, key)
		}
		if got := e.Ghosts(); len(got) != 1 || got[0] != key {
			t.Errorf("Ghosts %.80q, not %.80q", got, key)
		}
		if hit, gone := e.Access(key); hit || len(gone) != 0 || e.State() != "A1in:;A1out:;Am: "+key {
			t.Errorf("State %.80q of %.80q", e.State(), key)
		}
		if got, ok := e.Evict(); got != key || !ok || len(e.Ghosts()) != 0 {
			t.Errorf("Evict %.80q, not %.80q", got, key)
		}
	}
}

// fresh is a text of the test's own, which may be written over.
func fresh(text string) string { return strings.Clone(text) }

// blot writes over a text's bytes.
func blot(text string) {
	for i := range len(text) {
		unsafe.Slice(unsafe.StringData(text), len(text))[i] = '#'
	}
}

// P11.5, W6: what is answered is new memory: written over, lists, their spare room and texts, it changes nothing.
func TestAnswersWrittenOver(t *testing.T) {
	x := newPair(t, 5)
	pick := lots(7)
	for range 4000 {
		key := fresh("key" + strconv.Itoa(pick(16)))
		switch pick(8) {
		case 0:
			got, _ := x.e.Evict()
			want, _ := x.m.evict()
			if got != want {
				t.Fatalf("Evict %q, not %q", got, want)
			}
			blot(got)
		case 1:
			x.e.Load(key)
			x.m.load(fresh(key))
		default:
			_, got := x.e.Access(key)
			_, want := x.m.access(fresh(key))
			if !slices.Equal(got, want) {
				t.Fatalf("Access %q, not %q", got, want)
			}
			blotAll(got)
		}
		// What was handed in is the test's again, too.
		blot(key)
		x.same()
		blotAll(x.e.Keys())
		blotAll(x.e.Ghosts())
		blot(x.e.State())
		x.same()
	}
}

// blotAll writes over the texts, then over the list with all of its spare room.
func blotAll(list []string) {
	for _, text := range list {
		blot(text)
	}
	list = list[:cap(list)]
	for i := range list {
		list[i] = "###"
	}
}

// P11.5, W7: what was answered stays what it is.
func TestAnswersStay(t *testing.T) {
	e := twoq.New(6)
	pick := lots(11)
	var held [][]string
	var copies []string
	keep := func(list ...string) {
		held = append(held, list)
		copies = append(copies, fmt.Sprintf("%q", list))
	}
	for range 2000 {
		_, gone := e.Access("k" + strconv.Itoa(pick(20)))
		keep(gone...)
		keep(e.Keys()...)
		keep(e.Ghosts()...)
		keep(e.State())
		if pick(4) == 0 {
			key, _ := e.Evict()
			keep(key)
		}
	}
	for i, list := range held {
		if got := fmt.Sprintf("%q", list); got != copies[i] {
			t.Fatalf("answer %d: %s, not %s", i, got, copies[i])
		}
	}
}

// W6: no two answers share a text, nor does one share it with what was handed in.
func TestTextsAreNew(t *testing.T) {
	e := twoq.New(4)
	seen := map[*byte]int{}
	var all []string
	note := func(texts ...string) {
		for _, text := range texts {
			all = append(all, text)
			if seen[unsafe.StringData(text)]++; seen[unsafe.StringData(text)] > 1 {
				t.Fatalf("%q was answered before", text)
			}
		}
	}
	pick := lots(3)
	for range 500 {
		key := fresh("key" + strconv.Itoa(pick(12)))
		_, gone := e.Access(key)
		note(key)
		note(gone...)
		note(e.Keys()...)
		note(e.Keys()...)
		note(e.Ghosts()...)
		note(e.Ghosts()...)
		note(e.State(), e.State())
		if pick(5) == 0 {
			went, _ := e.Evict()
			note(went)
		}
	}
	runtime.KeepAlive(all)
}

// W6: the long text of which keys are pieces is free while the engine lives on.
func TestHandedInIsNotKept(t *testing.T) {
	e := twoq.New(4)
	long := strings.Repeat("key", 1<<16)
	weakly := weak.Make(unsafe.StringData(long))
	for i := range 9 {
		e.Access(long[i : 2*i])
		e.Access(long[i : 2*i])
		e.Access(long[i : 3*i])
		e.Load(long[i : i+5])
		e.Has(long[i:])
		e.Remove(long[i : i+2])
		e.Evict()
	}
	long = ""
	runtime.GC()
	if weakly.Value() != nil {
		t.Error("the long text is still held")
	}
	if e.Len()+len(e.Ghosts()) == 0 {
		t.Error("nothing is there")
	}
}

// W6, P11.1, P11.2: keys that are in no list any more are held no more.
func TestGoneIsNotHeld(t *testing.T) {
	const size = 1 << 22
	e := twoq.New(1)
	long := func(i int) string { return strings.Repeat(strconv.Itoa(i), size) }
	before := heap()
	for i := range 8 {
		e.Access(long(i))
	}
	// The last one, its ghost, and one that goes from Am by another one.
	e.Remove(long(7))
	e.Load(long(6))
	e.Access(long(8))
	e.Remove(long(8))
	if after := heap(); after > before+size/2 {
		t.Errorf("%d bytes are held, %d before", after, before)
	}
	if got := e.State(); got != "A1in:;A1out:;Am:" {
		t.Errorf("%.100s", got)
	}
}

func heap() uint64 {
	runtime.GC()
	var m runtime.MemStats
	runtime.ReadMemStats(&m)
	return m.HeapAlloc
}

// W2: two engines do not meet, and what is told hangs on the calls alone.
func TestTwoEngines(t *testing.T) {
	x, y, z := newPair(t, 3), newPair(t, 3), newPair(t, 7)
	pick := lots(5)
	for range 3000 {
		c := call{"+++++=-!"[pick(8)], "k" + strconv.Itoa(pick(12))}
		switch pick(3) {
		case 0:
			x.does(c)
		case 1:
			y.does(c)
		default:
			z.does(c)
		}
		x.same()
		y.same()
		z.same()
	}
}

// P11.5, W8: a nil Engine has nothing, and takes nothing.
func TestNilEngine(t *testing.T) {
	var e *twoq.Engine
	hasNothing(t, e)
	if e != nil {
		t.Error("nil no more")
	}
}

// W1: so does one that New did not make.
func TestZeroEngine(t *testing.T) { hasNothing(t, new(twoq.Engine)) }

func hasNothing(t *testing.T, e *twoq.Engine) {
	t.Helper()
	for range 2 {
		for _, key := range anyKeys() {
			hit, gone := e.Access(key)
			if hit || len(gone) != 0 || e.Load(key) || e.Has(key) || e.Remove(key) {
				t.Errorf("%.40q: %v %q", key, hit, gone)
			}
			if went, ok := e.Evict(); went != "" || ok {
				t.Errorf("Evict %q %v", went, ok)
			}
			if len(e.Keys()) != 0 || len(e.Ghosts()) != 0 || e.State() != "" || e.Len() != 0 || e.Room() != 0 {
				t.Errorf("%q %q %q %d %d", e.Keys(), e.Ghosts(), e.State(), e.Len(), e.Room())
			}
		}
	}
}

// W8: of an engine and its copy one may be used.
func TestCopied(t *testing.T) {
	x := newPair(t, 3)
	x.does(calls(once("gh") + "=a +b +c")...)
	engine := *x.e
	x.e = &engine
	x.same()
	x.does(calls("+g +d +b =h ! -a +a +h ! ! !")...)
}
