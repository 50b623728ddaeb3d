package shadow_test

import (
	"fmt"
	"runtime"
	"strconv"
	"strings"
	"testing"
	"unsafe"
	"weak"

	"hoard/api"
	"hoard/shadow"
)

// P17.1, P17.2, P17.3: all short rows of Accesses and Epochs on few keys.
func TestAllShortRows(t *testing.T) {
	all := calls("a b c d !")
	for _, k := range kinds {
		for room := 1; room <= 3; room++ {
			rows := 1
			for length := 1; length <= 6; length++ {
				rows *= len(all)
				for n := range rows {
					shortRow(t, k.kind, room, all, n, length)
				}
			}
		}
	}
}

// shortRow makes the n-th row of so many calls, and looks at what is told behind the last one.
func shortRow(t *testing.T, kind, room int, all []call, n, length int) {
	t.Helper()
	x := newPair(t, kind, room)
	for k := n; length > 0; k /= len(all) {
		x.quick(all[k%len(all)])
		length--
	}
	x.same()
	x.epoch()
	x.same()
}

// P17.1, P17.2, P17.3: long rows over few keys and over many.
func TestLongRows(t *testing.T) {
	for _, k := range kinds {
		for room := 1; room <= 12; room++ {
			for _, n := range []int{1, room, room + 1, 2 * room, 5*room + 1} {
				mixed(newPair(t, k.kind, room), numbered("k", n), 800)
			}
		}
		for _, room := range []int{minInt, -1, 0, 1, 2, 3, 10, 13, 20, 40} {
			mixed(newPair(t, k.kind, room), anyKeys(), 800)
		}
		for _, room := range []int{20, 33, 64} {
			mixed(newPair(t, k.kind, room), numbered("k", 3*room), 2000)
		}
		for _, room := range []int{100, api.MaxRoom - 1, api.MaxRoom, api.MaxRoom + 1, maxInt} {
			for _, n := range []int{min(room, api.MaxRoom) / 2, 3 * min(room, api.MaxRoom)} {
				mixed(newPair(t, k.kind, room), numbered("k", n), 8000)
			}
		}
	}
}

// mixed makes calls, mostly Accesses, of some of the keys more often than of others, with Epochs between, near and far.
func mixed(x *pair, keys []string, n int) {
	x.t.Helper()
	pick := lots(uint64(len(keys)))
	for i := range n {
		among := len(keys)
		if pick(2) == 0 {
			among = len(keys)/6 + 1
		}
		c := call{'+', keys[pick(among)]}
		if pick(40) == 0 && i/200%2 == 0 {
			c = call{what: '!'}
		}
		x.quick(c)
		if len(keys) < 200 || i%200 == 0 {
			x.same()
		}
	}
	x.epoch()
	x.same()
	x.epoch()
}

// P17.3: it is turned by the keys alone: one that is asked all the time, and whose epochs end, sees what one sees that is asked at last.
func TestAskedOrNot(t *testing.T) {
	for _, k := range kinds {
		for _, room := range []int{1, 2, 5, 16} {
			asked, other := made(t, k.kind, room), made(t, k.kind, room)
			pick := lots(uint64(room))
			for range 3000 {
				key := "k" + strconv.Itoa(pick(1+pick(4*room)))
				for range pick(3) {
					asked.Total()
					asked.State()
					asked.History()
					asked.Kind()
					asked.Epoch()
				}
				if asked.Access(key) != other.Access(key) {
					t.Fatalf("kind %d, room %d: Access(%s)", k.kind, room, key)
				}
			}
			if got, want := told(asked), told(other); got != want {
				t.Errorf("kind %d, room %d: %s, not %s", k.kind, room, got, want)
			}
			if other.Total() != other.Epoch() {
				t.Errorf("kind %d, room %d: one epoch is not all", k.kind, room)
			}
		}
	}
}

// told is all that a Shadow tells and that isn't of an epoch.
func told(s *shadow.Shadow) string {
	return fmt.Sprintf("%v %s %q %d", s.Total(), s.State(), s.History(), s.Kind())
}

// P17.3, W2: Shadows of one kind, and of unlike kinds, do not meet.
func TestNobodyMeets(t *testing.T) {
	for _, k := range kinds {
		for _, l := range kinds {
			for _, rooms := range [][2]int{{3, 3}, {2, 20}} {
				x, y := newPair(t, k.kind, rooms[0]), newPair(t, l.kind, rooms[1])
				pick := lots(uint64(10*k.kind + l.kind))
				for range 400 {
					c := call{'+', "k" + strconv.Itoa(pick(12))}
					if pick(15) == 0 {
						c = call{what: '!'}
					}
					if pick(2) == 0 {
						x.does(c)
						y.same()
					} else {
						y.does(c)
						x.same()
					}
				}
				x.epoch()
				y.epoch()
			}
		}
	}
}

// P17.3, W2: what is told hangs on the calls alone: told twice of the same, a Shadow answers the same.
func TestTwice(t *testing.T) {
	all := func(kind int) string {
		text := ""
		s := made(t, kind, 7)
		pick := lots(77)
		for range 1000 {
			text += fmt.Sprint(s.Access("k"+strconv.Itoa(pick(20)))) + told(s)
			if pick(9) == 0 {
				text += fmt.Sprint(s.Epoch())
			}
		}
		return text
	}
	for _, k := range kinds {
		first := all(k.kind)
		for range 3 {
			if all(k.kind) != first {
				t.Errorf("kind %d: not the same again", k.kind)
			}
		}
	}
}

// P17.1: each call of New makes a new one.
func TestEachIsNew(t *testing.T) {
	for _, k := range kinds {
		a, b := made(t, k.kind, 1), made(t, k.kind, 1)
		a.Access("a")
		a.Access("b")
		c := made(t, k.kind, 1)
		for _, s := range []*shadow.Shadow{b, c} {
			if s == a || s.Total() != (shadow.Counts{}) || s.State() != k.empty || len(s.History()) != 0 {
				t.Errorf("kind %d: %s", k.kind, told(s))
			}
		}
	}
}

// fresh is a text of the test's own, which may be written over.
func fresh(text string) string { return strings.Clone(text) }

// dataOf is a text's first byte.
func dataOf(text string) *byte { return unsafe.StringData(text) }

// blot writes over a text's bytes.
func blot(text string) {
	for i := range len(text) {
		unsafe.Slice(dataOf(text), len(text))[i] = '#'
	}
}

// blotAll writes over the texts, then over the list with all of its spare room.
func blotAll(list []string) {
	for _, text := range list {
		blot(text)
	}
	list = list[:cap(list)]
	for i := range list {
		list[i] = "###"
	}
}

// W6: what is answered is new memory, and what was handed in is neither changed nor kept: written over, it changes nothing.
func TestWrittenOver(t *testing.T) {
	for _, k := range kinds {
		for _, room := range []int{1, 2, 10, 17} {
			x := newPair(t, k.kind, room)
			pick := lots(7)
			for range 1500 {
				name := "key" + strconv.Itoa(pick(3*room))
				key := fresh(name)
				if got, want := x.s.Access(key), x.m.access(name); got != want {
					t.Fatalf("%s: Access(%s): %v", x.what, name, got)
				}
				if key != name {
					t.Fatalf("%s: %s was handed in, %s is there", x.what, name, key)
				}
				blot(key)
				x.same()
				blotAll(x.s.History())
				blot(x.s.State())
				x.same()
				// What is told of counts is a value of the caller's own.
				total := x.s.Total()
				total.All, total.Hits, total.Ghosts = 0, -1, -2
				x.same()
			}
			x.epoch()
		}
	}
}

// W6: no two answers share a text or a list, nor do they share one with what was handed in.
func TestTextsAreNew(t *testing.T) {
	for _, k := range kinds {
		seen := map[*byte]bool{}
		lists := map[*string]bool{}
		var all []any
		note := func(texts ...string) {
			for _, text := range texts {
				all = append(all, text)
				if seen[dataOf(text)] {
					t.Fatalf("kind %d: %q was answered before", k.kind, text)
				}
				seen[dataOf(text)] = true
			}
		}
		noteList := func(list []string) {
			if len(list) == 0 {
				return
			}
			note(list...)
			all = append(all, list)
			if lists[unsafe.SliceData(list)] {
				t.Fatalf("kind %d: the list %q was answered before", k.kind, list)
			}
			lists[unsafe.SliceData(list)] = true
		}
		s := made(t, k.kind, 4)
		pick := lots(3)
		for range 400 {
			key := fresh("key" + strconv.Itoa(pick(12)))
			s.Access(key)
			note(key)
			noteList(s.History())
			noteList(s.History())
			note(s.State(), s.State())
		}
		runtime.KeepAlive(all)
	}
}

// W7: what was answered stays what it is, whatever is called later.
func TestAnswersStay(t *testing.T) {
	for _, k := range kinds {
		s := made(t, k.kind, 6)
		pick := lots(11)
		type answer struct {
			state        string
			history      []string
			total, epoch shadow.Counts
		}
		var held []answer
		var copies []string
		for range 1000 {
			s.Access("k" + strconv.Itoa(pick(15)))
			a := answer{state: s.State(), history: s.History(), total: s.Total()}
			if pick(5) == 0 {
				a.epoch = s.Epoch()
			}
			held = append(held, a)
			copies = append(copies, fmt.Sprintf("%q", []any{a}))
		}
		for i, a := range held {
			if got := fmt.Sprintf("%q", []any{a}); got != copies[i] {
				t.Fatalf("kind %d, answer %d: %s, not %s", k.kind, i, got, copies[i])
			}
		}
	}
}

// W6: the long text of which keys are pieces is free while the Shadow lives on.
func TestHandedInIsNotKept(t *testing.T) {
	for _, k := range kinds {
		s := made(t, k.kind, 4)
		long := strings.Repeat("key", 1<<16)
		weakly := weak.Make(unsafe.StringData(long))
		for i := range 40 {
			s.Access(long[i : 2*i])
			s.Access(long[i : 2*i])
			s.Access(long[i/3 : i])
		}
		long = ""
		runtime.GC()
		if weakly.Value() != nil {
			t.Errorf("kind %d: the long text is still held", k.kind)
		}
		if len(s.History()) == 0 {
			t.Errorf("kind %d: nothing went", k.kind)
		}
	}
}

// P17.1: what a Shadow holds does not grow with the number of keys that came, nor with that of epochs.
func TestHoldsNoMore(t *testing.T) {
	for _, k := range kinds {
		s := made(t, k.kind, 10)
		before := heap()
		for i := range 1 << 16 {
			s.Access("key" + strconv.Itoa(i))
			s.Access("key" + strconv.Itoa(i-i%20))
			if i%50 == 0 {
				s.Epoch()
			}
		}
		if after := heap(); after > before+1<<18 {
			t.Errorf("kind %d: %d bytes are held, %d before", k.kind, after, before)
		}
		runtime.KeepAlive(s)
	}
}

func heap() uint64 {
	runtime.GC()
	var m runtime.MemStats
	runtime.ReadMemStats(&m)
	return m.HeapAlloc
}

// W2: a Shadow that nobody has any more is held by nobody else.
func TestShadowsAreNotHeld(t *testing.T) {
	for _, k := range kinds {
		s := made(t, k.kind, 3)
		weakly := weak.Make(s)
		s.Access("a")
		s = nil
		runtime.GC()
		if weakly.Value() != nil {
			t.Errorf("kind %d: it is still held", k.kind)
		}
	}
}

// W8: of a Shadow and its copy one may be used.
func TestCopied(t *testing.T) {
	for _, k := range kinds {
		x := newPair(t, k.kind, 3)
		x.does(calls("a b c a d e a")...)
		s := *x.s
		x.s = &s
		x.same()
		x.does(calls("d b ! a e f f d a b c ! !")...)
	}
}
