package sketch_test

import (
	"math"
	"runtime"
	"slices"
	"strconv"
	"strings"
	"testing"
	"unsafe"
	"weak"

	"hoard/api"
	"hoard/mix"
	"hoard/sketch"
)

// widths is all that a row may have.
func widths() []int { return []int{8, 16, 32, 64, 128, 256, 512, 1024} }

// plain is what the document says of a sketch, in plain numbers, one a cell.
type plain struct {
	rows [4][]int
	sum  int
}

// cells is where a key's four cells are.
func (p *plain) cells(key string) [4]*int {
	var cells [4]*int
	for i, seed := range []uint64{1, 2, 3, 4} {
		cells[i] = &p.rows[i][mix.Hash(seed, key)%uint64(len(p.rows[i]))]
	}
	return cells
}

func (p *plain) count(key string) int {
	c := p.cells(key)
	return min(*c[0], *c[1], *c[2], *c[3])
}

func (p *plain) add(key string) {
	least := p.count(key)
	if least >= 15 {
		return
	}
	for _, c := range p.cells(key) {
		if *c == least {
			*c++
		}
	}
	p.sum++
	if p.sum == 10*len(p.rows[0]) {
		p.halve()
	}
}

func (p *plain) halve() {
	for _, row := range p.rows {
		for i := range row {
			row[i] /= 2
		}
	}
	p.sum /= 2
}

// pair is a sketch and the plain one, which are told of the same.
type pair struct {
	t *testing.T
	s *sketch.Sketch
	p plain
}

func newPair(t *testing.T, width int) *pair {
	x := &pair{t: t, s: sketch.New(width)}
	for i := range x.p.rows {
		x.p.rows[i] = make([]int, width)
	}
	return x
}

func (x *pair) add(keys ...string) {
	x.t.Helper()
	for _, key := range keys {
		x.s.Add(key)
		x.p.add(key)
		if x.s.Sum() != x.p.sum {
			x.t.Fatalf("Sum behind Add(%.40q): %d, not %d", key, x.s.Sum(), x.p.sum)
		}
		x.count(key)
	}
}

func (x *pair) count(keys ...string) {
	x.t.Helper()
	for _, key := range keys {
		if got, want := x.s.Count(key), x.p.count(key); got != want {
			x.t.Fatalf("Count(%.40q): %d, not %d", key, got, want)
		}
	}
}

func (x *pair) halve() {
	x.t.Helper()
	x.s.Halve()
	x.p.halve()
	x.same()
}

// same holds all that a sketch tells against the plain one, twice: to be asked changes nothing.
func (x *pair) same(keys ...string) {
	x.t.Helper()
	for range 2 {
		if x.s.Sum() != x.p.sum {
			x.t.Fatalf("Sum: %d, not %d", x.s.Sum(), x.p.sum)
		}
		if got, want := x.s.Cells(), slices.Concat(x.p.rows[:]...); !slices.Equal(got, want) {
			x.t.Fatalf("Cells: %v, not %v", got, want)
		}
		x.count(keys...)
	}
}

// times is one key so often.
func times(key string, n int) []string { return slices.Repeat([]string{key}, n) }

// numbered is so many keys.
func numbered(n int) []string {
	keys := make([]string, n)
	for i := range keys {
		keys[i] = "k" + strconv.Itoa(i)
	}
	return keys
}

// meets is in which rows two keys have one cell: bit i for row i.
func meets(width int, a, b string) int {
	rows := 0
	for i := range 4 {
		if (mix.Hash(uint64(i+1), a)-mix.Hash(uint64(i+1), b))%uint64(width) == 0 {
			rows |= 1 << i
		}
	}
	return rows
}

// meeting is so many keys that meet a key in just those rows.
func meeting(width int, key string, rows, n int) []string {
	var keys []string
	for i := 0; len(keys) < n; i++ {
		if other := "m" + strconv.Itoa(i); meets(width, key, other) == rows {
			keys = append(keys, other)
		}
	}
	return keys
}

// P7.1: the document's example.
func TestExample(t *testing.T) {
	s := sketch.New(8)
	s.Add("a")
	s.Add("a")
	if n := s.Count("a"); n != 2 {
		t.Errorf("Count: %d", n)
	}
}

// P7.1, P7.2: how many cells a row has, at each room and far off; all are 0 at first, and so is Sum.
func TestRooms(t *testing.T) {
	for _, x := range []struct{ room, width int }{
		{math.MinInt, 8}, {math.MinInt + 1, 8}, {-(1 << 32), 8}, {-1024, 8}, {-9, 8}, {-8, 8}, {-1, 8}, {0, 8}, {1, 8}, {2, 8}, {4, 8}, {7, 8},
		{8, 8}, {9, 16}, {15, 16}, {16, 16}, {17, 32}, {31, 32}, {32, 32}, {33, 64}, {64, 64}, {65, 128}, {100, 128}, {128, 128}, {129, 256},
		{256, 256}, {257, 512}, {511, 512}, {512, 512}, {513, 1024}, {1000, 1024},
		{api.MaxRoom - 1, 1024}, {api.MaxRoom, 1024}, {api.MaxRoom + 1, 1024}, {2 * api.MaxRoom, 1024}, {2*api.MaxRoom + 1, 1024},
		{1 << 20, 1024}, {1 << 32, 1024}, {1<<32 + 1, 1024}, {1 << 62, 1024}, {math.MaxInt - 1, 1024}, {math.MaxInt, 1024},
	} {
		isNew(t, x.room, x.width)
	}
	for room := -20; room < 3*api.MaxRoom; room++ {
		width := 8
		for width < room && width < 1024 {
			width += width
		}
		isNew(t, room, width)
	}
}

// isNew tells whether a new sketch has so many cells a row and has counted nothing.
func isNew(t *testing.T, room, width int) {
	t.Helper()
	s := sketch.New(room)
	if s == nil {
		t.Fatalf("New(%d): none", room)
	}
	cells := s.Cells()
	if len(cells) != 4*width {
		t.Fatalf("New(%d): %d cells, not %d", room, len(cells), 4*width)
	}
	if slices.Max(cells) != 0 || slices.Min(cells) != 0 || s.Sum() != 0 {
		t.Fatalf("New(%d): %v, Sum %d", room, cells, s.Sum())
	}
	for _, key := range []string{"", "a", "b", "\xff"} {
		if n := s.Count(key); n != 0 {
			t.Fatalf("New(%d): Count(%q): %d", room, key, n)
		}
	}
}

// P7.1: sketches of rooms that lead to one width are alike in all that they tell; Sum is halved by the width, not by the room.
func TestRoomsOfOneWidth(t *testing.T) {
	for _, x := range []struct {
		width int
		rooms []int
	}{{8, []int{math.MinInt, -1, 0, 1, 3, 7, 8}}, {16, []int{9, 10, 15, 16}}, {1024, []int{513, 1023, 1024, 1025, 5000, math.MaxInt}}} {
		for _, room := range x.rooms {
			p := newPair(t, x.width)
			p.s = sketch.New(room)
			for i := range 12 * x.width {
				p.add("k" + strconv.Itoa(i%(3*x.width)))
			}
			p.same("k0", "none")
		}
	}
}

// allBytes is all bytes, many times.
func allBytes() string {
	all := make([]byte, 4096)
	for i := range all {
		all[i] = byte(i)
	}
	return string(all)
}

// P7.1, P7.2: the cell of a key in each row, and Cells row by row; from a reckoning outside of the program.
func TestCellsKnown(t *testing.T) {
	for _, x := range []struct {
		key   string
		width int
		want  [4]int
	}{
		{"", 8, [4]int{5, 2, 0, 4}}, {"", 16, [4]int{5, 10, 0, 4}}, {"", 1024, [4]int{485, 138, 240, 276}},
		{"a", 8, [4]int{1, 6, 3, 2}}, {"a", 16, [4]int{1, 14, 3, 10}}, {"a", 1024, [4]int{433, 894, 179, 874}},
		{"b", 8, [4]int{5, 7, 2, 1}}, {"b", 16, [4]int{5, 15, 2, 9}}, {"b", 1024, [4]int{277, 767, 82, 697}},
		{"\x00", 8, [4]int{7, 2, 6, 7}}, {"\x00", 16, [4]int{15, 2, 14, 15}}, {"\x00", 1024, [4]int{431, 386, 350, 271}},
		{"user:42", 8, [4]int{0, 1, 1, 3}}, {"user:42", 16, [4]int{0, 1, 9, 11}}, {"user:42", 1024, [4]int{368, 785, 793, 699}},
		{"user:43", 8, [4]int{6, 3, 6, 1}}, {"user:43", 16, [4]int{14, 11, 14, 1}}, {"user:43", 1024, [4]int{558, 475, 414, 129}},
		{strings.Repeat("k", 24), 8, [4]int{0, 0, 4, 0}}, {strings.Repeat("k", 24), 1024, [4]int{224, 680, 756, 888}},
		{strings.Repeat("k", 25), 8, [4]int{7, 5, 4, 4}}, {strings.Repeat("k", 25), 1024, [4]int{343, 653, 500, 124}},
		{"é", 8, [4]int{4, 1, 4, 4}}, {"é", 1024, [4]int{628, 153, 660, 324}},
		{"\xff\xfe", 8, [4]int{4, 5, 1, 1}}, {"\xff\xfe", 1024, [4]int{708, 669, 57, 801}},
		{allBytes(), 8, [4]int{7, 0, 0, 3}}, {allBytes(), 16, [4]int{7, 0, 0, 11}}, {allBytes(), 1024, [4]int{983, 960, 432, 907}},
	} {
		s := sketch.New(x.width)
		want := make([]int, 4*x.width)
		for n := range 15 {
			s.Add(x.key)
			for row, at := range x.want {
				want[row*x.width+at] = n + 1
			}
			if got := s.Cells(); !slices.Equal(got, want) {
				t.Fatalf("%.20q, %d cells a row, %d times: %v", x.key, x.width, n+1, got)
			}
		}
	}
}

// P7.1: two keys whose cells are known, one of them meeting the other one nowhere, written out whole.
func TestTwoKeysWrittenOut(t *testing.T) {
	s := sketch.New(8)
	for _, key := range []string{"a", "b", "a", "a", "b"} {
		s.Add(key)
	}
	want := []int{
		0, 3, 0, 0, 0, 2, 0, 0,
		0, 0, 0, 0, 0, 0, 3, 2,
		0, 0, 2, 3, 0, 0, 0, 0,
		0, 2, 3, 0, 0, 0, 0, 0,
	}
	if got := s.Cells(); !slices.Equal(got, want) || s.Sum() != 5 {
		t.Errorf("%v, Sum %d", got, s.Sum())
	}
}

// P7.1: by an Add only those of the four cells go up that are the least: keys that meet in each choice of rows, at each two counts.
func TestOnlyTheLeastGoUp(t *testing.T) {
	const width = 8
	for rows := range 16 {
		other := meeting(width, "a", rows, 1)[0]
		for first := range 16 {
			for second := range 16 {
				x := newPair(t, width)
				x.add(times("a", first)...)
				x.add(times(other, second)...)
				x.same("a", other)
				// The other's own cells have its own count; the shared ones what either of both reached.
				own, shared := second, max(first, second)
				if rows == 15 {
					own, shared = min(first+second, 15), min(first+second, 15)
				}
				cells := x.s.Cells()
				for row := range 4 {
					at := row*width + mix.Place(mix.Hash(uint64(row)+1, other), width)
					want := own
					if rows>>row&1 == 1 {
						want = shared
					}
					if cells[at] != want {
						t.Fatalf("rows %04b, %d and %d: row %d has %d, not %d", rows, first, second, row, cells[at], want)
					}
				}
			}
		}
	}
}

// P7.1: an Add that finds one, two, three or four of its cells at the least, each choice of them: the others stay.
func TestLeastAmongOthers(t *testing.T) {
	const width = 16
	for rows := range 15 {
		x := newPair(t, width)
		for row := range 4 {
			if rows>>row&1 == 1 {
				x.add(times(meeting(width, "a", 1<<row, 1)[0], 2+row)...)
			}
		}
		for n := range 7 {
			before := x.s.Cells()
			sum := x.s.Sum()
			x.add("a")
			raised := 0
			for i, c := range x.s.Cells() {
				if c != before[i] {
					raised++
				}
				if c != before[i] && (before[i] != n || c != n+1) {
					t.Fatalf("rows %04b: cell %d goes from %d to %d by Add %d", rows, i, before[i], c, n)
				}
			}
			want := 4
			for row := range 4 {
				if rows>>row&1 == 1 && 2+row > n {
					want--
				}
			}
			if raised != want || x.s.Sum() != sum+1 || x.s.Count("a") != n+1 {
				t.Fatalf("rows %04b, Add %d: %d go up, not %d; Sum %d, Count %d", rows, n, raised, want, x.s.Sum(), x.s.Count("a"))
			}
		}
		x.same("a")
	}
}

// P7.1: up to 15 each Add counts; at 15 an Add changes neither a cell nor Sum, at each width and however often.
func TestFifteen(t *testing.T) {
	for _, width := range widths() {
		for _, key := range []string{"", "a", "b", "\x00", strings.Repeat("k", 24)} {
			x := newPair(t, width)
			for i := range 15 {
				if x.s.Count(key) != i || x.s.Sum() != i {
					t.Fatalf("Count %d and Sum %d behind %d", x.s.Count(key), x.s.Sum(), i)
				}
				x.add(key)
				x.same(key)
			}
			want := x.s.Cells()
			for i := range 20 * width {
				x.s.Add(key)
				if x.s.Count(key) != 15 || x.s.Sum() != 15 {
					t.Fatalf("Count %d and Sum %d behind %d more", x.s.Count(key), x.s.Sum(), i+1)
				}
			}
			if got := x.s.Cells(); !slices.Equal(got, want) {
				t.Fatalf("%v, not %v", got, want)
			}
		}
	}
}

// P7.1: with the least at 14 only the cells at 14 go up, and those at 15 stay; with the least at 15 nothing does.
func TestFourteenAmongFifteen(t *testing.T) {
	const width = 16
	for rows := 1; rows < 15; rows++ {
		other := meeting(width, "a", rows, 1)[0]
		x := newPair(t, width)
		x.add(times("a", 15)...)
		x.add(times(other, 14)...)
		before := x.s.Cells()
		x.add(other)
		x.same("a", other)
		if x.s.Count("a") != 15 || x.s.Count(other) != 15 || x.s.Sum() != 30 {
			t.Fatalf("rows %04b: %d, %d, Sum %d", rows, x.s.Count("a"), x.s.Count(other), x.s.Sum())
		}
		full := x.s.Cells()
		for i := range full {
			if before[i] == 14 && full[i] != 15 || before[i] != 14 && full[i] != before[i] {
				t.Fatalf("rows %04b: cell %d goes from %d to %d", rows, i, before[i], full[i])
			}
		}
		for range 100 {
			x.add("a", other)
		}
		if x.s.Sum() != 30 || !slices.Equal(x.s.Cells(), full) {
			t.Fatalf("rows %04b: Sum %d, %v", rows, x.s.Sum(), x.s.Cells())
		}
	}
}

// P7.1: cells that lie side by side, at 15 and below: none runs into the other.
func TestNeighbours(t *testing.T) {
	const width = 8
	for first := range 8 {
		for second := range 8 {
			a, b := inFirstRow(width, first, 0), inFirstRow(width, second, 1)
			for n := range 17 {
				x := newPair(t, width)
				x.add(times(a, 17)...)
				x.add(times(b, n)...)
				x.same(a, b)
				x.halve()
				x.add(times(b, 17)...)
				x.same(a, b)
			}
		}
	}
}

// inFirstRow is a key whose cell in row 0 is that; turn tells which of them.
func inFirstRow(width, at, turn int) string {
	for i := 0; ; i++ {
		key := "f" + strconv.Itoa(i)
		if mix.Place(mix.Hash(1, key), width) != at {
			continue
		}
		if turn == 0 {
			return key
		}
		turn--
	}
}

// P7.1: the Add by which Sum is ten times the cells of a row halves, at each width, again and again; none ahead of it does.
func TestHalvedWhenFull(t *testing.T) {
	for _, width := range widths() {
		for _, many := range []int{2 * width, 5 * width, 40 * width} {
			x := newPair(t, width)
			halved, added := 0, 0
			for i := 0; halved < 4; i++ {
				before, sum := x.s.Cells(), x.s.Sum()
				x.add("k" + strconv.Itoa(i*7%many))
				switch {
				case x.s.Sum() < sum:
					halved++
					if sum != 10*width-1 || x.s.Sum() != 5*width {
						t.Fatalf("%d cells a row: Sum goes from %d to %d", width, sum, x.s.Sum())
					}
					x.same("k0", "none")
					fellByHalf(t, before, x.s.Cells())
				case x.s.Sum() > 10*width-1:
					t.Fatalf("%d cells a row: Sum is %d", width, x.s.Sum())
				}
				if added++; added > 400*width {
					t.Fatalf("%d cells a row, %d keys: halved %d times", width, many, halved)
				}
			}
		}
	}
}

// fellByHalf tells whether each cell is half of what it was, or half of one more for the at most four that were raised ahead.
func fellByHalf(t *testing.T, before, after []int) {
	t.Helper()
	raised := 0
	for i := range before {
		if after[i] == before[i]/2 {
			continue
		}
		if raised++; after[i] != (before[i]+1)/2 || raised > 4 {
			t.Fatalf("cell %d goes from %d to %d", i, before[i], after[i])
		}
	}
}

// almostFull is a pair whose Sum wants one more to be ten times the cells of a row, by other keys than those of which a test asks.
func almostFull(t *testing.T, width int, keys ...string) *pair {
	t.Helper()
	x := newPair(t, width)
	x.add(keys...)
	for i := 0; x.p.sum < 10*width-1; i++ {
		if i > 1000*width {
			t.Fatal("the cells are full")
		}
		x.add("o" + strconv.Itoa(i%(30*width)))
	}
	return x
}

// P7.1: the key whose Add halves is counted first and halved then, with each count it may have.
func TestCountedThenHalved(t *testing.T) {
	for _, width := range []int{16, 64, 1024} {
		for n := range 15 {
			x := almostFull(t, width, times("a", n)...)
			was := x.s.Count("a")
			if was == 15 {
				t.Fatalf("%d cells a row: no Add counts any more", width)
			}
			x.add("a")
			if x.s.Count("a") != (was+1)/2 || x.s.Sum() != 5*width {
				t.Fatalf("%d cells a row: Count goes from %d to %d, Sum is %d", width, was, x.s.Count("a"), x.s.Sum())
			}
			x.same("a", "o1")
		}
	}
}

// P7.1: with one less than ten times the cells of a row an Add at 15 does not halve, and neither does a Count.
func TestNotHalvedByWhatDoesNotCount(t *testing.T) {
	for _, width := range []int{8, 16, 256} {
		x := almostFull(t, width, times("a", 15)...)
		for range 50 {
			x.add("a")
			x.s.Count("o3")
		}
		x.same("a")
		if x.s.Sum() != 10*width-1 || x.s.Count("a") != 15 {
			t.Fatalf("Sum %d, Count %d", x.s.Sum(), x.s.Count("a"))
		}
	}
}

// P7.1: Sum counts Adds from where a Halve left it: the next Halve comes by Sum, not by how many Adds there were.
func TestSumAheadOfHalves(t *testing.T) {
	const width = 32
	for ahead := range 40 {
		x := newPair(t, width)
		x.add(numbered(ahead)...)
		x.halve()
		left := 10*width - ahead/2
		for i := range left - 1 {
			x.add("n" + strconv.Itoa(i))
			if x.s.Sum() != ahead/2+i+1 {
				t.Fatalf("Sum %d behind %d", x.s.Sum(), i+1)
			}
		}
		x.add("last")
		if x.s.Sum() != 5*width {
			t.Fatalf("%d ahead: Sum %d", ahead, x.s.Sum())
		}
		x.same("last", "n0")
	}
}

// P7.2: each cell is half of what it was, rounded down, from 0 to 15; Sum likewise, which is not what the cells are together.
func TestHalve(t *testing.T) {
	for n, want := range []int{0, 0, 1, 1, 2, 2, 3, 3, 4, 4, 5, 5, 6, 6, 7, 7} {
		for _, width := range widths() {
			x := newPair(t, width)
			x.add(times("a", n)...)
			x.halve()
			cells := x.s.Cells()
			if x.s.Count("a") != want || x.s.Sum() != want || slices.Max(cells) != want {
				t.Fatalf("%d: Count %d, Sum %d, %v", n, x.s.Count("a"), x.s.Sum(), cells)
			}
		}
	}
}

// P7.2: odd and even cells in one sketch, and an odd Sum of even cells, halved until nothing is left.
func TestHalveAgainAndAgain(t *testing.T) {
	for _, width := range []int{8, 16, 128, 1024} {
		x := newPair(t, width)
		for i, key := range numbered(3 * width / 4) {
			x.add(times(key, i%9)...)
			x.same(key)
		}
		for range 6 {
			x.halve()
			x.same(numbered(10)...)
		}
		for x.p.sum > 0 {
			x.halve()
		}
		if slices.Max(x.s.Cells()) != 0 || x.s.Sum() != 0 {
			t.Fatalf("%v, Sum %d", x.s.Cells(), x.s.Sum())
		}
		x.halve()
		x.add("a")
		x.same("a", "k1")
	}
}

// P7.2: Sum is halved by itself: three keys once each are 3 and then 1, while all cells are 0.
func TestHalveOfSum(t *testing.T) {
	x := newPair(t, 1024)
	x.add("a", "b", "user:42")
	x.halve()
	if x.s.Sum() != 1 || slices.Max(x.s.Cells()) != 0 {
		t.Errorf("Sum %d, %v", x.s.Sum(), slices.Max(x.s.Cells()))
	}
	x.add("a")
	if x.s.Sum() != 2 || x.s.Count("a") != 1 || x.s.Count("b") != 0 {
		t.Errorf("Sum %d, Counts %d and %d", x.s.Sum(), x.s.Count("a"), x.s.Count("b"))
	}
}

// P7.2: a Halve of what counted nothing changes nothing.
func TestHalveOfNothing(t *testing.T) {
	for _, width := range widths() {
		x := newPair(t, width)
		for range 3 {
			x.halve()
			x.same("", "a")
		}
		x.add("a", "a", "a")
		x.same("", "a")
	}
}

// P7.1: the Count of a key that was never Added is 0 while one of its cells is, and else the least that others left there.
func TestCountOfNever(t *testing.T) {
	const width = 8
	x := newPair(t, width)
	for row := range 4 {
		if n := x.s.Count("never"); n != 0 {
			t.Fatalf("Count: %d, with %d cells taken", n, row)
		}
		x.add(times(meeting(width, "never", 1<<row, 1)[0], 3+2*row)...)
		x.same("never")
	}
	if n := x.s.Count("never"); n != 3 {
		t.Fatalf("Count: %d, not 3", n)
	}
	x.add(times("never", 2)...)
	x.same("never")
	if n := x.s.Count("never"); n != 5 {
		t.Fatalf("Count: %d, not 5", n)
	}
}

// P7.1: keys that meet in all four cells count as one.
func TestKeysOfOneCount(t *testing.T) {
	const width = 8
	keys := meeting(width, "a", 15, 3)
	x := newPair(t, width)
	for i := range 15 {
		x.add(keys[i%3])
		x.same(append(keys, "a")...)
		if x.s.Count("a") != i+1 || x.s.Sum() != i+1 {
			t.Fatalf("Count %d, Sum %d behind %d", x.s.Count("a"), x.s.Sum(), i+1)
		}
	}
	x.add("a")
	if x.s.Count("a") != 15 || x.s.Sum() != 15 {
		t.Fatalf("Count %d, Sum %d", x.s.Count("a"), x.s.Sum())
	}
}

// P7.1: the empty text is a key as all others.
func TestEmptyText(t *testing.T) {
	for _, width := range widths() {
		x := newPair(t, width)
		x.add("a", "", "", "\x00")
		x.same("", "a", "\x00")
		x.halve()
		x.add(times("", 16)...)
		x.same("", "a", "\x00")
		if n := x.s.Count(""); n != 15 {
			t.Fatalf("Count: %d", n)
		}
	}
}

// P7.1: keys that are alike but for their last letter, or by their length alone, are keys apart.
func TestAlikeKeys(t *testing.T) {
	for _, stem := range []string{"", "a", "user:", strings.Repeat("k", 23), strings.Repeat("k", 24), strings.Repeat("\x00", 7), strings.Repeat("é", 100), strings.Repeat("k", 5000)} {
		x := newPair(t, 1024)
		var keys []string
		for last := range 256 {
			keys = append(keys, stem+string([]byte{byte(last)}))
		}
		keys = append(keys, stem, stem+"aa", stem+"\x00\x00", "a"+stem+"b", "b"+stem+"a")
		for i, key := range keys {
			x.add(times(key, i%4)...)
		}
		x.same(keys...)
		one := sketch.New(1024)
		one.Add(stem + "a")
		if one.Count(stem+"a") != 1 || one.Count(stem+"b") != 0 || one.Count(stem) != 0 {
			t.Errorf("%.20q: alike keys meet", stem)
		}
	}
}

// P7.1: long keys, that part at their beginning, their middle or their end.
func TestLongKeys(t *testing.T) {
	x := newPair(t, 256)
	for _, n := range []int{25, 255, 256, 257, 4096, 1<<16 - 1, 1 << 16, 1<<16 + 1, 1 << 20} {
		half := strings.Repeat("x", n/2)
		keys := []string{strings.Repeat("x", n), "y" + half + half, half + "y" + half, half + half + "y", strings.Repeat("\xff", n), strings.Repeat("\x00", n)}
		x.add(keys...)
		x.same(keys...)
		one := sketch.New(1024)
		one.Add(keys[0])
		for _, key := range keys[1:] {
			if one.Count(key) != 0 || one.Count(keys[0]) != 1 {
				t.Errorf("long keys of %d meet", n)
			}
		}
	}
}

// P7.1: keys of any bytes, each key of one byte and of two.
func TestAnyBytes(t *testing.T) {
	x := newPair(t, 1024)
	for i := range 1 << 16 {
		x.add(string([]byte{byte(i >> 8), byte(i)}))
		if i < 256 {
			x.add(string([]byte{byte(i)}))
		}
		if i%1021 == 0 {
			x.same("", "a", "\xff", "\xff\xff", "\x00\x01")
		}
	}
	x.same("", "a", "\xff", "\xff\xff")
}

// lots is numbers that look drawn, but are told by the seed.
func lots(seed uint64) func(n int) int {
	x := seed*0x9e3779b97f4a7c15 + 1
	return func(n int) int {
		x = x*6364136223846793005 + 1442695040888963407
		return int((x >> 33) % uint64(n))
	}
}

// P7.1, P7.2: long rows of mixed calls, of few keys and of many, some of them far more often than others.
func TestLongRows(t *testing.T) {
	for _, width := range []int{8, 16, 32, 128, 1024} {
		for _, many := range []int{1, 5, width, 10 * width} {
			lot := lots(uint64(width + many))
			x := newPair(t, width)
			for i := range 60 * width {
				switch n := lot(100 * width); {
				case n == 0:
					x.halve()
				case n < 60*width:
					x.add("k" + strconv.Itoa(lot(many)))
				default:
					x.add("k" + strconv.Itoa(min(lot(many), lot(many), lot(many))))
				}
				x.count("k"+strconv.Itoa(lot(many)), "none")
				if width < 64 || i%199 == 0 {
					x.same()
				}
			}
			x.same("k0", "k1", "none")
		}
	}
}

// P7.1, P7.2: all rows of seven calls of two keys that meet in some rows, of one that meets neither, and of Halve.
func TestAllShortRows(t *testing.T) {
	const long, calls = 7, 4
	b := meeting(8, "a", 0b0110, 1)[0]
	c := meeting(8, "a", 0, 1)[0]
	for row := range 1 << (2 * long) {
		x := newPair(t, 8)
		for range long {
			if call := row % calls; call == 0 {
				x.halve()
			} else {
				x.add([]string{"a", b, c}[call-1])
			}
			row /= calls
			x.same("a", b, c)
		}
	}
}

// P7.3: without a Halve Count is at most 15, and not below how often the key was Added, held at 15; also of keys that were never Added.
func TestCountWithoutHalve(t *testing.T) {
	for _, width := range widths() {
		for _, many := range []int{1, 3, width / 2, 2 * width, 20 * width} {
			lot := lots(uint64(width*many + 1))
			s := sketch.New(width)
			added := map[string]int{}
			for i := 0; i < 30*width && s.Sum() < 10*width-1; i++ {
				key := "k" + strconv.Itoa(min(lot(many), lot(many)))
				s.Add(key)
				added[key]++
				if n := s.Count(key); n > 15 || n < min(added[key], 15) {
					t.Fatalf("%d cells a row: Count %d of a key that was Added %d times", width, n, added[key])
				}
			}
			for _, key := range append(numbered(many), "", "never", "a") {
				if n := s.Count(key); n > 15 || n < min(added[key], 15) {
					t.Fatalf("%d cells a row: Count %d of a key that was Added %d times", width, n, added[key])
				}
			}
		}
	}
}

// P7.3: a key far beyond 15 among others counts 15, and all that counts alone counts what it was Added.
func TestCountAlone(t *testing.T) {
	for n := range 40 {
		s := sketch.New(api.MaxRoom)
		for range n {
			s.Add("user:42")
		}
		if got := s.Count("user:42"); got != min(n, 15) {
			t.Errorf("Count %d of %d", got, n)
		}
		if got := s.Count("user:43"); got != 0 {
			t.Errorf("Count %d of a key that was never Added", got)
		}
	}
}

// W6: an answer of Cells that is written over, or grown, changes neither the sketch nor another answer.
func TestCellsWrittenOver(t *testing.T) {
	for _, width := range widths() {
		x := newPair(t, width)
		for i := range 5 {
			x.add(numbered(4 + i)...)
			a, b := x.s.Cells(), x.s.Cells()
			want := slices.Clone(b)
			whole := a[:cap(a)]
			for i := range whole {
				whole[i] = -7
			}
			a = append(a, 100)
			a[0] = 200
			if !slices.Equal(b, want) {
				t.Fatalf("the other answer is %v", b)
			}
			x.same("k0", "none")
		}
		x.halve()
		x.same("k0", "none")
	}
}

// W7: an answer of Cells stays what it is, whatever is called later.
func TestCellsStay(t *testing.T) {
	x := newPair(t, 8)
	var answers, held [][]int
	for i := range 200 {
		answers = append(answers, x.s.Cells())
		held = append(held, slices.Concat(x.p.rows[:]...))
		if i%29 == 28 {
			x.halve()
		} else {
			x.add("k" + strconv.Itoa(i*i%37))
		}
	}
	for i := range answers {
		if !slices.Equal(answers[i], held[i]) {
			t.Fatalf("answer %d is %v, not %v", i, answers[i], held[i])
		}
	}
}

// W2: two sketches that were told of the same tell the same, and two that were told of other things do not meet.
func TestTwoSketches(t *testing.T) {
	for _, width := range widths() {
		p, q, r := newPair(t, 16), newPair(t, width), newPair(t, 16)
		for i := range 400 {
			p.add("k" + strconv.Itoa(i%50))
			r.add("k" + strconv.Itoa(i%50))
			q.same("k0")
			if i%3 == 0 {
				q.add("k"+strconv.Itoa(i%7), "q")
				p.same("q", "k1")
			}
			if i%101 == 100 {
				q.halve()
				p.same("k1")
				p.halve()
				r.same("k1")
				r.halve()
			}
			if !slices.Equal(p.s.Cells(), r.s.Cells()) || p.s.Sum() != r.s.Sum() {
				t.Fatal("two that were told of the same")
			}
		}
	}
}

// W6: a key that was handed in is not kept: the long text, of which it is a piece, is free while the sketch lives on.
func TestHandedInIsNotKept(t *testing.T) {
	s := sketch.New(8)
	long := strings.Repeat("key", 1<<16)
	weakly := weak.Make(unsafe.StringData(long))
	for i := range 9 {
		s.Add(long[i : 2*i])
		s.Count(long[i:])
	}
	long = ""
	runtime.GC()
	if weakly.Value() != nil {
		t.Error("the long text is still held")
	}
	runtime.KeepAlive(s)
}

// P7.3, W8: a nil Sketch counts nothing, in each call and in whatever order.
func TestNilSketch(t *testing.T) {
	var s *sketch.Sketch
	countsNothing(t, s)
}

// A Sketch that New did not make has no cells: it counts nothing.
func TestZeroSketch(t *testing.T) { countsNothing(t, new(sketch.Sketch)) }

func countsNothing(t *testing.T, s *sketch.Sketch) {
	t.Helper()
	for range 20 {
		for _, key := range []string{"", "a", "a", "\xff", strings.Repeat("k", 5000)} {
			if n := s.Count(key); n != 0 {
				t.Fatalf("Count(%.20q): %d", key, n)
			}
			s.Add(key)
			if s.Sum() != 0 || len(s.Cells()) != 0 || s.Count(key) != 0 {
				t.Fatalf("Sum %d, %v, Count %d", s.Sum(), s.Cells(), s.Count(key))
			}
		}
		s.Halve()
	}
}

// W8: one of the two goes on where a sketch was copied as a value.
func TestCopied(t *testing.T) {
	x := newPair(t, 8)
	for i := range 300 {
		other := *x.s
		x.s = &other
		x.add("k" + strconv.Itoa(i%60))
		x.same("k0", "none")
	}
	x.halve()
}
