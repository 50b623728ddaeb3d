package door_test

import (
	"math"
	"runtime"
	"slices"
	"strconv"
	"strings"
	"testing"
	"unsafe"
	"weak"

	"hoard/api"
	"hoard/door"
	"hoard/mix"
)

// sizes is all numbers of bits that a door may have.
func sizes() []int { return []int{64, 128, 256, 512, 1024, 2048, 4096, 8192} }

// placesOf is where a key's three bits are among so many, in plain words.
func placesOf(size int, key string) [3]int {
	var places [3]int
	for i, seed := range []uint64{11, 12, 13} {
		places[i] = int(mix.Hash(seed, key) % uint64(size))
	}
	return places
}

// plain is what the document says of a door: one bool a bit.
type plain []bool

func (p plain) has(key string) bool {
	at := placesOf(len(p), key)
	return p[at[0]] && p[at[1]] && p[at[2]]
}

func (p plain) add(key string) bool {
	was := p.has(key)
	for _, at := range placesOf(len(p), key) {
		p[at] = true
	}
	return was
}

func (p plain) ones() int {
	n := 0
	for _, bit := range p {
		if bit {
			n++
		}
	}
	return n
}

// pair is a door and the plain one, which are told of the same.
type pair struct {
	t *testing.T
	d *door.Door
	p plain
}

// newPair is both, of so many bits.
func newPair(t *testing.T, size int) *pair {
	return &pair{t, door.New(size / 8), make(plain, size)}
}

func (x *pair) add(keys ...string) {
	x.t.Helper()
	for _, key := range keys {
		if got, want := x.d.Add(key), x.p.add(key); got != want {
			x.t.Fatalf("%d bits: Add(%.40q): %v", len(x.p), key, got)
		}
		if got, want := x.d.Ones(), x.p.ones(); got != want {
			x.t.Fatalf("%d bits: Ones behind Add(%.40q): %d, not %d", len(x.p), key, got, want)
		}
		x.has(key)
	}
}

func (x *pair) clear() {
	x.t.Helper()
	x.d.Clear()
	clear(x.p)
	x.has()
}

// has holds all that a door tells against the plain one, twice: to be asked changes nothing.
func (x *pair) has(keys ...string) {
	x.t.Helper()
	for range 2 {
		for _, key := range keys {
			if got, want := x.d.Has(key), x.p.has(key); got != want {
				x.t.Fatalf("%d bits: Has(%.40q): %v", len(x.p), key, got)
			}
		}
		if got, want := x.d.Ones(), x.p.ones(); got != want {
			x.t.Fatalf("%d bits: Ones: %d, not %d", len(x.p), got, want)
		}
	}
}

// numbered is so many keys.
func numbered(n int) []string {
	keys := make([]string, n)
	for i := range keys {
		keys[i] = "k" + strconv.Itoa(i)
	}
	return keys
}

// distinct is how many bits a key has, those that are one taken once.
func distinct(size int, key string) int {
	at := placesOf(size, key)
	slices.Sort(at[:])
	return len(slices.Compact(at[:]))
}

// find is the first of the numbered texts that is right.
func find(right func(key string) bool) string {
	for i := 0; ; i++ {
		if key := "f" + strconv.Itoa(i); right(key) {
			return key
		}
	}
}

// byBit is for each bit the keys that have it, at least so many.
func byBit(size, least int) [][]string {
	keys := make([][]string, size)
	short := size
	for i := 0; short > 0; i++ {
		key := "b" + strconv.Itoa(i)
		for _, at := range placesOf(size, key) {
			if slices.Contains(keys[at], key) {
				continue
			}
			keys[at] = append(keys[at], key)
			if len(keys[at]) == least {
				short--
			}
		}
	}
	return keys
}

// without is the first of some keys that has none of some bits; a test that finds none tells nothing, so it ends there.
func without(size int, keys []string, bits ...int) string {
	for _, key := range keys {
		at := placesOf(size, key)
		if !slices.ContainsFunc(bits, func(bit int) bool { return slices.Contains(at[:], bit) }) {
			return key
		}
	}
	panic("no key without those bits")
}

// P8.1: the document's example.
func TestExample(t *testing.T) {
	d := door.New(1)
	if d.Add("a") {
		t.Error("the first Add")
	}
	if !d.Add("a") {
		t.Error("the second Add")
	}
	if !d.Has("a") {
		t.Error("Has")
	}
}

// sizeOf is how many bits a room leads to, in plain words.
func sizeOf(room int) int {
	held := min(max(room, 1), 1024)
	power := 1
	for power < held {
		power += power
	}
	return max(8*power, 64)
}

// P8.1: how many bits there are at the rooms that the document names and far off: when all of them are 1, Ones is that.
func TestHowManyBits(t *testing.T) {
	for _, x := range []struct{ room, size int }{
		{math.MinInt, 64}, {math.MinInt + 1, 64}, {100 - 1<<61, 64}, {5000 - 1<<62, 64}, {-(1 << 32), 64}, {-1024, 64}, {-8, 64}, {-1, 64}, {0, 64},
		{1, 64}, {2, 64}, {3, 64}, {7, 64}, {8, 64}, {9, 128}, {15, 128}, {16, 128}, {17, 256}, {31, 256}, {32, 256}, {33, 512}, {63, 512},
		{64, 512}, {65, 1024}, {100, 1024}, {128, 1024}, {129, 2048}, {256, 2048}, {257, 4096}, {511, 4096}, {512, 4096}, {513, 8192},
		{api.MaxRoom - 1, 8192}, {api.MaxRoom, 8192}, {api.MaxRoom + 1, 8192}, {2 * api.MaxRoom, 8192}, {2*api.MaxRoom + 1, 8192},
		{8 * api.MaxRoom, 8192}, {1 << 32, 8192}, {1<<32 + 1, 8192}, {1 << 50, 8192}, {1 << 60, 8192}, {1<<61 + 1, 8192}, {1 << 62, 8192},
		{math.MaxInt/8 + 2, 8192}, {math.MaxInt - 1, 8192}, {math.MaxInt, 8192},
	} {
		if sizeOf(x.room) != x.size {
			t.Fatalf("the test's own words: %d", x.room)
		}
		d := door.New(x.room)
		if d == nil || d.Ones() != 0 {
			t.Fatalf("New(%d): %v", x.room, d)
		}
		// So many that none of the bits is left out, which Ones then tells.
		for i := range 6 * x.size {
			d.Add("k" + strconv.Itoa(i))
		}
		if n := d.Ones(); n != x.size {
			t.Errorf("New(%d): %d bits, not %d", x.room, n, x.size)
		}
		if !d.Has("never") || !d.Add("another") || d.Ones() != x.size {
			t.Errorf("New(%d): a key without all of the bits", x.room)
		}
	}
}

// P8.1: each room from below 1 to far beyond MaxRoom: all bits are 0 at first, and then those of so many.
func TestEachRoom(t *testing.T) {
	keys := numbered(150)
	want := map[int]int{}
	for _, size := range sizes() {
		p := make(plain, size)
		for _, key := range keys {
			p.add(key)
		}
		for _, ones := range want {
			if ones == p.ones() {
				t.Fatal("these keys tell no two sizes apart")
			}
		}
		want[size] = p.ones()
	}
	for room := -20; room < 3*api.MaxRoom; room++ {
		d := door.New(room)
		if d.Ones() != 0 || d.Has("") || d.Has("a") || d.Has("k0") {
			t.Fatalf("New(%d): Ones %d", room, d.Ones())
		}
		for _, key := range keys {
			d.Add(key)
		}
		if got := d.Ones(); got != want[sizeOf(room)] {
			t.Fatalf("New(%d): Ones %d, not %d", room, got, want[sizeOf(room)])
		}
	}
}

// P8.1: doors of rooms that lead to one number of bits are alike in all that they tell.
func TestRoomsOfOneSize(t *testing.T) {
	for _, x := range []struct {
		size  int
		rooms []int
	}{{64, []int{math.MinInt, -1, 0, 1, 3, 5, 7, 8}}, {128, []int{9, 10, 15, 16}}, {8192, []int{513, 1023, 1024, 1025, 5000, math.MaxInt}}} {
		for _, room := range x.rooms {
			p := newPair(t, x.size)
			p.d = door.New(room)
			for _, key := range numbered(x.size / 4) {
				p.add(key)
				p.has("none"+key, "k0")
			}
		}
	}
}

// allBytes is all bytes, many times.
func allBytes() string {
	all := make([]byte, 4096)
	for i := range all {
		all[i] = byte(i)
	}
	return string(all)
}

// known is where some keys' bits are, from a reckoning outside of the program.
func known() []struct {
	key  string
	size int
	want [3]int
} {
	return []struct {
		key  string
		size int
		want [3]int
	}{
		{"", 64, [3]int{45, 60, 17}}, {"", 128, [3]int{109, 60, 81}}, {"", 8192, [3]int{7021, 7100, 465}},
		{"a", 64, [3]int{59, 30, 39}}, {"a", 128, [3]int{123, 30, 39}}, {"a", 8192, [3]int{635, 7710, 5287}},
		{"b", 64, [3]int{32, 42, 15}}, {"b", 128, [3]int{32, 42, 79}}, {"b", 8192, [3]int{6688, 3626, 1999}},
		{"\x00", 64, [3]int{47, 41, 33}}, {"\x00", 128, [3]int{111, 41, 97}}, {"\x00", 8192, [3]int{7919, 1961, 4961}},
		{"user:42", 64, [3]int{47, 48, 29}}, {"user:42", 128, [3]int{111, 48, 93}}, {"user:42", 8192, [3]int{5871, 5680, 6621}},
		{"user:43", 64, [3]int{32, 56, 58}}, {"user:43", 128, [3]int{96, 56, 122}}, {"user:43", 8192, [3]int{7008, 4792, 2682}},
		{strings.Repeat("k", 24), 64, [3]int{5, 55, 13}}, {strings.Repeat("k", 24), 8192, [3]int{6405, 6455, 1165}},
		{strings.Repeat("k", 25), 128, [3]int{68, 53, 73}}, {strings.Repeat("k", 25), 8192, [3]int{5700, 5685, 4681}},
		{"é", 64, [3]int{10, 44, 0}}, {"é", 128, [3]int{74, 108, 0}}, {"é", 8192, [3]int{2378, 2156, 2304}},
		{"\xff\xfe", 64, [3]int{11, 57, 24}}, {"\xff\xfe", 128, [3]int{11, 121, 24}}, {"\xff\xfe", 8192, [3]int{7947, 2041, 2840}},
		{allBytes(), 64, [3]int{33, 15, 57}}, {allBytes(), 128, [3]int{33, 79, 121}}, {allBytes(), 8192, [3]int{1953, 463, 3705}},
	}
}

// P8.1: the bits of a key, by the seeds 11, 12 and 13: it is there when, and only when, others have set all the bits that the reckoning names.
func TestBitsKnown(t *testing.T) {
	laid := map[int][][]string{}
	for _, x := range known() {
		if placesOf(x.size, x.key) != x.want {
			t.Fatalf("the test's own words: %.20q, %d bits", x.key, x.size)
		}
		if laid[x.size] == nil {
			laid[x.size] = byBit(x.size, 6)
		}
		for last := range 3 {
			d := door.New(x.size / 8)
			missing := x.want[last]
			for i, at := range x.want {
				if i != last {
					d.Add(without(x.size, laid[x.size][at], missing))
				}
			}
			ones := d.Ones()
			if d.Has(x.key) {
				t.Errorf("%.20q, %d bits: there without bit %d", x.key, x.size, missing)
			}
			if d.Add(x.key) || d.Ones() != ones+1 || !d.Has(x.key) {
				t.Errorf("%.20q, %d bits: Add without bit %d", x.key, x.size, missing)
			}
		}
		d := door.New(x.size / 8)
		for _, at := range x.want {
			d.Add(laid[x.size][at][0])
		}
		if ones := d.Ones(); !d.Has(x.key) || !d.Add(x.key) || d.Ones() != ones {
			t.Errorf("%.20q, %d bits: not there by others", x.key, x.size)
		}
	}
}

// P8.1: each single bit of each size, the first, the last and those at the ends of words among them: a key that lacks just that one.
func TestEachBit(t *testing.T) {
	for _, size := range sizes() {
		laid := byBit(size, 6)
		d := door.New(size / 8)
		for bit := range size {
			key := laid[bit][0]
			d.Clear()
			for _, at := range placesOf(size, key) {
				if at != bit {
					d.Add(without(size, laid[at], bit))
				}
			}
			before := d.Ones()
			if d.Has(key) {
				t.Fatalf("%d bits: %q is there without bit %d", size, key, bit)
			}
			others := 0
			other := laid[bit][1]
			for range 2 {
				d.Add(other)
				others = d.Ones()
			}
			if !d.Has(key) || !d.Add(key) || d.Ones() != others || others < before+1 || others > before+distinct(size, other) {
				t.Fatalf("%d bits: %q isn't there with bit %d by %q", size, key, bit, other)
			}
		}
	}
}

// alone is for each bit of a small door a key of which all three bits are that one.
func alone(size int) []string {
	keys := make([]string, size)
	for i, left := 0, size; left > 0; i++ {
		key := "s" + strconv.Itoa(i)
		at := placesOf(size, key)
		if at[0] == at[1] && at[1] == at[2] && keys[at[0]] == "" {
			keys[at[0]] = key
			left--
		}
	}
	return keys
}

// P8.1: all bits of a small door, told one by one by keys of which all three bits are one: an Add sets its own and no other.
func TestAllBitsTold(t *testing.T) {
	for _, size := range []int{64, 128} {
		single := alone(size)
		d := door.New(size / 8)
		p := make(plain, size)
		for i := range 500 {
			key := "k" + strconv.Itoa(i)
			if i%100 == 99 {
				d.Clear()
				clear(p)
			} else if i%30 < 27 {
				d.Add(key)
				p.add(key)
			}
			for bit, key := range single {
				if d.Has(key) != p[bit] {
					t.Fatalf("%d bits: bit %d is %v behind call %d", size, bit, !p[bit], i)
				}
			}
		}
	}
}

// P8.1: the single bits of a small door, set one by one: each is counted once, and only that key is there.
func TestSingleBits(t *testing.T) {
	for _, size := range []int{64, 128} {
		single := alone(size)
		for i := range size {
			d := door.New(size / 8)
			if d.Add(single[i]) || d.Ones() != 1 || !d.Add(single[i]) || d.Ones() != 1 {
				t.Fatalf("bit %d of %d: Ones %d", i, size, d.Ones())
			}
			for j := range size {
				if d.Has(single[j]) != (i == j) {
					t.Fatalf("bit %d of %d: bit %d too", i, size, j)
				}
			}
		}
		d := door.New(size / 8)
		for i := range size {
			if d.Add(single[i*5%size]) || d.Ones() != i+1 {
				t.Fatalf("%d bits: Ones %d behind %d", size, d.Ones(), i+1)
			}
		}
	}
}

// P8.1: keys of which two bits are one, each choice of two, or all three: each bit is counted once, and the first Add was new.
func TestBitsThatAreOne(t *testing.T) {
	for _, size := range []int{64, 128, 1024} {
		for _, x := range []struct {
			a, b, c bool
			ones    int
		}{{false, false, false, 3}, {true, false, false, 2}, {false, true, false, 2}, {false, false, true, 2}, {true, true, true, 1}} {
			key := find(func(key string) bool {
				at := placesOf(size, key)
				return (at[0] == at[1]) == x.a && (at[1] == at[2]) == x.b && (at[0] == at[2]) == x.c
			})
			p := newPair(t, size)
			if p.d.Has(key) || p.d.Add(key) || p.d.Ones() != x.ones || !p.d.Has(key) || !p.d.Add(key) || p.d.Ones() != x.ones {
				t.Errorf("%d bits: %q, Ones %d, not %d", size, key, p.d.Ones(), x.ones)
			}
			p.p.add(key)
			p.add(numbered(20)...)
			p.has(key)
		}
	}
}

// P8.1: a key that was never Added, with each choice of its bits set by others: it is there only where all are.
func TestNeverAdded(t *testing.T) {
	for _, size := range sizes() {
		laid := byBit(size, 8)
		at := placesOf(size, "never")
		if distinct(size, "never") != 3 {
			t.Fatal("this key has two bits that are one")
		}
		for set := range 8 {
			x := newPair(t, size)
			var left []int
			for i := range at {
				if set>>i&1 == 0 {
					left = append(left, at[i])
				}
			}
			for i := range at {
				if set>>i&1 == 1 {
					x.add(without(size, laid[at[i]], left...))
				}
			}
			ones := x.d.Ones()
			if got := x.d.Has("never"); got != (set == 7) {
				t.Fatalf("%d bits, %03b set: Has: %v", size, set, got)
			}
			if got := x.d.Add("never"); got != (set == 7) {
				t.Fatalf("%d bits, %03b set: Add: %v", size, set, got)
			}
			if got := x.d.Ones(); got != ones+len(left) {
				t.Fatalf("%d bits, %03b set: Ones %d, not %d", size, set, got, ones+len(left))
			}
			if !x.d.Has("never") || !x.d.Add("never") || x.d.Ones() != ones+len(left) {
				t.Fatalf("%d bits, %03b set: the second Add", size, set)
			}
		}
	}
}

// P8.1: an Add of a new key, and of one that was Added, right behind it and later.
func TestAddAgain(t *testing.T) {
	for _, size := range sizes() {
		x := newPair(t, size)
		for i, key := range numbered(12) {
			x.add(key)
			for range 3 {
				ones := x.d.Ones()
				for _, key := range numbered(i + 1) {
					if !x.d.Add(key) || x.d.Ones() != ones {
						t.Fatalf("%d bits: %q isn't there", size, key)
					}
				}
			}
			x.has("none", "")
		}
	}
}

// P8.1: Ones behind each Add, until all bits are 1 and beyond.
func TestOnesBehindEachAdd(t *testing.T) {
	for _, size := range sizes() {
		x := newPair(t, size)
		for i := 0; i < 2*size; i++ {
			x.add("k" + strconv.Itoa(i))
		}
	}
	x := newPair(t, 64)
	x.add(numbered(1000)...)
	if x.d.Ones() != 64 {
		t.Errorf("Ones %d", x.d.Ones())
	}
}

// P8.1: Clear of a door with nothing, with some, with all: all bits are 0, nobody is there, and all is new again.
func TestClear(t *testing.T) {
	for _, size := range sizes() {
		for _, many := range []int{0, 1, 2, 10, size / 3, 6 * size} {
			x := newPair(t, size)
			keys := numbered(many)
			for range 3 {
				for _, key := range keys {
					x.d.Add(key)
				}
				x.d.Clear()
				if x.d.Ones() != 0 || slices.ContainsFunc(append(keys, "", "a"), x.d.Has) {
					t.Fatalf("%d bits: Ones %d behind Clear", size, x.d.Ones())
				}
			}
			x.clear()
			x.clear()
			if x.d.Add("k0") || x.d.Ones() != distinct(size, "k0") {
				t.Fatalf("%d bits: k0 is not new", size)
			}
			x.p.add("k0")
			for _, key := range numbered(min(many, 200)) {
				x.add(key)
			}
			x.has(numbered(20)...)
		}
	}
}

// P8.1: behind a Clear there are as many bits as ahead of it.
func TestClearKeepsTheSize(t *testing.T) {
	for _, size := range sizes() {
		d := door.New(size / 8)
		for range 3 {
			d.Clear()
			for i := range 6 * size {
				d.Add("k" + strconv.Itoa(i))
			}
			if d.Ones() != size {
				t.Errorf("%d bits, not %d", d.Ones(), size)
			}
		}
	}
}

// P8.1: Has changes nothing: a door that is asked a great deal and one that isn't tell the same.
func TestHasChangesNothing(t *testing.T) {
	for _, size := range sizes() {
		asked, other := door.New(size/8), door.New(size/8)
		for i, key := range numbered(60) {
			for _, some := range append(numbered(80), "", "none") {
				ones := asked.Ones()
				if asked.Has(some) != asked.Has(some) || asked.Ones() != ones {
					t.Fatalf("%d bits: Has(%q)", size, some)
				}
			}
			if asked.Add(key) != other.Add(key) || asked.Ones() != other.Ones() {
				t.Fatalf("%d bits: they part at %d", size, i)
			}
		}
	}
}

// P8.1: the empty text is a key as all others.
func TestEmptyText(t *testing.T) {
	for _, size := range sizes() {
		x := newPair(t, size)
		if x.d.Has("") || x.d.Add("") || !x.d.Add("") || !x.d.Has("") || x.d.Ones() != 3 {
			t.Fatalf("%d bits: Ones %d", size, x.d.Ones())
		}
		x.clear()
		x.add("a", "\x00", "", "b")
		x.has("", "a", "\x00", "\x00\x00", " ")
	}
}

// P8.1: keys that are alike but for their last letter, or by their length alone, are keys apart.
func TestAlikeKeys(t *testing.T) {
	for _, stem := range []string{"", "a", "user:", strings.Repeat("k", 23), strings.Repeat("k", 24), strings.Repeat("\x00", 7), strings.Repeat("é", 100), strings.Repeat("k", 5000)} {
		x := newPair(t, 8192)
		var keys []string
		for last := range 256 {
			keys = append(keys, stem+string([]byte{byte(last)}))
		}
		keys = append(keys, stem, stem+"aa", stem+"\x00\x00", "a"+stem+"b", "b"+stem+"a")
		for i, key := range keys {
			if i%2 == 0 {
				x.add(key)
			}
		}
		x.has(keys...)
		one := door.New(api.MaxRoom)
		one.Add(stem + "a")
		if !one.Has(stem+"a") || one.Has(stem+"b") || one.Has(stem) || one.Has(stem+"aa") || one.Has(stem+"A") {
			t.Errorf("%.20q: alike keys meet", stem)
		}
	}
}

// P8.1: long keys, that part at their beginning, their middle or their end.
func TestLongKeys(t *testing.T) {
	x := newPair(t, 2048)
	for _, n := range []int{25, 255, 256, 257, 4096, 1<<16 - 1, 1 << 16, 1<<16 + 1, 1 << 20} {
		half := strings.Repeat("x", n/2)
		keys := []string{strings.Repeat("x", n), "y" + half + half, half + "y" + half, half + half + "y", strings.Repeat("\xff", n), strings.Repeat("\x00", n)}
		one := door.New(api.MaxRoom)
		for i, key := range keys {
			if one.Has(key) || one.Add(key) {
				t.Errorf("long keys of %d meet", n)
			}
			if !one.Has(keys[i/2]) {
				t.Errorf("a long key of %d isn't there", n)
			}
		}
		x.add(keys...)
		x.has(keys...)
	}
}

// P8.1: keys of any bytes, each key of one byte and of two.
func TestAnyBytes(t *testing.T) {
	x := newPair(t, 8192)
	for i := range 1 << 16 {
		key := string([]byte{byte(i >> 8), byte(i)})
		if x.d.Add(key) != x.p.add(key) {
			t.Fatalf("Add(%q)", key)
		}
		if i < 256 {
			x.add(string([]byte{byte(i)}))
		}
		if i%1021 == 0 {
			x.has("", "a", "\xff", "\xff\xff", "\x00\x01", "\xfe\xfe")
		}
		if i%4099 == 0 {
			x.clear()
		}
	}
}

// lots is numbers that look drawn, but are told by the seed.
func lots(seed uint64) func(n int) int {
	x := seed*0x9e3779b97f4a7c15 + 1
	return func(n int) int {
		x = x*6364136223846793005 + 1442695040888963407
		return int((x >> 33) % uint64(n))
	}
}

// P8.1: long rows of mixed calls, of few keys and of many.
func TestLongRows(t *testing.T) {
	for _, size := range []int{64, 128, 512, 1024, 8192} {
		for _, many := range []int{1, 5, size / 8, size} {
			lot := lots(uint64(size + many))
			x := newPair(t, size)
			for range 2000 {
				switch n := lot(size); {
				case n == 0:
					x.clear()
				case n < size/2:
					x.add("k" + strconv.Itoa(lot(many)))
				default:
					x.has("k"+strconv.Itoa(lot(2*many)), "none")
				}
			}
		}
	}
}

// P8.1: all rows of six calls: Adds of two keys that share a bit and of one that these cover, and Clear.
func TestAllShortRows(t *testing.T) {
	const size, long, calls = 64, 6, 4
	a := placesOf(size, "a")
	b := find(func(key string) bool {
		at := placesOf(size, key)
		return slices.Contains(at[:], a[0]) && !slices.Contains(at[:], a[1]) && !slices.Contains(at[:], a[2])
	})
	bitsOfB := placesOf(size, b)
	both := slices.Concat(a[:], bitsOfB[:])
	c := find(func(key string) bool {
		at := placesOf(size, key)
		covered := slices.Contains(both, at[0]) && slices.Contains(both, at[1]) && slices.Contains(both, at[2])
		return key != b && covered && distinct(size, key) == 3
	})
	for row := range 1 << (2 * long) {
		x := newPair(t, size)
		for range long {
			if call := row % calls; call == 0 {
				x.clear()
			} else {
				x.add([]string{"a", b, c}[call-1])
			}
			row /= calls
			x.has("a", b, c, "none")
		}
	}
}

// P8.2: a key that was Added since the last Clear is there, whatever was Added behind it.
func TestAddedIsThere(t *testing.T) {
	for _, size := range sizes() {
		d := door.New(size / 8)
		for round := range 3 {
			d.Clear()
			var added []string
			for i := range 400 {
				key := "r" + strconv.Itoa(round) + ":" + strconv.Itoa(i*i%977)
				d.Add(key)
				added = append(added, key)
				for _, key := range added {
					if !d.Has(key) {
						t.Fatalf("%d bits: %q isn't there behind %d more", size, key, i)
					}
				}
			}
			for _, key := range added {
				if !d.Add(key) {
					t.Fatalf("%d bits: %q was not there", size, key)
				}
			}
		}
	}
}

// P8.2: in whatever order keys come, the same keys are there, and as many bits are 1.
func TestOrder(t *testing.T) {
	for _, size := range sizes() {
		keys := numbered(size / 8)
		first := door.New(size / 8)
		for _, key := range keys {
			first.Add(key)
		}
		lot := lots(uint64(size))
		for round := range 8 {
			other := slices.Clone(keys)
			slices.Reverse(other)
			for i := range other {
				if round > 0 {
					j := lot(i + 1)
					other[i], other[j] = other[j], other[i]
				}
			}
			d := door.New(size / 8)
			for i, key := range other {
				d.Add(key)
				d.Add(other[i/2])
			}
			if d.Ones() != first.Ones() {
				t.Fatalf("%d bits: Ones %d and %d", size, d.Ones(), first.Ones())
			}
			for _, key := range numbered(4 * len(keys)) {
				if d.Has(key) != first.Has(key) {
					t.Fatalf("%d bits: Has(%q): %v", size, key, d.Has(key))
				}
			}
		}
	}
}

// W2: two doors that were told of the same tell the same, and two that were told of other things do not meet.
func TestTwoDoors(t *testing.T) {
	for _, size := range sizes() {
		p, q, r := newPair(t, 128), newPair(t, size), newPair(t, 128)
		for i := range 300 {
			key := "k" + strconv.Itoa(i%50)
			p.add(key)
			q.has("k0", key)
			r.add(key)
			if i%3 == 0 {
				q.add("k"+strconv.Itoa(i%7), "q")
				p.has("q", "k1")
			}
			if i%41 == 40 {
				q.clear()
				p.has("k1", key)
			}
			if i%67 == 66 {
				p.clear()
				q.has("q", "k0")
				r.has("k1", key)
				r.clear()
			}
			if p.d.Ones() != r.d.Ones() {
				t.Fatal("two that were told of the same")
			}
		}
	}
}

// W6: a key that was handed in is not kept: the long text, of which it is a piece, is free while the door lives on.
func TestHandedInIsNotKept(t *testing.T) {
	d := door.New(8)
	long := strings.Repeat("key", 1<<16)
	weakly := weak.Make(unsafe.StringData(long))
	for i := range 9 {
		d.Add(long[i : 2*i])
		d.Has(long[i:])
	}
	long = ""
	runtime.GC()
	if weakly.Value() != nil {
		t.Error("the long text is still held")
	}
	runtime.KeepAlive(d)
}

// P8.2, W8: a nil Door has none, in each call and in whatever order.
func TestNilDoor(t *testing.T) {
	var d *door.Door
	hasNone(t, d)
}

// A Door that New did not make has no bits: it has no key, and takes none.
func TestZeroDoor(t *testing.T) { hasNone(t, new(door.Door)) }

func hasNone(t *testing.T, d *door.Door) {
	t.Helper()
	for range 3 {
		for _, key := range []string{"", "a", "a", "\xff", strings.Repeat("k", 5000)} {
			if d.Has(key) || d.Add(key) || d.Add(key) || d.Has(key) || d.Ones() != 0 {
				t.Fatalf("%.20q: Ones %d", key, d.Ones())
			}
		}
		d.Clear()
		if d.Ones() != 0 || d.Has("a") {
			t.Fatalf("Ones %d behind Clear", d.Ones())
		}
	}
}

// W8: one of the two goes on where a door was copied as a value.
func TestCopied(t *testing.T) {
	x := newPair(t, 128)
	for i := range 100 {
		other := *x.d
		x.d = &other
		x.add("k" + strconv.Itoa(i%30))
		x.has("k0", "none")
		if i%40 == 39 {
			x.clear()
		}
	}
}
