package mix_test

import (
	"math"
	"math/big"
	"strings"
	"testing"

	"hoard/api"
	"hoard/mix"
)

const (
	most   = math.MaxUint64
	golden = 0x9e3779b97f4a7c15
	// Written out, so that a slip in the program is not repeated here.
	keyBytes = "abcdefghijklmnopqrstuvwxyzABCDEFGHIJKLMNOPQRSTUVWXYZ0123456789_-./:"
)

// numbers is edges, each single bit with its neighbours, and some that are spread out.
func numbers() []uint64 {
	l := []uint64{0, 1, 2, most, most - 1, golden, 0xdeadbeefcafef00d}
	for bit := range 64 {
		p := uint64(1) << bit
		l = append(l, p-1, p, p+1, most-p, most^p)
	}
	for i := range uint64(500) {
		l = append(l, i*golden+1)
	}
	return l
}

// texts is texts of many lengths and of bytes that no key has.
func texts() []string {
	l := []string{"", "\x00", "\x00\x00", "a", "ab", "ba", "user:42", "é", "\xff\xfe", "a\x80", "日本"}
	for _, n := range []int{api.MaxKey - 1, api.MaxKey, api.MaxKey + 1, 255, 256, 257, 5000} {
		l = append(l, strings.Repeat("k", n), strings.Repeat("\xfe", n))
	}
	return l
}

// P1.1: a key has 1 to MaxKey bytes.
func TestKeyLength(t *testing.T) {
	for n := range 3 * api.MaxKey {
		want := n >= 1 && n <= api.MaxKey
		if got := mix.Key(strings.Repeat("k", n)); got != want {
			t.Errorf("Key of %d bytes: %v", n, got)
		}
	}
	for _, n := range []int{255, 256, 257, 256 + api.MaxKey, 1 << 16, 1<<16 + 1, 1 << 20} {
		if mix.Key(strings.Repeat("k", n)) {
			t.Errorf("Key of %d bytes", n)
		}
	}
}

// P1.1: each byte is a letter, a digit, or one of _-./: wherever it stands.
func TestKeyBytes(t *testing.T) {
	for b := range 256 {
		c := string([]byte{byte(b)})
		want := strings.Contains(keyBytes, c)
		long := strings.Repeat("k", api.MaxKey-1)
		for _, s := range []string{c, c + "k", "k" + c, "k" + c + "k", c + long, long + c} {
			if got := mix.Key(s); got != want {
				t.Errorf("Key(%q): %v", s, got)
			}
		}
	}
}

// P1.1: letters and digits beyond the single bytes are none here.
func TestKeyWrongTexts(t *testing.T) {
	for _, s := range []string{"é", "ß", "日本", "Ａ", "٣", "²", "a é", " a", "a ", "a\n", "a\x00", "\x00", "a,b", "a\\b", "a;b", "a@b", "\xff", "a\xc3", "[a]", "`a", "{a}"} {
		if mix.Key(s) {
			t.Errorf("Key(%q)", s)
		}
	}
	for _, s := range []string{"a", "Z", "0", "9", "_", "-", ".", "/", ":", "..", "user:42", "a/b.c-d_e"} {
		if !mix.Key(s) {
			t.Errorf("not Key(%q)", s)
		}
	}
}

// P1.2: the mixed numbers, from a reckoning outside of the program.
func TestMixKnown(t *testing.T) {
	for x, want := range map[uint64]uint64{
		0:                  0,
		1:                  0x5692161d100b05e5,
		2:                  0xdbd238973a2b148a,
		1 << 30:            0x2ba0091cc9e3ceff,
		1 << 63:            0x25c26ea579cea98a,
		most:               0xb4d055fcf2cbbd7b,
		most - 1:           0xda26e52fa3730902,
		golden:             0xe220a8397b1dcdaf,
		0x3c6ef372fe94f82a: 0x6e789e6aa1b965f4,
		0xdaa66d2c7ddf743f: 0x06c45d188009454f,
		0xdeadbeefcafef00d: 0x19104ae2406d51c3,
	} {
		if got := mix.Mix(x); got != want {
			t.Errorf("Mix(%#x): %#x, not %#x", x, got, want)
		}
	}
}

// P1.2: the texts' numbers, from a reckoning outside of the program.
func TestHashKnown(t *testing.T) {
	all := make([]byte, 4096)
	for i := range all {
		all[i] = byte(i)
	}
	for i, x := range []struct {
		seed uint64
		s    string
		want uint64
	}{
		{0, "", 0},
		{most, "", 0xb4d055fcf2cbbd7b},
		{0, "a", 0x43ecf6f2143a2d56},
		{0, "\x00", 0xbfef8030ddc2d772},
		{0, "\x00\x00", 0x718a08849a73b023},
		{1, "\x00", 0xe220a8397b1dcdaf},
		{7, "user:42", 0x81f32501dee98f70},
		{most, "aZ9_-./:", 0x0bf9e511f59aebb2},
		{7, "é", 0x639a029314f6e35c},
		{7, "\xff\xfe", 0x006009fff8b043ad},
		{5, strings.Repeat("k", api.MaxKey), 0x806b46794f796fd2},
		{5, strings.Repeat("k", api.MaxKey+1), 0xb87cc696d6f36b13},
		{9, string(all), 0x06cea32e59170b2a},
	} {
		if got := mix.Hash(x.seed, x.s); got != x.want {
			t.Errorf("%d: Hash: %#x, not %#x", i, got, x.want)
		}
	}
}

// wide is a number without a bound: it shares no wrap-round with the program.
func wide(x uint64) *big.Int { return new(big.Int).SetUint64(x) }

func held(x *big.Int) *big.Int {
	return x.Mod(x, new(big.Int).Lsh(big.NewInt(1), 64))
}

func wideMix(x *big.Int) *big.Int {
	step := func(x *big.Int, shift uint, factor uint64) *big.Int {
		y := new(big.Int).Xor(x, new(big.Int).Rsh(x, shift))
		return held(y.Mul(y, wide(factor)))
	}
	return step(step(step(x, 30, 0xbf58476d1ce4e5b9), 27, 0x94d049bb133111eb), 31, 1)
}

func wideHash(seed uint64, s string) *big.Int {
	h := wideMix(new(big.Int).Xor(wide(seed), big.NewInt(int64(len(s)))))
	for _, b := range []byte(s) {
		y := new(big.Int).Xor(h, big.NewInt(int64(b)))
		h = wideMix(held(y.Add(y, wide(golden))))
	}
	return h
}

// P1.2: Mix and Hash are what the document says in numbers without a bound, held modulo 2^64.
func TestMixAndHashByTheWords(t *testing.T) {
	for _, x := range numbers() {
		if got := mix.Mix(x); wideMix(wide(x)).Cmp(wide(got)) != 0 {
			t.Errorf("Mix(%#x): %#x", x, got)
		}
	}
	for _, s := range texts() {
		for _, seed := range []uint64{0, 1, 7, 1 << 63, most} {
			if got := mix.Hash(seed, s); wideHash(seed, s).Cmp(wide(got)) != 0 {
				t.Errorf("Hash(%#x, %d bytes): %#x", seed, len(s), got)
			}
		}
	}
}

// P1.3: Place is the remainder, and 0 where there are no places.
func TestPlace(t *testing.T) {
	for i, x := range []struct {
		h    uint64
		n    int
		want int
	}{
		{7, 4, 3}, {8, 4, 0}, {0, 4, 0}, {7, 1, 0}, {7, 7, 0}, {7, 8, 7},
		{7, 0, 0}, {7, -1, 0}, {7, -4, 0}, {most, 0, 0}, {most, -1, 0}, {most, math.MinInt, 0},
		{most, 1, 0}, {most, 2, 1}, {most, 10, 5}, {1 << 63, 10, 8}, {most, math.MaxInt, 1},
		{math.MaxInt, math.MaxInt, 0}, {math.MaxInt - 1, math.MaxInt, math.MaxInt - 1},
	} {
		if got := mix.Place(x.h, x.n); got != x.want {
			t.Errorf("%d: Place(%d, %d): %d", i, x.h, x.n, got)
		}
	}
	for _, h := range numbers() {
		for _, n := range []int{1, 2, 3, 7, 8, 1000, 1 << 24, 1<<40 + 1, math.MaxInt} {
			want := new(big.Int).Mod(wide(h), big.NewInt(int64(n)))
			if got := mix.Place(h, n); want.Cmp(big.NewInt(int64(got))) != 0 {
				t.Errorf("Place(%d, %d): %d", h, n, got)
			}
		}
	}
}

// P1.3: Sampled holds the low 24 bits against the rate.
func TestSampled(t *testing.T) {
	for i, x := range []struct {
		h    uint64
		rate int
		want bool
	}{
		{0, 0, false}, {0, -1, false}, {0, math.MinInt, false}, {most, 0, false}, {most, -1, false},
		{0, 1, true}, {1, 1, false}, {1, 2, true},
		{1 << 24, 1, true}, {1<<24 + 5, 5, false}, {1<<24 + 5, 6, true}, {1 << 63, 1, true},
		{1<<24 - 1, api.MaxRate - 1, false}, {1<<24 - 1, api.MaxRate, true}, {1<<24 - 2, api.MaxRate - 1, true},
		{most, api.MaxRate - 1, false}, {most, api.MaxRate, true}, {most, api.MaxRate + 1, true}, {most, math.MaxInt, true},
		{1<<23 + 1, 1 << 23, false}, {1<<23 - 1, 1 << 23, true},
	} {
		if got := mix.Sampled(x.h, x.rate); got != x.want {
			t.Errorf("%d: Sampled(%d, %d): %v", i, x.h, x.rate, got)
		}
	}
	for _, h := range numbers() {
		low := new(big.Int).Mod(wide(h), big.NewInt(1<<24))
		for _, rate := range []int{math.MinInt, -1, 0, 1, 77, 1 << 12, 1 << 23, 1<<24 - 1, 1 << 24, 1<<24 + 1, math.MaxInt} {
			want := low.Cmp(big.NewInt(int64(rate))) < 0
			if got := mix.Sampled(h, rate); got != want {
				t.Errorf("Sampled(%d, %d): %v", h, rate, got)
			}
		}
	}
}

// unshift is the way back from x-or with itself shifted right.
func unshift(y uint64, by uint) uint64 {
	x := y
	for range 64/by + 1 {
		x = y ^ x>>by
	}
	return x
}

// inverse is the odd number by which a product with f goes back: each round doubles the right bits.
func inverse(f uint64) uint64 {
	x := f
	for range 6 {
		x *= 2 - f*x
	}
	return x
}

// unmix is Mix backward. It is a way back for each number only because Mix takes no two to one.
func unmix(y uint64) uint64 {
	y = unshift(y, 31) * inverse(0x94d049bb133111eb)
	y = unshift(y, 27) * inverse(0xbf58476d1ce4e5b9)
	return unshift(y, 30)
}

// P1.4: Mix takes no two numbers to one: there is a way back from each, and each number is reached.
func TestMixIsOneToOne(t *testing.T) {
	for _, x := range numbers() {
		if back := unmix(mix.Mix(x)); back != x {
			t.Errorf("Mix(%#x) leads back to %#x", x, back)
		}
		if there := mix.Mix(unmix(x)); there != x {
			t.Errorf("%#x is not reached, but %#x", x, there)
		}
	}
	seen := map[uint64]uint64{}
	for i := range uint64(100000) {
		for _, x := range []uint64{i, most - i, i << 40} {
			if y, ok := seen[mix.Mix(x)]; ok && y != x {
				t.Fatalf("Mix takes %#x and %#x to one", x, y)
			}
			seen[mix.Mix(x)] = x
		}
	}
}

// answers is all that the package tells of a number and a text.
type answers struct {
	key, sampled bool
	mixed, hash  uint64
	place        int
}

func ask(x uint64, s string) answers {
	h := mix.Hash(x, s)
	return answers{mix.Key(s), mix.Sampled(h, 1<<23), mix.Mix(x), h, mix.Place(h, 13)}
}

// P1.4: what was asked before, and in which order, changes no answer.
func TestAnswersDependOnArgumentsAlone(t *testing.T) {
	xs, ss := numbers(), texts()
	first := make([]answers, len(xs))
	for i, x := range xs {
		first[i] = ask(x, ss[i%len(ss)])
	}
	for i := len(xs) - 1; i >= 0; i-- {
		s := string([]byte(ss[i%len(ss)]))
		if got := ask(xs[i], s); got != first[i] {
			t.Errorf("%#x, %q: first %v, then %v", xs[i], s, first[i], got)
		}
	}
}
