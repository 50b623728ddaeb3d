package fix_test

import (
	"math"
	"math/big"
	"testing"

	"hoard/api"
	"hoard/fix"
)

const (
	greatest = math.MaxUint64
	golden   = 0x9e3779b97f4a7c15
)

// wholes is ints at the edges that the document names, with their neighbours.
func wholes() []int {
	l := []int{math.MinInt, math.MinInt + 1, math.MinInt + 2, math.MaxInt, math.MaxInt - 1, math.MaxInt - 2}
	for _, n := range []int{0, 15, api.MaxCount / 2, api.MaxCount, 2 * api.MaxCount, math.MaxInt / 2, math.MinInt / 2} {
		for by := -2; by <= 2; by++ {
			l = append(l, n+by, -n+by)
		}
	}
	return l
}

// words is edges, each single bit with its neighbours, and some that are spread out.
func words() []uint64 {
	l := []uint64{0, 3, 5, 10, greatest, greatest - 1, api.One + 1, api.Floor, 0xffffffff00000000, 0x5555555555555555}
	for bit := range 64 {
		p := uint64(1) << bit
		l = append(l, p-1, p, p+1, greatest-p)
	}
	for i := range uint64(30) {
		x := i*golden + 1
		l = append(l, x, x>>32, x>>13)
	}
	return l
}

// few is some of the words, for calls that take three.
func few() []uint64 {
	l := []uint64{0, 1, 2, 3, 7, 10, api.Floor, api.One - 1, api.One, api.One + 1, 0xffffffff00000000, greatest - 1, greatest}
	for _, bit := range []int{31, 33, 47, 48, 62, 63} {
		p := uint64(1) << bit
		l = append(l, p-1, p, p+1)
	}
	for i := range uint64(8) {
		x := i*golden + 1
		l = append(l, x, x>>32)
	}
	return l
}

// wide and wideInt are numbers without a bound: they share no wrap-round with the program.
func wide(x uint64) *big.Int { return new(big.Int).SetUint64(x) }

func wideInt(n int) *big.Int { return big.NewInt(int64(n)) }

func least(x, y *big.Int) *big.Int {
	if y.Cmp(x) < 0 {
		return y
	}
	return x
}

func held(x, low, high *big.Int) *big.Int {
	if x.Cmp(low) < 0 {
		x = low
	}
	return least(x, high)
}

// wideScale is a times num by den, rounded down, in numbers without a bound, and then held.
func wideScale(a, num, den *big.Int) *big.Int {
	if den.Sign() == 0 {
		return wide(greatest)
	}
	x := new(big.Int).Mul(a, num)
	return least(x.Div(x, den), wide(greatest))
}

// P2.1: one more, but not beyond most; a number that is above most stays.
func TestInc(t *testing.T) {
	for i, x := range []struct{ n, most, want int }{
		{0, 15, 1}, {13, 15, 14}, {14, 15, 15}, {15, 15, 15}, {16, 15, 16}, {20, 15, 20},
		{0, 0, 0}, {-1, 0, 0}, {-1, 15, 0}, {1, 0, 1}, {-1, -1, -1}, {-2, -1, -1}, {0, -1, 0}, {5, -7, 5},
		{api.MaxCount - 1, api.MaxCount, api.MaxCount}, {api.MaxCount, api.MaxCount, api.MaxCount}, {api.MaxCount + 1, api.MaxCount, api.MaxCount + 1},
		{math.MaxInt - 1, math.MaxInt, math.MaxInt}, {math.MaxInt, math.MaxInt, math.MaxInt}, {math.MaxInt, 0, math.MaxInt}, {math.MaxInt, math.MinInt, math.MaxInt},
		{math.MinInt, math.MaxInt, math.MinInt + 1}, {math.MinInt, 0, math.MinInt + 1}, {math.MinInt, math.MinInt, math.MinInt}, {math.MinInt + 1, math.MinInt, math.MinInt + 1},
	} {
		if got := fix.Inc(x.n, x.most); got != x.want {
			t.Errorf("%d: Inc(%d, %d): %d, not %d", i, x.n, x.most, got, x.want)
		}
	}
}

// P2.1: each is held within 0 and MaxCount ahead of the sum, and the sum is held too.
func TestAdd(t *testing.T) {
	const m = api.MaxCount
	for i, x := range []struct{ a, b, want int }{
		{0, 0, 0}, {1, 2, 3}, {2, 1, 3}, {0, 7, 7}, {7, 0, 7},
		{-5, 2, 2}, {2, -5, 2}, {-1, -1, 0}, {-1, 0, 0}, {-m, m, m}, {m, -m, m}, {m, -1, m},
		{m, 0, m}, {0, m, m}, {m, 1, m}, {1, m, m}, {m, m, m}, {m - 1, 1, m}, {m - 1, 0, m - 1}, {m - 1, 2, m}, {m - 2, 1, m - 1},
		{m / 2, m / 2, m}, {m / 2, m/2 - 1, m - 1}, {m / 2, m/2 + 1, m},
		{m + 1, 0, m}, {m + 1, -1, m}, {-1, m + 1, m}, {m + 5, m + 5, m}, {m + 1, -m, m},
		{math.MaxInt, math.MaxInt, m}, {math.MaxInt, 1, m}, {1, math.MaxInt, m}, {math.MaxInt, math.MinInt, m}, {math.MinInt, math.MaxInt, m},
		{math.MinInt, math.MinInt, 0}, {math.MinInt, 3, 3}, {3, math.MinInt, 3}, {math.MinInt, -1, 0},
	} {
		if got := fix.Add(x.a, x.b); got != x.want {
			t.Errorf("%d: Add(%d, %d): %d, not %d", i, x.a, x.b, got, x.want)
		}
	}
}

// P2.1: at least low, and then at most high, so that high wins where low is above it.
func TestClamp(t *testing.T) {
	for i, x := range []struct{ n, low, high, want int }{
		{5, 0, 9, 5}, {0, 0, 9, 0}, {9, 0, 9, 9}, {-1, 0, 9, 0}, {10, 0, 9, 9}, {-5, 0, 9, 0}, {50, 0, 9, 9},
		{5, 5, 5, 5}, {4, 5, 5, 5}, {6, 5, 5, 5}, {-3, -9, -1, -3}, {0, -9, -1, -1}, {-10, -9, -1, -9},
		{5, 9, 0, 0}, {-5, 9, 0, 0}, {50, 9, 0, 0}, {0, 9, 0, 0}, {9, 9, 0, 0}, {0, 1, -1, -1},
		{math.MinInt, math.MinInt, math.MaxInt, math.MinInt}, {math.MaxInt, math.MinInt, math.MaxInt, math.MaxInt}, {0, math.MinInt, math.MaxInt, 0},
		{math.MinInt, 0, 9, 0}, {math.MaxInt, 0, 9, 9}, {0, math.MaxInt, math.MinInt, math.MinInt}, {math.MaxInt, math.MaxInt, math.MinInt, math.MinInt},
		{7, math.MaxInt, math.MaxInt, math.MaxInt}, {7, math.MinInt, math.MinInt, math.MinInt},
	} {
		if got := fix.Clamp(x.n, x.low, x.high); got != x.want {
			t.Errorf("%d: Clamp(%d, %d, %d): %d, not %d", i, x.n, x.low, x.high, got, x.want)
		}
	}
}

// P2.1, P2.3: Inc, Add and Clamp are what the document says in numbers without a bound.
func TestCountsByTheWords(t *testing.T) {
	one, none, full := wideInt(1), wideInt(0), wideInt(api.MaxCount)
	for _, a := range wholes() {
		for _, b := range wholes() {
			inc := wideInt(a)
			if inc.Cmp(wideInt(b)) <= 0 {
				inc = least(inc.Add(inc, one), wideInt(b))
			}
			if got := fix.Inc(a, b); inc.Cmp(wideInt(got)) != 0 {
				t.Errorf("Inc(%d, %d): %d, not %v", a, b, got, inc)
			}
			sum := new(big.Int).Add(held(wideInt(a), none, full), held(wideInt(b), none, full))
			if got := fix.Add(a, b); least(sum, full).Cmp(wideInt(got)) != 0 {
				t.Errorf("Add(%d, %d): %d, not %v", a, b, got, sum)
			}
			for _, c := range wholes() {
				want := held(wideInt(a), wideInt(b), wideInt(c))
				if got := fix.Clamp(a, b, c); want.Cmp(wideInt(got)) != 0 {
					t.Fatalf("Clamp(%d, %d, %d): %d, not %v", a, b, c, got, want)
				}
			}
		}
	}
}

// P2.2: a product by 2^32, rounded down and held.
func TestMul(t *testing.T) {
	for i, x := range []struct{ a, b, want uint64 }{
		{api.One, 5, 5}, {5, api.One, 5}, {api.One, api.One, api.One}, {api.One / 2, 10, 5}, {0, 0, 0}, {0, greatest, 0}, {greatest, 0, 0},
		// Rounded down, even where hardly anything is missing.
		{1, 1, 0}, {1, api.One - 1, 0}, {1 << 16, 1<<16 - 1, 0}, {1 << 16, 1 << 16, 1}, {1 << 31, 3, 1}, {3, api.One - 1, 2}, {1, greatest, api.One - 1}, {greatest, 1, api.One - 1},
		{api.One - 1, api.One - 1, api.One - 2}, {api.One + 1, api.One - 1, api.One - 1}, {api.One + 1, api.One + 1, api.One + 2},
		// 2^64 less 1 just so, below it, and above it.
		{greatest, api.One, greatest}, {api.One, greatest, greatest}, {1<<48 - 1, 1<<48 + 1, greatest},
		{greatest - 1, api.One, greatest - 1}, {api.One, greatest - 1, greatest - 1}, {greatest, api.One - 1, 0xfffffffeffffffff}, {1<<48 - 1, 1 << 48, 0xffffffffffff0000},
		{1 << 48, 1 << 48, greatest}, {1<<48 + 1, 1 << 48, greatest}, {greatest, api.One + 1, greatest}, {api.One + 1, greatest, greatest},
		{1 << 63, 2 * api.One, greatest}, {2 * api.One, 1 << 63, greatest}, {1 << 63, 1 << 63, greatest}, {greatest, 2 * api.One, greatest}, {greatest, greatest, greatest},
		// Halves that carry into each other.
		{0x1_ffffffff, 0x1_ffffffff, 0x3_fffffffc}, {0xffffffff, 0x1_00000001, 0xffffffff}, {0xffff_ffffffff, 0xffff_ffffffff, 0xfffffffffffe0000}, {0x80000001, 0x1_fffffffe, 0x1_00000000},
	} {
		if got := fix.Mul(x.a, x.b); got != x.want {
			t.Errorf("%d: Mul(%#x, %#x): %#x, not %#x", i, x.a, x.b, got, x.want)
		}
	}
}

// P2.2: a product by den, rounded down, with no bound on the way, and held.
func TestScale(t *testing.T) {
	for i, x := range []struct{ a, num, den, want uint64 }{
		{7, 3, 2, 10}, {3, 7, 2, 10}, {7, 3, 1, 21}, {7, 3, 21, 1}, {7, 3, 22, 0}, {6, 3, 2, 9}, {5, 0, 9, 0}, {0, 5, 9, 0}, {0, 0, 1, 0}, {0, greatest, greatest, 0},
		{1, 1, greatest, 0}, {greatest, 1, greatest, 1}, {greatest - 1, 1, greatest, 0}, {1, greatest, greatest - 1, 1},
		// No den.
		{7, 3, 0, greatest}, {0, 0, 0, greatest}, {0, 5, 0, greatest}, {5, 0, 0, greatest}, {greatest, greatest, 0, greatest},
		// 2^64 less 1 just so, below it, and above it.
		{0x5555555555555555, 3, 1, greatest}, {api.One - 1, api.One + 1, 1, greatest}, {greatest, 1, 1, greatest}, {1, greatest, 1, greatest}, {greatest, 2, 2, greatest}, {greatest, greatest, greatest, greatest},
		{greatest - 1, 1, 1, greatest - 1}, {greatest - 1, greatest, greatest, greatest - 1}, {greatest, greatest - 1, greatest, greatest - 1}, {greatest, 3, 4, 0xbfffffffffffffff}, {greatest - 1, 2, 2, greatest - 1},
		{api.One, api.One, 1, greatest}, {1 << 63, 2, 1, greatest}, {greatest, 2, 1, greatest}, {greatest, 3, 2, greatest}, {greatest, greatest, 1, greatest}, {greatest, greatest, greatest - 1, greatest}, {1 << 63, 4, 2, greatest},
		// A product that is beyond one word, and an answer that is not.
		{greatest, 10, 20, greatest / 2}, {greatest, greatest - 2, greatest, greatest - 2}, {1 << 63, 1 << 63, 1 << 63, 1 << 63}, {api.One, api.One, 2, 1 << 63}, {api.One, api.One, 3, 0x5555555555555555},
		// Halves that carry into each other.
		{0x1_ffffffff, 0x1_ffffffff, api.One, 0x3_fffffffc}, {0xffff_ffffffff, 0xffff_ffffffff, api.One, 0xfffffffffffe0000}, {0x1_ffffffff, 0x1_ffffffff, 0x1_ffffffff, 0x1_ffffffff}, {greatest, greatest - 1, greatest - 1, greatest},
	} {
		if got := fix.Scale(x.a, x.num, x.den); got != x.want {
			t.Errorf("%d: Scale(%#x, %#x, %#x): %#x, not %#x", i, x.a, x.num, x.den, got, x.want)
		}
	}
}

// P2.2, P2.3: Mul and Scale are what the document says in numbers without a bound.
func TestProductsByTheWords(t *testing.T) {
	by := new(big.Int).Lsh(big.NewInt(1), 32)
	for _, a := range words() {
		for _, b := range words() {
			want := wideScale(wide(a), wide(b), by)
			if got := fix.Mul(a, b); want.Cmp(wide(got)) != 0 {
				t.Fatalf("Mul(%#x, %#x): %#x, not %#x", a, b, got, want)
			}
		}
	}
	for _, a := range few() {
		for _, num := range few() {
			for _, den := range few() {
				want := wideScale(wide(a), wide(num), wide(den))
				if got := fix.Scale(a, num, den); want.Cmp(wide(got)) != 0 {
					t.Fatalf("Scale(%#x, %#x, %#x): %#x, not %#x", a, num, den, got, want)
				}
			}
		}
	}
}

// P2.2: where the quotient crosses from 2^64 less 1 to what is more, it is held and not cut.
func TestScaleAtItsBound(t *testing.T) {
	for _, a := range few() {
		for _, num := range few() {
			// The upper word of the product is the last den at which the quotient is too much.
			last := new(big.Int).Rsh(new(big.Int).Mul(wide(a), wide(num)), 64).Uint64()
			for _, den := range []uint64{last - 1, last, last + 1, last + 2} {
				want := wideScale(wide(a), wide(num), wide(den))
				if got := fix.Scale(a, num, den); want.Cmp(wide(got)) != 0 {
					t.Errorf("Scale(%#x, %#x, %#x): %#x, not %#x", a, num, den, got, want)
				}
			}
		}
	}
}

// P2.3: nothing goes round: one more of what is handed in never makes an answer less.
func TestNothingGoesRound(t *testing.T) {
	for _, a := range wholes() {
		for _, b := range wholes() {
			if a < math.MaxInt && (fix.Inc(a+1, b) < fix.Inc(a, b) || fix.Add(a+1, b) < fix.Add(a, b) || fix.Add(b, a+1) < fix.Add(b, a)) {
				t.Errorf("Inc or Add goes round at %d, %d", a, b)
			}
			if n := fix.Add(a, b); n < 0 || n > api.MaxCount {
				t.Errorf("Add(%d, %d): %d", a, b, n)
			}
			if n := fix.Inc(a, b); n < a {
				t.Errorf("Inc(%d, %d): %d", a, b, n)
			}
		}
	}
	for _, a := range words() {
		for _, b := range words() {
			if a == greatest {
				continue
			}
			if fix.Mul(a+1, b) < fix.Mul(a, b) || fix.Mul(b, a+1) < fix.Mul(b, a) {
				t.Errorf("Mul goes round at %#x, %#x", a, b)
			}
			for _, den := range []uint64{0, 1, 3, api.One, b, greatest} {
				if fix.Scale(a+1, b, den) < fix.Scale(a, b, den) || fix.Scale(b, a+1, den) < fix.Scale(b, a, den) {
					t.Errorf("Scale goes round at %#x, %#x, %#x", a, b, den)
				}
			}
		}
	}
}

// answers is all that the package tells of three ints and three words.
type answers struct {
	inc, sum, clamped int
	product, scaled   uint64
}

func ask(n []int, w []uint64) answers {
	return answers{fix.Inc(n[0], n[1]), fix.Add(n[0], n[1]), fix.Clamp(n[0], n[1], n[2]), fix.Mul(w[0], w[1]), fix.Scale(w[0], w[1], w[2])}
}

// P2.3: what was asked before, and in which order, changes no answer.
func TestAnswersDependOnArgumentsAlone(t *testing.T) {
	ns, ws := wholes(), words()
	var first []answers
	for i := range len(ws) - 2 {
		j := i % (len(ns) - 2)
		first = append(first, ask(ns[j:j+3], ws[i:i+3]))
	}
	for i := len(first) - 1; i >= 0; i-- {
		j := i % (len(ns) - 2)
		if got := ask(ns[j:j+3], ws[i:i+3]); got != first[i] {
			t.Errorf("%d: first %v, then %v", i, first[i], got)
		}
	}
}
