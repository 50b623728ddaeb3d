package sample_test

import (
	"math"
	"math/big"
	"runtime"
	"slices"
	"strconv"
	"strings"
	"testing"
	"unsafe"
	"weak"

	"hoard/api"
	"hoard/mix"
	"hoard/sample"
)

const whole = 1 << 24

// rates is rates at the edges and far off, with what is held of each.
func rates() []struct{ rate, held int } {
	return []struct{ rate, held int }{
		{math.MinInt, 0}, {math.MinInt + 1, 0}, {-(1 << 32) + 5, 0}, {-(1 << 32), 0}, {-whole - 1, 0}, {-whole, 0}, {-2, 0}, {-1, 0},
		{0, 0}, {1, 1}, {2, 2}, {3, 3}, {255, 255}, {1 << 14, 1 << 14}, {1<<14 - 1, 1<<14 - 1}, {1<<14 + 1, 1<<14 + 1},
		{1 << 16, 1 << 16}, {whole / 3, whole / 3}, {1<<23 - 1, 1<<23 - 1}, {1 << 23, 1 << 23}, {1<<23 + 1, 1<<23 + 1},
		{whole - 2, whole - 2}, {whole - 1, whole - 1}, {whole, whole}, {whole + 1, whole}, {whole + 2, whole},
		{2*whole - 1, whole}, {2 * whole, whole}, {1<<32 - 1, whole}, {1 << 32, whole}, {1<<32 + 5, whole}, {1 << 40, whole}, {1 << 62, whole},
		{math.MaxInt - 1, whole}, {math.MaxInt, whole},
	}
}

// rooms is rooms at the edges and far off.
func rooms() []int {
	return []int{
		math.MinInt, math.MinInt + 1, -(1 << 40), 100 - 1<<32, -(1 << 32), -api.MaxRoom - 1, -api.MaxRoom, -2, -1, 0, 1, 2, 3, 4, 5, 7, 8, 9, 50, 99, 100, 101, 511, 512, 513,
		api.MaxRoom - 2, api.MaxRoom - 1, api.MaxRoom, api.MaxRoom + 1, 2 * api.MaxRoom, 1 << 16, 1<<32 - 1, 1 << 32, 1<<32 + 3, 1 << 40, 1 << 41, 1 << 62, math.MaxInt - 1, math.MaxInt,
	}
}

// roomOf is what the document says of a room, with no bound on the way.
func roomOf(held, c int) int {
	c = min(max(c, 0), 1024)
	part := new(big.Int).Mul(big.NewInt(int64(c)), big.NewInt(int64(held)))
	return max(int(part.Div(part, big.NewInt(whole)).Int64()), 1)
}

// numberOf is a key's number among those that a rate is held against.
func numberOf(key string) int { return int(mix.Hash(21, key) % whole) }

// plain is what the document says of a sample, and the sample that is told of the same.
type plain struct {
	t                *testing.T
	s                *sample.Sample
	held, all, taken int
}

func newPlain(t *testing.T, rate int) *plain {
	return &plain{t: t, s: sample.New(rate), held: min(max(rate, 0), whole)}
}

func (p *plain) takes(keys ...string) {
	p.t.Helper()
	for _, key := range keys {
		want := mix.Sampled(mix.Hash(21, key), p.held)
		if want != (numberOf(key) < p.held) {
			p.t.Fatal("the test's own words")
		}
		p.all++
		if want {
			p.taken++
		}
		if got := p.s.Takes(key); got != want {
			p.t.Fatalf("rate %d: Takes(%.40q): %v", p.held, key, got)
		}
		p.tells()
	}
}

// tells holds the counts and the rate against the plain ones, twice: to be asked changes nothing.
func (p *plain) tells() {
	p.t.Helper()
	for range 2 {
		if all, taken := p.s.Seen(); all != p.all || taken != p.taken {
			p.t.Fatalf("rate %d: Seen %d %d, not %d %d", p.held, all, taken, p.all, p.taken)
		}
		if got := p.s.Rate(); got != p.held {
			p.t.Fatalf("Rate %d, not %d", got, p.held)
		}
	}
}

// numbered is so many keys.
func numbered(n int) []string {
	keys := make([]string, n)
	for i := range keys {
		keys[i] = "k" + strconv.Itoa(i)
	}
	return keys
}

// allBytes is all bytes, many times.
func allBytes() string {
	all := make([]byte, 4096)
	for i := range all {
		all[i] = byte(i)
	}
	return string(all)
}

// known is some keys' numbers, from a reckoning outside of the program; the last ones lie at both ends.
func known() []struct {
	key    string
	number int
} {
	return []struct {
		key    string
		number int
	}{
		{"", 11479881}, {"a", 15429480}, {"b", 5109545}, {"\x00", 1463367}, {"\x00\x00", 6531412},
		{"user:42", 4195033}, {"user:43", 6071733}, {strings.Repeat("k", 24), 7025105}, {strings.Repeat("k", 25), 16098471},
		{"é", 9551983}, {"\xff\xfe", 12060539}, {allBytes(), 8533449},
		{"k6185706", 0}, {"k9037719", 0}, {"k14773634", 1}, {"k44490806", 1}, {"k11477197", 2}, {"k48022841", 2},
		{"k6777698", whole - 3}, {"k106741554", whole - 3}, {"k14018246", whole - 2}, {"k25538582", whole - 2}, {"k17823391", whole - 1}, {"k39483910", whole - 1},
	}
}

// P9.1: the document's example.
func TestExample(t *testing.T) {
	s := sample.New(1 << 23)
	if a, b := s.Room(100), s.Room(1); a != 50 || b != 1 {
		t.Errorf("%d, %d", a, b)
	}
}

// P9.1: the rate is held within 0 and MaxRate, and the counts begin at 0.
func TestRateIsHeld(t *testing.T) {
	for _, x := range rates() {
		s := sample.New(x.rate)
		if s == nil {
			t.Fatalf("New(%d): nil", x.rate)
		}
		if got := s.Rate(); got != x.held {
			t.Errorf("New(%d): Rate %d, not %d", x.rate, got, x.held)
		}
		if all, taken := s.Seen(); all != 0 || taken != 0 {
			t.Errorf("New(%d): Seen %d %d", x.rate, all, taken)
		}
	}
}

// P9.1: each room by each rate, at the edges and far off.
func TestRoomAtTheEdges(t *testing.T) {
	for _, x := range rates() {
		s := sample.New(x.rate)
		for _, c := range rooms() {
			if got, want := s.Room(c), roomOf(x.held, c); got != want {
				t.Errorf("rate %d: Room(%d): %d, not %d", x.rate, c, got, want)
			}
		}
	}
}

// P9.1: rooms written out: rounded down, at least 1, held within 0 and MaxRoom.
func TestRoomsWrittenOut(t *testing.T) {
	for _, x := range []struct{ rate, c, want int }{
		{0, 0, 1}, {0, 1, 1}, {0, 1024, 1}, {0, math.MaxInt, 1}, {-1, 1024, 1}, {math.MinInt, math.MinInt, 1}, {math.MinInt, math.MaxInt, 1},
		{1, 1024, 1}, {1, math.MaxInt, 1}, {1<<14 - 1, 1024, 1}, {1 << 14, 1024, 1}, {1 << 15, 1023, 1}, {1<<15 - 1, 1024, 1}, {1 << 15, 1024, 2},
		{1 << 23, 2, 1}, {1 << 23, 3, 1}, {1 << 23, 4, 2}, {1 << 23, 5, 2}, {1 << 23, 1023, 511}, {1 << 23, 1024, 512}, {1 << 23, 1025, 512}, {1<<23 - 1, 4, 1}, {1<<23 - 1, 1024, 511}, {1<<23 + 1, 4, 2},
		{whole / 3, 3, 1}, {whole / 3, 6, 1}, {whole/3 + 1, 6, 2}, {whole / 3, 1024, 341},
		{whole - 1, 1, 1}, {whole - 1, 2, 1}, {whole - 1, 3, 2}, {whole - 1, 100, 99}, {whole - 1, 1023, 1022}, {whole - 1, 1024, 1023}, {whole - 1, math.MaxInt, 1023},
		{whole, math.MinInt, 1}, {whole, -1024, 1}, {whole, -5, 1}, {whole, -1, 1}, {whole, 0, 1}, {whole, 1, 1}, {whole, 2, 2}, {whole, 100, 100}, {whole, 1023, 1023}, {whole, 1024, 1024}, {whole, 1025, 1024}, {whole, 5000, 1024}, {whole, math.MaxInt, 1024},
		{whole + 1, 7, 7}, {whole + 1, 1024, 1024}, {2 * whole, 7, 7}, {2 * whole, 1024, 1024}, {math.MaxInt, 0, 1}, {math.MaxInt, 7, 7}, {math.MaxInt, 1024, 1024}, {math.MaxInt, math.MaxInt, 1024}, {math.MaxInt, math.MinInt, 1},
	} {
		if roomOf(min(max(x.rate, 0), whole), x.c) != x.want {
			t.Fatalf("the test's own words: rate %d, room %d", x.rate, x.c)
		}
		if got := sample.New(x.rate).Room(x.c); got != x.want {
			t.Errorf("rate %d: Room(%d): %d, not %d", x.rate, x.c, got, x.want)
		}
	}
}

// P9.1: for each room, the least rate by which it becomes each number, and the one below it.
func TestRoomsRoundDown(t *testing.T) {
	for c := 1; c <= api.MaxRoom; c++ {
		for _, want := range []int{2, 3, 5, c / 2, c/2 + 1, c - 1, c} {
			if want < 2 || want > c {
				continue
			}
			least := (want*whole + c - 1) / c
			if got := sample.New(least).Room(c); got != want {
				t.Fatalf("rate %d: Room(%d): %d, not %d", least, c, got, want)
			}
			if got := sample.New(least - 1).Room(c); got != want-1 {
				t.Fatalf("rate %d: Room(%d): %d, not %d", least-1, c, got, want-1)
			}
		}
	}
}

// P9.1: each room from below 0 to beyond MaxRoom, by many rates; never below 1, never above the room, never falling.
func TestEachRoom(t *testing.T) {
	for i := range 130 {
		rate := i * (whole / 128)
		for _, rate := range []int{rate - 1, rate, rate + 1} {
			s, before := sample.New(rate), 0
			held := min(max(rate, 0), whole)
			for c := -3; c < api.MaxRoom+3; c++ {
				got := s.Room(c)
				if got != max(min(max(c, 0), api.MaxRoom)*held/whole, 1) || got < before || got > max(c, 1) {
					t.Fatalf("rate %d: Room(%d): %d behind %d", rate, c, got, before)
				}
				before = got
			}
		}
	}
}

// P9.1: a room hangs on the rate and on c alone, whatever was taken.
func TestRoomStays(t *testing.T) {
	for _, x := range rates() {
		p := newPlain(t, x.rate)
		for _, key := range numbered(30) {
			p.takes(key)
			for _, c := range []int{-1, 0, 1, 100, api.MaxRoom, api.MaxRoom + 1} {
				if got, want := p.s.Room(c), roomOf(x.held, c); got != want {
					t.Fatalf("rate %d: Room(%d): %d, not %d", x.rate, c, got, want)
				}
			}
			p.tells()
		}
	}
}

// P9.1: keys with known numbers, right at their rates and at all others that are named.
func TestKnownKeys(t *testing.T) {
	for _, x := range known() {
		if numberOf(x.key) != x.number {
			t.Fatalf("%.20q: the number %d, not %d", x.key, numberOf(x.key), x.number)
		}
		for _, rate := range []int{x.number - 1, x.number, x.number + 1, x.number + 2, x.number + whole, x.number - whole, x.number + 1<<32} {
			if got, want := sample.New(rate).Takes(x.key), x.number < min(max(rate, 0), whole); got != want {
				t.Errorf("rate %d: Takes(%.20q), the number %d: %v", rate, x.key, x.number, got)
			}
		}
		for _, r := range rates() {
			if got := sample.New(r.rate).Takes(x.key); got != (x.number < r.held) {
				t.Errorf("rate %d: Takes(%.20q), the number %d: %v", r.rate, x.key, x.number, got)
			}
		}
	}
}

// P9.1: the rate 1 takes just those of the number 0, one less than MaxRate all but those of the last number.
func TestBothEnds(t *testing.T) {
	for _, x := range []struct {
		rate int
		want []string
	}{
		{0, nil}, {1, []string{"k6185706", "k9037719"}}, {2, []string{"k6185706", "k9037719", "k14773634", "k44490806"}},
		{3, []string{"k6185706", "k9037719", "k14773634", "k44490806", "k11477197", "k48022841"}},
	} {
		s := sample.New(x.rate)
		for _, k := range known() {
			if got := s.Takes(k.key); got != slices.Contains(x.want, k.key) {
				t.Errorf("rate %d: Takes(%.20q): %v", x.rate, k.key, got)
			}
		}
		if all, taken := s.Seen(); all != len(known()) || taken != len(x.want) {
			t.Errorf("rate %d: Seen %d %d", x.rate, all, taken)
		}
	}
	s := sample.New(api.MaxRate - 1)
	for _, k := range known() {
		if got := s.Takes(k.key); got != (k.key != "k17823391" && k.key != "k39483910") {
			t.Errorf("Takes(%.20q): %v", k.key, got)
		}
	}
	if all, taken := s.Seen(); all != len(known()) || taken != len(known())-2 {
		t.Errorf("Seen %d %d", all, taken)
	}
}

// P9.1: by the seed that is named and by no other: keys of which the seeds beside it tell otherwise.
func TestTheSeed(t *testing.T) {
	s := sample.New(1 << 23)
	for seed := range uint64(70) {
		if seed == 21 {
			continue
		}
		apart := 0
		for _, key := range numbered(60) {
			want := mix.Sampled(mix.Hash(21, key), 1<<23)
			if want != mix.Sampled(mix.Hash(seed, key), 1<<23) {
				apart++
			}
			if s.Takes(key) != want {
				t.Fatalf("Takes(%q): %v", key, !want)
			}
		}
		if apart < 5 {
			t.Fatalf("these keys do not tell seed %d apart", seed)
		}
	}
}

// P9.1: by the whole rate and by what is held to it all keys are taken, by 0 and by what is held to it none.
func TestAllAndNone(t *testing.T) {
	for _, x := range rates() {
		if x.held != 0 && x.held != whole {
			continue
		}
		s := sample.New(x.rate)
		for i, key := range slices.Concat([]string{"", "k17823391", "k39483910", "k6185706", "k9037719"}, numbered(300)) {
			if got := s.Takes(key); got != (x.held == whole) {
				t.Fatalf("rate %d: Takes(%q): %v", x.rate, key, got)
			}
			want := 0
			if x.held == whole {
				want = i + 1
			}
			if all, taken := s.Seen(); all != i+1 || taken != want {
				t.Fatalf("rate %d: Seen %d %d", x.rate, all, taken)
			}
		}
	}
}

// P9.1: Takes and what Seen tells behind each one, by each rate, with keys that come again.
func TestTakesAndSeen(t *testing.T) {
	for _, x := range rates() {
		p := newPlain(t, x.rate)
		for i := range 400 {
			p.takes("k" + strconv.Itoa(i*i%151))
		}
		for _, k := range known() {
			p.takes(k.key, k.key)
		}
	}
}

// P9.1: about as many are taken as the rate tells: keys that are alike do not bend it.
func TestAboutTheRate(t *testing.T) {
	const many = 20_000
	for _, part := range []int{2, 4, 10, 100} {
		s := sample.New(whole / part)
		for i := range many {
			s.Takes("user:" + strconv.Itoa(i))
		}
		all, taken := s.Seen()
		if want := many / part; all != many || taken < want*8/10 || taken > want*12/10 {
			t.Errorf("one of %d: %d of %d", part, taken, all)
		}
	}
}

// P9.1: Rate, Room and Seen change nothing: a sample that is asked a great deal and one that isn't tell the same.
func TestToBeAskedChangesNothing(t *testing.T) {
	for _, x := range rates() {
		asked, other := sample.New(x.rate), sample.New(x.rate)
		for i, key := range numbered(60) {
			for _, c := range rooms() {
				asked.Room(c)
				asked.Rate()
				asked.Seen()
			}
			if asked.Takes(key) != other.Takes(key) {
				t.Fatalf("rate %d: they part at %d", x.rate, i)
			}
		}
		a, b := asked.Seen()
		if all, taken := other.Seen(); a != all || b != taken || asked.Rate() != other.Rate() || asked.Room(1000) != other.Room(1000) {
			t.Errorf("rate %d: Seen %d %d and %d %d", x.rate, a, b, all, taken)
		}
	}
}

// P9.1: the empty text is a key as all others.
func TestEmptyText(t *testing.T) {
	for _, x := range []struct {
		rate  int
		taken bool
	}{{0, false}, {11479881, false}, {11479882, true}, {whole, true}} {
		p := newPlain(t, x.rate)
		p.takes("", "a", "", "\x00", "", " ")
		if got := p.s.Takes(""); got != x.taken {
			t.Errorf("rate %d: %v", x.rate, got)
		}
	}
}

// P9.1: keys that are alike but for their last letter, or by their length alone, are keys apart.
func TestAlikeKeys(t *testing.T) {
	for _, stem := range []string{"", "a", "user:", strings.Repeat("k", 23), strings.Repeat("k", 24), strings.Repeat("\x00", 7), strings.Repeat("é", 100), strings.Repeat("k", 5000)} {
		p := newPlain(t, 1<<23)
		for last := range 256 {
			p.takes(stem + string([]byte{byte(last)}))
		}
		if p.taken < 90 || p.taken > 166 {
			t.Errorf("%.20q: %d of 256 alike keys", stem, p.taken)
		}
		p.takes(stem, stem+"aa", stem+"\x00\x00", "a"+stem+"b", "b"+stem+"a", stem+" ", strings.ToUpper(stem))
	}
}

// P9.1: keys that are alike but for their length.
func TestLengths(t *testing.T) {
	for _, b := range []string{"a", "\x00", "\xff", "é"} {
		p := newPlain(t, 1<<23)
		for n := range 200 {
			p.takes(strings.Repeat(b, n))
		}
		if p.taken < 60 || p.taken > 140 {
			t.Errorf("%q: %d of 200 lengths", b, p.taken)
		}
	}
}

// P9.1: long keys, that part at their beginning, their middle or their end.
func TestLongKeys(t *testing.T) {
	for _, rate := range []int{0, 1 << 22, 1 << 23, 3 << 22, whole - 1, whole} {
		p := newPlain(t, rate)
		for _, n := range []int{25, 255, 256, 257, 4096, 1<<16 - 1, 1 << 16, 1<<16 + 1, 1 << 18} {
			half := strings.Repeat("x", n/2)
			p.takes(strings.Repeat("x", n), "y"+half+half, half+"y"+half, half+half+"y", strings.Repeat("\xff", n), strings.Repeat("\x00", n))
		}
	}
}

// P9.1: keys of any bytes, each key of one byte and of two; texts that no cache takes as keys are keys here.
func TestAnyBytes(t *testing.T) {
	for _, rate := range []int{1 << 20, 1 << 23, whole - 1<<20} {
		p := newPlain(t, rate)
		for i := range 1 << 16 {
			if i < 256 {
				p.takes(string([]byte{byte(i)}))
			}
			p.takes(string([]byte{byte(i >> 8), byte(i)}))
		}
		p.takes(allBytes(), "a b", "\n", "世界", "\xed\xa0\x80", "\xf4\x90\x80\x80")
	}
}

// lots is numbers that look drawn, but are told by the seed.
func lots(seed uint64) func(n int) int {
	x := seed*0x9e3779b97f4a7c15 + 1
	return func(n int) int {
		x = x*6364136223846793005 + 1442695040888963407
		return int((x >> 33) % uint64(n))
	}
}

// P9.2: a key is always taken, or never, whatever came between, and whatever came ahead.
func TestAlwaysOrNever(t *testing.T) {
	for _, rate := range []int{0, 1, 1 << 16, 1 << 20, 1 << 22, 1 << 23, 3 << 22, whole - 1<<16, whole - 1, whole} {
		lot := lots(uint64(rate))
		keys := append(numbered(80), "", "\xff", strings.Repeat("k", 300), "k6185706", "k17823391")
		first := map[string]bool{}
		for _, key := range keys {
			first[key] = sample.New(rate).Takes(key)
		}
		s := sample.New(rate)
		for i := range 4000 {
			key := keys[lot(len(keys))]
			if s.Takes(key) != first[key] {
				t.Fatalf("rate %d: Takes(%.20q) at %d: %v", rate, key, i, !first[key])
			}
			s.Room(lot(2000) - 400)
			s.Seen()
		}
		for _, key := range keys {
			for range 20 {
				if s.Takes(key) != first[key] {
					t.Fatalf("rate %d: Takes(%.20q) again: %v", rate, key, !first[key])
				}
			}
		}
	}
}

// P9.2: who is taken by a rate is taken by each greater one.
func TestGreaterRatesTakeMore(t *testing.T) {
	rising := []int{math.MinInt, -1, 0, 1, 2, 1 << 10, 1 << 20, 1 << 21, 1 << 22, 1<<23 - 1, 1 << 23, 3 << 22, whole - 2, whole - 1, whole, whole + 1, math.MaxInt}
	keys := numbered(300)
	for _, k := range known() {
		keys = append(keys, k.key)
	}
	samples := make([]*sample.Sample, len(rising))
	for i, rate := range rising {
		samples[i] = sample.New(rate)
	}
	for _, key := range keys {
		was := false
		for i, s := range samples {
			is := s.Takes(key)
			if was && !is {
				t.Fatalf("%.20q: taken by %d, not by %d", key, rising[i-1], rising[i])
			}
			was = is
		}
		if !was {
			t.Fatalf("%.20q: never taken", key)
		}
	}
	before := 0
	for i, s := range samples {
		all, taken := s.Seen()
		if all != len(keys) || taken < before {
			t.Errorf("rate %d: Seen %d %d behind %d", rising[i], all, taken, before)
		}
		before = taken
	}
}

// W2: two samples do not meet: what one is told of changes nothing in another one, of its rate or of others.
func TestTwoSamples(t *testing.T) {
	for _, x := range rates() {
		p, q, r := newPlain(t, 1<<22), newPlain(t, x.rate), newPlain(t, 1<<22)
		for i := range 90 {
			key := "k" + strconv.Itoa(i%50)
			p.takes(key)
			q.tells()
			r.tells()
			if i%3 == 0 {
				q.takes(key, "q", "")
				p.tells()
			}
			if i%4 == 1 {
				sample.New(i * 1000).Takes(key)
				r.takes("r" + key)
				p.tells()
				q.tells()
			}
		}
	}
}

// W6: a key that was handed in is not kept: the long text, of which it is a piece, is free while the sample lives on.
func TestHandedInIsNotKept(t *testing.T) {
	s := sample.New(1 << 23)
	long := strings.Repeat("key", 1<<16)
	weakly := weak.Make(unsafe.StringData(long))
	for i := range 9 {
		s.Takes(long[i : 2*i])
		s.Takes(long[i:])
	}
	long = ""
	runtime.GC()
	if weakly.Value() != nil {
		t.Error("the long text is still held")
	}
	runtime.KeepAlive(s)
}

// P9.2, W8: a nil Sample takes none, and tells zeros, in each call and in whatever order.
func TestNilSample(t *testing.T) {
	var s *sample.Sample
	for range 3 {
		for _, key := range []string{"", "a", "k6185706", "\xff", strings.Repeat("k", 5000)} {
			if s.Takes(key) {
				t.Errorf("Takes(%.20q)", key)
			}
			if all, taken := s.Seen(); all != 0 || taken != 0 {
				t.Errorf("Seen %d %d", all, taken)
			}
		}
		for _, c := range rooms() {
			if n := s.Room(c); n != 0 {
				t.Errorf("Room(%d): %d", c, n)
			}
		}
		if n := s.Rate(); n != 0 {
			t.Errorf("Rate %d", n)
		}
	}
}

// A Sample that New did not make is one of the rate 0: it takes none, and counts.
func TestZeroSample(t *testing.T) {
	p := &plain{t: t, s: new(sample.Sample)}
	p.takes("", "a", "k6185706", "a")
	for _, c := range rooms() {
		if n := p.s.Room(c); n != 1 {
			t.Errorf("Room(%d): %d", c, n)
		}
	}
}

// W8: one of the two goes on where a sample was copied as a value.
func TestCopied(t *testing.T) {
	p := newPlain(t, 1<<23)
	for i := range 100 {
		other := *p.s
		p.s = &other
		p.takes("k" + strconv.Itoa(i%30))
	}
}
