package tape_test

import (
	"math"
	"slices"
	"testing"

	"hoard/tape"
)

const greatest = math.MaxUint32

// lists is lists at the edges: none, one, zeros among the draws, draws that come again, and many.
func lists() [][]uint32 {
	l := [][]uint32{
		nil, {}, {5}, {0}, {greatest}, {1, 2, 3}, {3, 2, 1}, {5, greatest}, {7, 7, 7, 7},
		{0, 0, 0}, {0, 5}, {5, 0}, {5, 0, 0, 6}, {greatest, 0, greatest}, {1 << 31, 1<<31 - 1, 1, 1<<16 - 1, 1 << 16},
	}
	return append(l, spread(255), spread(256), spread(257), spread(100_000))
}

// spread is so many draws, no two alike: each sits at one place alone.
func spread(n int) []uint32 {
	l := make([]uint32, n)
	for i := range l {
		// An odd factor sends no two numbers of 32 bits to one.
		l[i] = uint32(i)*0x9e3779b9 + 1
	}
	return l
}

// counts holds what a tape tells of itself against what it should.
func counts(t *testing.T, x *tape.Tape, left, taken int) {
	t.Helper()
	if got := x.Left(); got != left {
		t.Fatalf("Left: %d, not %d", got, left)
	}
	if got := x.Taken(); got != taken {
		t.Fatalf("Taken: %d, not %d", got, taken)
	}
}

// draws takes what is wanted from a tape, one by one.
func draws(t *testing.T, x *tape.Tape, want ...uint32) {
	t.Helper()
	for i, w := range want {
		if got := x.Next(); got != w {
			t.Fatalf("draw %d: %d, not %d", i, got, w)
		}
	}
}

// P3.1: the document's example.
func TestExample(t *testing.T) {
	draws(t, tape.New(5), 5, 0)
}

// P3.1: each draw in its order, with both counts at the beginning, at each place in the midst, at the end and beyond it.
func TestAllOfATape(t *testing.T) {
	for _, l := range lists() {
		x := tape.New(l...)
		for i, want := range l {
			counts(t, x, len(l)-i, i)
			draws(t, x, want)
		}
		for i := range 300 {
			counts(t, x, 0, len(l)+i)
			draws(t, x, 0)
		}
		counts(t, x, 0, len(l)+300)
	}
}

// P3.1: draws that are written out one by one are those of a list.
func TestDrawsWrittenOut(t *testing.T) {
	x := tape.New(4, 0, greatest)
	counts(t, x, 3, 0)
	draws(t, x, 4, 0, greatest, 0, 0)
	counts(t, x, 0, 5)
}

// P3.1: no draws at all, however that is said: each Next draws 0 and counts.
func TestNoDraws(t *testing.T) {
	for _, x := range []*tape.Tape{tape.New(), tape.New(nil...), tape.New([]uint32{}...), tape.New([]uint32{8, 9}[:0]...), new(tape.Tape)} {
		if x == nil {
			t.Fatal("no tape")
		}
		for i := range 50 {
			counts(t, x, 0, i)
			draws(t, x, 0)
		}
		counts(t, x, 0, 50)
	}
}

// P3.1: far beyond the last draw nothing comes again, and all of it counts.
func TestFarBeyondTheEnd(t *testing.T) {
	const times = 1 << 20
	x := tape.New(5, 6)
	draws(t, x, 5, 6)
	for range times {
		draws(t, x, 0)
	}
	counts(t, x, 0, times+2)
}

// P3.1: a draw of 0 that is on the tape is one of those that are left; one beyond the end is not.
func TestZeroOnTheTape(t *testing.T) {
	x := tape.New(0, 0)
	counts(t, x, 2, 0)
	draws(t, x, 0)
	counts(t, x, 1, 1)
	draws(t, x, 0)
	counts(t, x, 0, 2)
	draws(t, x, 0)
	counts(t, x, 0, 3)
}

// P3.1: Left and Taken take nothing, however often they are asked, and are right if they were never asked before.
func TestAskingTakesNothing(t *testing.T) {
	x, y := tape.New(5, 6, 7), tape.New(5, 6, 7)
	for i, want := range []uint32{5, 6, 7, 0, 0} {
		for range 10 {
			counts(t, x, max(0, 3-i), i)
		}
		draws(t, x, want)
		draws(t, y, want)
	}
	counts(t, y, 0, 5)
}

// P3.2: a list that is changed behind the call, at whatever place of the tape, changes no draw.
func TestListChangedBehindTheCall(t *testing.T) {
	for at := range 4 {
		l := []uint32{5, 6, 7}
		x := tape.New(l...)
		for i, want := range []uint32{5, 6, 7, 0} {
			if i == at {
				l[0], l[1], l[2] = 50, 60, 70
			}
			draws(t, x, want)
		}
		counts(t, x, 0, 4)
	}
	for _, l := range lists() {
		was := slices.Clone(l)
		x := tape.New(l...)
		clear(l)
		draws(t, x, was...)
	}
}

// P3.2: what is put into the spare room behind a list's end does not come to the tape, at its beginning or later.
func TestListGrownBehindTheCall(t *testing.T) {
	room := make([]uint32, 2, 8)
	room[0], room[1] = 5, 6
	x := tape.New(room...)
	room = append(room, 70, 80)
	counts(t, x, 2, 0)
	draws(t, x, 5, 6)
	room = append(room, 90)
	counts(t, x, 0, 2)
	draws(t, x, 0, 0)
	none := make([]uint32, 0, 8)
	y := tape.New(none...)
	none = append(none, 5)
	counts(t, y, 0, 0)
	draws(t, y, 0)
	if !slices.Equal(room, []uint32{5, 6, 70, 80, 90}) || none[0] != 5 {
		t.Errorf("the lists are %v and %v", room, none)
	}
}

// P3.2: neither New nor a draw, on the tape or beyond it, changes the list or the room around it.
func TestListLookedAtBehindTheCall(t *testing.T) {
	all := []uint32{1, 2, 5, 6, 7, 3, 4}
	was := slices.Clone(all)
	l := all[2:5]
	x := tape.New(l...)
	for range 10 {
		if !slices.Equal(all, was) || len(l) != 3 || cap(l) != 5 {
			t.Fatalf("the list is %v in %v", l, all)
		}
		x.Next()
		x.Left()
		x.Taken()
	}
	for _, l := range lists() {
		was := slices.Clone(l)
		x := tape.New(l...)
		for range len(l) + 3 {
			x.Next()
		}
		if !slices.Equal(l, was) {
			t.Errorf("a list of %d is changed", len(l))
		}
	}
}

// P3.1, P3.2: two tapes of one list do not meet, whichever is drawn from, and one that is made later begins anew.
func TestTwoTapesOfOneList(t *testing.T) {
	l := []uint32{5, 6, 7}
	x, y := tape.New(l...), tape.New(l...)
	draws(t, x, 5, 6)
	counts(t, x, 1, 2)
	counts(t, y, 3, 0)
	draws(t, y, 5)
	counts(t, x, 1, 2)
	draws(t, x, 7, 0, 0)
	counts(t, y, 2, 1)
	z := tape.New(l...)
	counts(t, z, 3, 0)
	draws(t, y, 6, 7, 0)
	draws(t, z, 5, 6, 7, 0)
	counts(t, x, 0, 5)
	counts(t, y, 0, 4)
	counts(t, z, 0, 4)
}

// P3.2: a nil Tape draws 0 and counts nothing, however often and in whatever order it is asked.
func TestNilTape(t *testing.T) {
	var x *tape.Tape
	counts(t, x, 0, 0)
	for range 100 {
		draws(t, x, 0)
		counts(t, x, 0, 0)
	}
}

// W8: where a tape is copied as a value, the one that is used on goes on from there.
func TestCopiedTape(t *testing.T) {
	x := tape.New(5, 6, 7)
	draws(t, x, 5)
	y := *x
	counts(t, &y, 2, 1)
	draws(t, &y, 6, 7, 0)
	counts(t, &y, 0, 4)
}
