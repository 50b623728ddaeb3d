package sample

import (
	"testing"

	"hoard/api"
)

// P9.1: the counts stay at MaxCount, each by itself; nobody can call so often, so they are laid there.
func TestCountsStay(t *testing.T) {
	const most = api.MaxCount
	for _, x := range []struct {
		rate       int
		all, taken int
		wantAll    int
		wantTaken  int
	}{
		{api.MaxRate, 0, 0, 1, 1},
		{api.MaxRate, most - 2, most - 3, most - 1, most - 2},
		{api.MaxRate, most - 1, most - 2, most, most - 1},
		{api.MaxRate, most - 1, most - 1, most, most},
		{api.MaxRate, most, 5, most, 6},
		{api.MaxRate, most, most - 1, most, most},
		{api.MaxRate, most, most, most, most},
		{0, most - 2, 7, most - 1, 7},
		{0, most - 1, 7, most, 7},
		{0, most, 7, most, 7},
		{0, most, most - 1, most, most - 1},
		{0, most, most, most, most},
	} {
		s := New(x.rate)
		s.all, s.taken = x.all, x.taken
		if got := s.Takes("a"); got != (x.rate != 0) {
			t.Errorf("rate %d, counts %d %d: Takes %v", x.rate, x.all, x.taken, got)
		}
		if all, taken := s.Seen(); all != x.wantAll || taken != x.wantTaken {
			t.Errorf("rate %d, counts %d %d: %d %d, not %d %d", x.rate, x.all, x.taken, all, taken, x.wantAll, x.wantTaken)
		}
	}
}

// P9.1: a sample that has counted all that it can goes on to take the same keys.
func TestFullCountsTakeTheSame(t *testing.T) {
	full, fresh := New(api.MaxRate/2), New(api.MaxRate/2)
	full.all, full.taken = api.MaxCount, api.MaxCount
	for _, key := range []string{"", "a", "b", "c", "user:42", "user:43", "\x00", "\xff"} {
		for range 3 {
			if full.Takes(key) != fresh.Takes(key) {
				t.Errorf("Takes(%q)", key)
			}
		}
		if all, taken := full.Seen(); all != api.MaxCount || taken != api.MaxCount {
			t.Errorf("behind %q: %d %d", key, all, taken)
		}
		if full.Rate() != fresh.Rate() || full.Room(100) != fresh.Room(100) {
			t.Errorf("behind %q: rate %d, room %d", key, full.Rate(), full.Room(100))
		}
	}
}
