package qpp

import "testing"

// TestContentionIsFound has polynomials that no block size has, as the permutation of a block size is always free of contention.
func TestContentionIsFound(t *testing.T) {
	for _, x := range []struct {
		p    parameters
		w    int
		want bool
	}{
		{parameters{40, 1, 0}, 8, true},
		{parameters{40, 1, 0}, 40, true},
		{parameters{40, 3, 1}, 4, true},
		{parameters{40, 3, 1}, 8, false},  // 0 and 5 go to 0
		{parameters{40, 2, 0}, 40, false}, // 0 and 20 go to 0
		{parameters{40, 2, 0}, 1, true},
		{parameters{40, 3, 10}, 8, true},
		{parameters{9, 1, 1}, 3, false}, // 1 and 4 go to 2
	} {
		if got := (permutation{x.p}).free(x.w); got != x.want {
			t.Errorf("%v is free of contention for %d windows: %v", x.p, x.w, got)
		}
	}
}
