package stable

import (
	"fmt"
	"math"
	"math/rand"
	"slices"
	"testing"

	"folkmoot/api"
)

// The chapter, word by word, to hold the program against.

// aheadOf: of each machine the state of the one ahead of it, round the ring.
func aheadOf(states []int) []int {
	last := len(states) - 1
	return slices.Concat(states[last:], states[:last])
}

func slowFree(states []int) []int {
	ahead := aheadOf(states)
	var out []int
	for i, state := range states {
		same := state == ahead[i]
		if first := i == 0; same == first {
			out = append(out, i)
		}
	}
	return out
}

// slowMove: of a machine that is free.
func slowMove(k int, states []int, i int) []int {
	out := slices.Clone(states)
	switch {
	case i > 0:
		out[i] = aheadOf(states)[i]
	case states[0] == k-1:
		out[0] = 0
	default:
		out[0]++
	}
	return out
}

// compare holds all three calls, on what has no errors, against the chapter's words, for each machine, and for some that are none.
func compare(t *testing.T, k int, states []int) {
	t.Helper()
	before := slices.Clone(states)
	if e := Check(k, states); e != api.OK {
		t.Fatalf("Check(%d, %v) = %d", k, states, e)
	}
	free := slowFree(states)
	if l, e := Free(k, states); e != api.OK || !slices.Equal(l, free) {
		t.Fatalf("Free(%d, %v) = %v, %d; want %v", k, states, l, e, free)
	}
	for i := -1; i <= len(states); i++ {
		l, e := Move(k, states, i)
		switch {
		case i < 0 || i == len(states):
			if e != api.ErrArg || len(l) != 0 {
				t.Fatalf("Move(%d, %v, %d) = %v, %d; want ErrArg", k, states, i, l, e)
			}
		case !slices.Contains(free, i):
			if e != api.ErrHold || len(l) != 0 {
				t.Fatalf("Move(%d, %v, %d) = %v, %d; want ErrHold", k, states, i, l, e)
			}
		default:
			if want := slowMove(k, states, i); e != api.OK || !slices.Equal(l, want) {
				t.Fatalf("Move(%d, %v, %d) = %v, %d; want %v", k, states, i, l, e, want)
			}
		}
	}
	if !slices.Equal(states, before) {
		t.Fatal("changed", before, states)
	}
}

// all goes through all states of n machines.
func all(n, k int, each func(states []int)) {
	states := make([]int, n)
	for {
		each(slices.Clone(states))
		i := 0
		for i < n && states[i] == k-1 {
			states[i] = 0
			i++
		}
		if i == n {
			return
		}
		states[i]++
	}
}

// TestAllStates: of few, and of as many as may be; with few different ones, so that all ways in which neighbours may be alike come up.
func TestAllStates(t *testing.T) {
	for n := 2; n <= api.MaxProcs; n++ {
		for k := 2; k <= 7; k++ {
			all(n, k, func(states []int) { compare(t, k, states) })
		}
	}
}

// TestMixedStates: up to the limits, many neighbours alike, and many at the edges.
func TestMixedStates(t *testing.T) {
	r := rand.New(rand.NewSource(1))
	for range 20000 {
		k := 2 + r.Intn(api.MaxMoney-1)
		if r.Intn(3) == 0 {
			k = api.MaxMoney
		}
		states := make([]int, 2+r.Intn(api.MaxProcs-1))
		some := []int{0, k - 1, r.Intn(k)}
		for i := range states {
			states[i] = some[r.Intn(len(some))]
			if r.Intn(4) == 0 {
				states[i] = r.Intn(k)
			}
		}
		compare(t, k, states)
	}
}

func TestJ2Free(t *testing.T) {
	cases := []struct {
		k      int
		states []int
		want   []int
	}{
		{3, []int{1, 1, 1}, []int{0}},
		{3, []int{2, 1, 1}, []int{1}},
		{3, []int{2, 2, 1}, []int{2}},
		{3, []int{2, 2, 2}, []int{0}},
		{2, []int{0, 0}, []int{0}},
		{2, []int{1, 0}, []int{1}},
		{2, []int{0, 1}, []int{1}},
		{2, []int{1, 1}, []int{0}},
		{2, []int{0, 1, 0}, []int{0, 1, 2}}, // all of them
		{3, []int{0, 1, 2}, []int{1, 2}},    // all but the first one
		{3, []int{0, 1, 1}, []int{1}},
		{3, []int{0, 1, 1, 0}, []int{0, 1, 3}},
		{2, []int{0, 1, 0, 1, 0, 1}, []int{1, 2, 3, 4, 5}},
		{2, []int{1, 0, 1, 0, 0, 1}, []int{0, 1, 2, 3, 5}},
		{api.MaxMoney, []int{api.MaxMoney - 1, 0, 0, 0, 0, api.MaxMoney - 1}, []int{0, 1, 5}},
	}
	for _, c := range cases {
		if l, e := Free(c.k, c.states); e != api.OK || !slices.Equal(l, c.want) {
			t.Errorf("Free(%d, %v) = %v, %d; want %v", c.k, c.states, l, e, c.want)
		}
	}
}

func TestJ2Move(t *testing.T) {
	top := api.MaxMoney - 1
	cases := []struct {
		k      int
		states []int
		i      int
		want   []int
	}{
		{3, []int{1, 1, 1}, 0, []int{2, 1, 1}},
		{3, []int{2, 1, 1}, 1, []int{2, 2, 1}},
		{3, []int{2, 2, 1}, 2, []int{2, 2, 2}},
		{3, []int{2, 2, 2}, 0, []int{0, 2, 2}}, // behind k - 1
		{4, []int{2, 2, 2}, 0, []int{3, 2, 2}}, // there is one more
		{2, []int{0, 0}, 0, []int{1, 0}},
		{2, []int{1, 1}, 0, []int{0, 1}},
		{2, []int{0, 1}, 1, []int{0, 0}},
		{3, []int{2, 0, 2}, 0, []int{0, 0, 2}}, // only the first and the last one are alike
		{3, []int{2, 0, 1}, 1, []int{2, 2, 1}}, // its state, not one more, nor one less
		{3, []int{2, 0, 1}, 2, []int{2, 0, 0}},
		{5, []int{4, 0, 4, 1}, 2, []int{4, 0, 0, 1}},
		{api.MaxMoney, []int{top, 3, 3, 3, 3, top}, 0, []int{0, 3, 3, 3, 3, top}},
		{api.MaxMoney, []int{top - 1, 3, 3, 3, 3, top - 1}, 0, []int{top, 3, 3, 3, 3, top - 1}},
		{api.MaxMoney, []int{5, 3, 3, 3, top, 0}, 5, []int{5, 3, 3, 3, top, top}},
	}
	for _, c := range cases {
		if l, e := Move(c.k, c.states, c.i); e != api.OK || !slices.Equal(l, c.want) {
			t.Errorf("Move(%d, %v, %d) = %v, %d; want %v", c.k, c.states, c.i, l, e, c.want)
		}
	}
}

// TestJ2MoveErrors: the states have none; P2: all else is zero.
func TestJ2MoveErrors(t *testing.T) {
	cases := []struct {
		k      int
		states []int
		i      int
		want   api.Errno
	}{
		{3, []int{1, 1, 1}, -1, api.ErrArg},
		{3, []int{1, 1, 1}, 3, api.ErrArg},
		{3, []int{2, 1, 1}, 3, api.ErrArg},
		{3, []int{1, 1, 1}, api.MaxProcs, api.ErrArg},
		{3, []int{1, 1, 1}, math.MinInt, api.ErrArg},
		{3, []int{1, 1, 1}, math.MaxInt, api.ErrArg},
		{3, []int{1, 1, 1}, 1 << 32, api.ErrArg},
		{2, []int{0, 0}, 2, api.ErrArg},
		{3, []int{1, 1, 1}, 1, api.ErrHold},
		{3, []int{1, 1, 1}, 2, api.ErrHold},
		{3, []int{2, 1, 1}, 0, api.ErrHold},
		{3, []int{2, 1, 1}, 2, api.ErrHold},
		{3, []int{2, 2, 1}, 0, api.ErrHold},
		{3, []int{2, 2, 1}, 1, api.ErrHold}, // one that differs stands behind it, not ahead
		{3, []int{1, 1, 2}, 0, api.ErrHold}, // it is like the one behind it, not the one ahead
		{2, []int{0, 1}, 0, api.ErrHold},
		{2, []int{0, 0}, 1, api.ErrHold},
		{api.MaxMoney, []int{0, 1, 2, 3, 4, 5}, 0, api.ErrHold},
	}
	for _, c := range cases {
		if l, e := Move(c.k, c.states, c.i); e != c.want || len(l) != 0 {
			t.Errorf("Move(%d, %v, %d) = %v, %d; want %d", c.k, c.states, c.i, l, e, c.want)
		}
	}
}

// wantError: what each call tells; Move also where i is wrong too, or right; and P2: all else is zero.
func wantError(t *testing.T, k int, states []int, want api.Errno) {
	t.Helper()
	if e := Check(k, states); e != want {
		t.Error("Check", e)
	}
	if l, e := Free(k, states); e != want || len(l) != 0 {
		t.Error("Free", l, e)
	}
	for _, i := range []int{0, 1, 2, 5, 6, 7, -1, math.MinInt, math.MaxInt} {
		if l, e := Move(k, states, i); e != want || len(l) != 0 {
			t.Error("Move", i, l, e)
		}
	}
}

func TestJ1Check(t *testing.T) {
	cases := []struct {
		k      int
		states []int
		want   api.Errno
	}{
		{3, nil, api.ErrLarge},
		{3, []int{}, api.ErrLarge},
		{3, []int{0}, api.ErrLarge},
		{3, make([]int, api.MaxProcs+1), api.ErrLarge},
		{3, make([]int, 1<<20), api.ErrLarge},
		{1, []int{0, 0}, api.ErrLarge},
		{0, []int{0, 0}, api.ErrLarge},
		{-1, []int{0, 0}, api.ErrLarge},
		{math.MinInt, []int{0, 0}, api.ErrLarge},
		{api.MaxMoney + 1, []int{0, 0}, api.ErrLarge},
		{1<<32 + 3, []int{0, 0}, api.ErrLarge},
		{math.MaxInt, []int{0, 0}, api.ErrLarge},
		{3, []int{3, 0}, api.ErrArg},
		{3, []int{0, 3}, api.ErrArg},
		{3, []int{-1, 0}, api.ErrArg},
		{3, []int{0, -1}, api.ErrArg},
		{2, []int{0, 1, 2}, api.ErrArg},
		{3, []int{0, 1, 7, 1}, api.ErrArg},
		{3, []int{3, 3, 3}, api.ErrArg},
		{3, []int{0, 0, 0, 0, 0, 3}, api.ErrArg},
		{3, []int{math.MinInt, 0}, api.ErrArg},
		{3, []int{0, math.MaxInt}, api.ErrArg},
		{3, []int{0, 1 << 32}, api.ErrArg},
		{api.MaxMoney, []int{0, api.MaxMoney}, api.ErrArg},
		// Several wrong at once.
		{3, []int{3}, api.ErrLarge},
		{3, []int{0, 0, 0, 0, 0, 0, -1}, api.ErrLarge},
		{1, []int{0, 1}, api.ErrLarge},
		{0, []int{0, -1}, api.ErrLarge},
		{0, nil, api.ErrLarge},
		{api.MaxMoney + 1, []int{0, api.MaxMoney + 1}, api.ErrLarge},
		{math.MaxInt, []int{-1, math.MaxInt}, api.ErrLarge},
	}
	for i, c := range cases {
		t.Run(fmt.Sprintf("%d,k=%d,machines=%d,%d", i, c.k, len(c.states), c.want), func(t *testing.T) {
			wantError(t, c.k, c.states, c.want)
		})
	}
}

func TestJ1JustWithin(t *testing.T) {
	top := api.MaxMoney - 1
	for _, states := range [][]int{{0, 0}, {0, 1}, {1, 0}, {1, 1}, make([]int, api.MaxProcs)} {
		compare(t, 2, states)
		compare(t, api.MaxMoney, states)
	}
	compare(t, api.MaxMoney, []int{top, 0})
	compare(t, api.MaxMoney, []int{top, top, top, top, top, top})
	compare(t, api.MaxMoney, []int{top, 0, top, 0, top, 0})
}

// moved: the states behind each move that may be made, and how many may.
func moved(t *testing.T, k int, states []int) [][]int {
	t.Helper()
	free, e := Free(k, states)
	if e != api.OK {
		t.Fatal(k, states, e)
	}
	var out [][]int
	for _, i := range free {
		next, e := Move(k, states, i)
		if e != api.OK {
			t.Fatal(k, states, i, e)
		}
		out = append(out, next)
	}
	return out
}

// TestOneIsAlwaysFree: so it never stands still; and a move never makes more of them free than were.
func TestOneIsAlwaysFree(t *testing.T) {
	for n := 2; n <= api.MaxProcs; n++ {
		for k := 2; k <= 6; k++ {
			all(n, k, func(states []int) {
				nexts := moved(t, k, states)
				if len(nexts) == 0 {
					t.Fatal("none is free", k, states)
				}
				for _, next := range nexts {
					if many := len(moved(t, k, next)); many > len(nexts) {
						t.Fatal("more are free", k, states, next)
					}
				}
			})
		}
	}
}

// TestItGoesRound: where one alone is free, the next one is behind its move, and so on round the ring.
func TestItGoesRound(t *testing.T) {
	for n := 2; n <= api.MaxProcs; n++ {
		for _, k := range []int{2, 3, n, api.MaxMoney} {
			states := make([]int, n)
			for turn := range 2 * n * k {
				free, e := Free(k, states)
				if e != api.OK || !slices.Equal(free, []int{turn % n}) {
					t.Fatal(n, k, turn, states, free, e)
				}
				states, e = Move(k, states, turn%n)
				if e != api.OK {
					t.Fatal(n, k, turn, e)
				}
			}
			if !slices.Equal(states, make([]int, n)) {
				t.Fatal("it has gone round whole", n, k, states)
			}
		}
	}
}

// key: states as one word.
func key(states []int) (out int) {
	for _, state := range states {
		out = out*16 + state
	}
	return out
}

// comesRight: do all the states that may come of any ones, whichever moves are made, come to ones in which one alone is free? Only if none in which more are free comes back to itself.
func comesRight(t *testing.T, n, k int) bool {
	const under, done = 1, 2
	marks := map[int]int{}
	right := true
	var visit func(states []int)
	visit = func(states []int) {
		nexts := moved(t, k, states)
		if len(nexts) == 1 {
			return
		}
		marks[key(states)] = under
		for _, next := range nexts {
			switch marks[key(next)] {
			case under:
				right = false
			case 0:
				visit(next)
			}
		}
		marks[key(states)] = done
	}
	all(n, k, func(states []int) {
		if marks[key(states)] == 0 {
			visit(states)
		}
	})
	return right
}

// TestItComesRight: whatever the states were, where k is the number of machines, or one less, or more; where it is less by two it need not.
func TestItComesRight(t *testing.T) {
	for n := 2; n <= api.MaxProcs; n++ {
		for k := 2; k <= n+1; k++ {
			if want := k >= n-1; comesRight(t, n, k) != want {
				t.Error(n, k, "comes right:", !want)
			}
		}
	}
}

// TestNothingIsSharedOrChanged: P3.
func TestNothingIsSharedOrChanged(t *testing.T) {
	memory := []int{2, 0, 1, 2, -5, 70, 1, 1, 1} // what stands from 4 on lies behind the length
	before := slices.Clone(memory)
	states := memory[:4]
	wantMoves := map[int][]int{0: {0, 0, 1, 2}, 1: {2, 2, 1, 2}, 2: {2, 0, 0, 2}, 3: {2, 0, 1, 1}}
	for range 2 {
		if e := Check(3, states); e != api.OK {
			t.Fatal(e)
		}
		free, e := Free(3, states)
		if e != api.OK || !slices.Equal(free, []int{0, 1, 2, 3}) {
			t.Fatal(free, e)
		}
		spoil(free)
		for i := range 4 {
			l, e := Move(3, states, i)
			if e != api.OK || !slices.Equal(l, wantMoves[i]) {
				t.Fatal(i, l, e)
			}
			spoil(l)
		}
		if !slices.Equal(memory, before) {
			t.Fatal("changed", memory)
		}
	}
	if l, e := Move(3, states, 4); e != api.ErrArg || len(l) != 0 { // a fifth one lies behind the length
		t.Error(l, e)
	}
	wantError(t, 3, memory[:1], api.ErrLarge)
	wantError(t, 3, memory[:5], api.ErrArg)
}

// spoil overwrites a list, also behind its length as far as its memory goes.
func spoil(l []int) {
	l = l[:cap(l)]
	for i := range l {
		l[i] = -1
	}
}
