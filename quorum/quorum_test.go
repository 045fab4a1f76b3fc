package quorum

import (
	"fmt"
	"math"
	"math/bits"
	"slices"
	"testing"

	"folkmoot/api"
)

var majority = []uint32{3, 5, 6}

// ofSize: all sets of k of n members.
func ofSize(n, k int) []uint32 {
	var out []uint32
	for s := uint32(0); s < 1<<n; s++ {
		if bits.OnesCount32(s) == k {
			out = append(out, s)
		}
	}
	return out
}

// repeated: a family of k times the same set.
func repeated(k int, s uint32) []uint32 {
	return slices.Repeat([]uint32{s}, k)
}

// The definitions of the chapter, word by word and slowly, to hold the program against.

func isPart(a, b uint32) bool { return a&b == a }

func slowSystem(q []uint32) bool {
	for _, s := range q {
		for _, t := range q {
			if s&t == 0 {
				return false
			}
		}
	}
	return true
}

func slowLeast(n int, q []uint32) []uint32 {
	var out []uint32
	for s := uint32(0); s < 1<<n; s++ {
		is := slices.Contains(q, s)
		for _, t := range q {
			if t != s && isPart(t, s) {
				is = false
			}
		}
		if is {
			out = append(out, s)
		}
	}
	return out
}

func slowBlocks(n int, q []uint32) []uint32 {
	meets := make([]bool, 1<<n)
	for s := range meets {
		meets[s] = true
		for _, t := range q {
			if uint32(s)&t == 0 {
				meets[s] = false
			}
		}
	}
	var out []uint32
	for s, is := range meets {
		for t := 0; is && t < s; t++ {
			is = !meets[t] || !isPart(uint32(t), uint32(s))
		}
		if is {
			out = append(out, uint32(s))
		}
	}
	return out
}

func slowMasks(n int, q []uint32, b int) bool {
	for _, s := range q {
		for _, t := range q {
			if bits.OnesCount32(s&t) < 2*b+1 {
				return false
			}
		}
	}
	for out := uint32(0); out < 1<<n; out++ {
		if bits.OnesCount32(out) <= b && !slices.ContainsFunc(q, func(s uint32) bool { return s&out == 0 }) {
			return false
		}
	}
	return true
}

// compare holds all five calls on a family without errors against the slow definitions.
func compare(t *testing.T, n int, q []uint32) {
	t.Helper()
	least, blocks, system := slowLeast(n, q), slowBlocks(n, q), slowSystem(q)
	if l, e := Least(n, q); e != api.OK || !slices.Equal(l, least) {
		t.Errorf("Least(%d, %v) = %v, %d; want %v", n, q, l, e, least)
	}
	if l, e := Blocks(n, q); e != api.OK || !slices.Equal(l, blocks) {
		t.Errorf("Blocks(%d, %v) = %v, %d; want %v", n, q, l, e, blocks)
	}
	want := api.ErrForm
	if system {
		want = api.OK
	}
	if e := Check(n, q); e != want {
		t.Errorf("Check(%d, %v) = %d; want %d", n, q, e, want)
	}
	full := system && slices.Equal(least, blocks)
	if is, e := Full(n, q); e != want || is != full {
		t.Errorf("Full(%d, %v) = %v, %d; want %v, %d", n, q, is, e, full, want)
	}
	for b := range n + 1 {
		masks := system && slowMasks(n, q, b)
		if is, e := Masks(n, q, b); e != want || is != masks {
			t.Errorf("Masks(%d, %v, %d) = %v, %d; want %v, %d", n, q, b, is, e, masks, want)
		}
	}
}

// TestAllSmallFamilies: each family of at most 4 members, as a list without repeats.
func TestAllSmallFamilies(t *testing.T) {
	for n := 1; n <= 4; n++ {
		sets := 1<<n - 1
		for family := 1; family < 1<<sets; family++ {
			var q []uint32
			for s := range sets {
				if family>>s&1 != 0 {
					q = append(q, uint32(s+1))
				}
			}
			compare(t, n, q)
		}
	}
}

// TestMixedFamilies: families of more members, in no order, with repeats, many of them systems.
func TestMixedFamilies(t *testing.T) {
	state := uint64(1)
	next := func() uint32 {
		state = state*6364136223846793005 + 1442695040888963407
		return uint32(state >> 33)
	}
	for n := 1; n <= api.MaxMembers; n++ {
		for round := range 12 {
			q := make([]uint32, 1+next()%uint32(api.MaxSets))
			for i := range q {
				q[i] = next() & (1<<n - 1)
				if round%3 != 0 { // greater sets meet more often
					q[i] |= next() & (1<<n - 1)
				}
				if round%3 == 2 {
					q[i] |= next()&(1<<n-1) | 1
				}
				if q[i] == 0 {
					q[i] = 1
				}
			}
			compare(t, n, q)
		}
	}
}

// TestFamilyErrors: of A1, told by each call, the one that is named first ahead of the others; and P2: all else is zero.
func TestFamilyErrors(t *testing.T) {
	cases := []struct {
		n    int
		q    []uint32
		want api.Errno
	}{
		{0, majority, api.ErrLarge},
		{-1, majority, api.ErrLarge},
		{math.MinInt, majority, api.ErrLarge},
		{api.MaxMembers + 1, majority, api.ErrLarge},
		{32, majority, api.ErrLarge},
		{math.MaxInt, majority, api.ErrLarge},
		{3, repeated(api.MaxSets+1, 7), api.ErrLarge},
		{3, repeated(1<<20, 7), api.ErrLarge},
		{3, nil, api.ErrNone},
		{3, []uint32{}, api.ErrNone},
		{3, []uint32{0}, api.ErrArg},
		{3, []uint32{3, 5, 0}, api.ErrArg},
		{3, []uint32{8}, api.ErrArg},
		{3, []uint32{7, 15}, api.ErrArg},
		{1, []uint32{1, 2}, api.ErrArg},
		{3, []uint32{1 << 31}, api.ErrArg},
		{api.MaxMembers, []uint32{1 << api.MaxMembers}, api.ErrArg},
		{api.MaxMembers, []uint32{math.MaxUint32}, api.ErrArg},
		// Several wrong at once.
		{0, nil, api.ErrLarge},
		{0, []uint32{0}, api.ErrLarge},
		{13, []uint32{1, 2}, api.ErrLarge},
		{3, repeated(api.MaxSets+1, 0), api.ErrLarge},
		{3, []uint32{1, 2, 0}, api.ErrArg},
		{3, []uint32{1, 2, 8}, api.ErrArg},
	}
	for _, c := range cases {
		t.Run(fmt.Sprintf("n=%d,sets=%d,%d", c.n, len(c.q), c.want), func(t *testing.T) {
			wantError(t, c.n, c.q, c.want)
			systemError(t, c.n, c.q, c.want)
		})
	}
}

// wantError: what Least and Blocks tell.
func wantError(t *testing.T, n int, q []uint32, want api.Errno) {
	t.Helper()
	if l, e := Least(n, q); e != want || len(l) != 0 {
		t.Error("Least", l, e)
	}
	if l, e := Blocks(n, q); e != want || len(l) != 0 {
		t.Error("Blocks", l, e)
	}
}

// systemError: what the calls that ask for a system tell; Masks also where b is wrong too, which is named last.
func systemError(t *testing.T, n int, q []uint32, want api.Errno) {
	t.Helper()
	if e := Check(n, q); e != want {
		t.Error("Check", e)
	}
	if is, e := Full(n, q); e != want || is {
		t.Error("Full", is, e)
	}
	for _, b := range []int{0, 1, -1, math.MinInt, math.MaxInt} {
		if is, e := Masks(n, q, b); e != want || is {
			t.Error("Masks", b, is, e)
		}
	}
}

func TestA1Check(t *testing.T) {
	good := []struct {
		n int
		q []uint32
	}{
		{3, majority},
		{1, []uint32{1}},
		{2, []uint32{2, 2}},
		{3, repeated(api.MaxSets, 4)},
		{api.MaxMembers, []uint32{1<<api.MaxMembers - 1, 1 << (api.MaxMembers - 1)}},
		{4, ofSize(4, 3)},
	}
	for _, c := range good {
		if e := Check(c.n, c.q); e != api.OK {
			t.Error(c.n, c.q, e)
		}
	}
	apart := []struct {
		n int
		q []uint32
	}{
		{3, []uint32{3, 4}},
		{2, []uint32{1, 2}},
		{4, ofSize(4, 2)},
		{3, []uint32{7, 6, 1}},
		{api.MaxMembers, append(repeated(api.MaxSets-2, 7), 1, 2)},
	}
	for _, c := range apart {
		systemError(t, c.n, c.q, api.ErrForm)
	}
}

func TestA2Least(t *testing.T) {
	cases := []struct {
		n    int
		q    []uint32
		want []uint32
	}{
		{3, []uint32{7, 1, 3}, []uint32{1}},
		{3, []uint32{6, 5, 3}, []uint32{3, 5, 6}},
		{3, []uint32{6, 3, 6, 3, 7}, []uint32{3, 6}},
		{3, []uint32{4, 4}, []uint32{4}},
		{3, []uint32{4, 3}, []uint32{3, 4}}, // a family need not be a system
		{4, []uint32{8, 7, 12}, []uint32{7, 8}},
		{3, repeated(api.MaxSets, 5), []uint32{5}},
	}
	for _, c := range cases {
		if l, e := Least(c.n, c.q); e != api.OK || !slices.Equal(l, c.want) {
			t.Error(c.n, c.q, l, e)
		}
	}
}

func TestA3Blocks(t *testing.T) {
	cases := []struct {
		n    int
		q    []uint32
		want []uint32
	}{
		{3, []uint32{3, 4}, []uint32{5, 6}},
		{3, majority, majority},
		{1, []uint32{1}, []uint32{1}},
		{3, []uint32{7, 7}, []uint32{1, 2, 4}},
		{3, []uint32{1, 2, 4}, []uint32{7}},
		{3, []uint32{2, 7}, []uint32{2}},
		{4, ofSize(4, 3), ofSize(4, 2)},
	}
	for _, c := range cases {
		if l, e := Blocks(c.n, c.q); e != api.OK || !slices.Equal(l, c.want) {
			t.Error(c.n, c.q, l, e)
		}
	}
}

// TestA3ManyBlocks: one of three out of each of four sets: 81 blocks, more than MaxSets.
func TestA3ManyBlocks(t *testing.T) {
	l, e := Blocks(12, []uint32{7, 7 << 3, 7 << 6, 7 << 9})
	if e != api.OK || len(l) != 81 || !slices.IsSorted(l) {
		t.Fatal(len(l), e)
	}
	for _, s := range l {
		for k := 0; k < 12; k += 3 {
			if bits.OnesCount32(s>>k&7) != 1 {
				t.Error(s)
			}
		}
	}
}

func TestA4Full(t *testing.T) {
	cases := []struct {
		n    int
		q    []uint32
		want bool
	}{
		{3, majority, true},
		{3, []uint32{6, 5, 7, 3, 3}, true}, // repeats and greater sets change nothing
		{5, ofSize(5, 3), true},
		{5, []uint32{2}, true},
		{4, []uint32{3, 5, 9, 14}, true}, // one with any other, or the others
		{3, []uint32{7}, false},
		{4, ofSize(4, 3), false},
		{3, []uint32{3, 5}, false},
	}
	for _, c := range cases {
		if is, e := Full(c.n, c.q); e != api.OK || is != c.want {
			t.Error(c.n, c.q, is, e)
		}
	}
}

func TestA4Masks(t *testing.T) {
	cases := []struct {
		n    int
		q    []uint32
		b    int
		want bool
	}{
		{3, majority, 0, true},
		{3, majority, 1, false},
		{3, majority, 3, false},
		{5, ofSize(5, 4), 1, true},
		{5, ofSize(5, 4), 2, false},
		{4, ofSize(4, 3), 1, false},      // two sets have but two in common
		{9, ofSize(9, 7), 1, true},       // 5 in common
		{9, ofSize(9, 7), 2, true},       // 5 in common, and any two may fall out
		{9, ofSize(9, 7), 3, false},      // 5 are too few
		{3, []uint32{7}, 0, true},        // nobody falls out
		{3, []uint32{7}, 1, false},       // 3 in common, but whoever falls out is in it
		{4, []uint32{7, 15}, 1, false},   // the same with a set more
		{7, []uint32{31, 124}, 1, false}, // 3 in common, all of which are in both
		{1, []uint32{1}, 0, true},
		{1, []uint32{1}, 1, false},
		{12, []uint32{3}, 1, false}, // with itself but two in common
		{12, []uint32{1<<12 - 1}, 12, false},
	}
	for _, c := range cases {
		if is, e := Masks(c.n, c.q, c.b); e != api.OK || is != c.want {
			t.Error(c.n, c.q, c.b, is, e)
		}
	}
}

func TestA4MasksWrongB(t *testing.T) {
	for _, b := range []int{-1, 4, math.MinInt, math.MaxInt, math.MaxInt/2 + 1} {
		if is, e := Masks(3, majority, b); e != api.ErrArg || is {
			t.Error(b, is, e)
		}
	}
	if is, e := Masks(3, []uint32{1, 2}, 4); e != api.ErrForm || is {
		t.Error("the system's error is named first", is, e)
	}
}

// TestNothingIsSharedOrChanged: P3.
func TestNothingIsSharedOrChanged(t *testing.T) {
	room := []uint32{6, 3, 5, 3, 1, 0, math.MaxUint32} // the last three lie behind the length
	before := slices.Clone(room)
	q := room[:4]
	for range 2 {
		least, e := Least(3, q)
		if e != api.OK || !slices.Equal(least, majority) {
			t.Error("Least", least, e)
		}
		blocks, e := Blocks(3, q)
		if e != api.OK || !slices.Equal(blocks, majority) {
			t.Error("Blocks", blocks, e)
		}
		if is, e := Full(3, q); e != api.OK || !is {
			t.Error("Full", is, e)
		}
		if is, e := Masks(3, q, 0); e != api.OK || !is {
			t.Error("Masks", is, e)
		}
		clear(least[:cap(least)])
		clear(blocks[:cap(blocks)])
		if !slices.Equal(room, before) {
			t.Fatal("changed", room)
		}
	}
}
