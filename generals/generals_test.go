package generals

import (
	"fmt"
	"math"
	"math/bits"
	"math/rand"
	"slices"
	"testing"

	"folkmoot/api"
)

// The chapter, from the other end, to hold the program against: not who spreads what among whom, but what one general holds, and what has come to it by a way.

type game struct {
	n, m     int
	traitors uint32
	order    bool
	lies     uint64
}

func (g game) String() string {
	return fmt.Sprintf("Play(%d, %d, %#b, %v, %#x)", g.n, g.m, g.traitors, g.order, g.lies)
}

func (g game) play() ([]bool, api.Errno) {
	return Play(g.n, g.m, g.traitors, g.order, g.lies)
}

func slowCode(way []int) int {
	if len(way) == 0 {
		return 0
	}
	last := len(way) - 1
	return 7*slowCode(way[:last]) + way[last] + 1
}

// bitOf: the number of the bit on which a lie hangs that the last one of a way tells.
func bitOf(way []int, to int) int {
	return (7*slowCode(way) + to) % 64
}

// slowSent: what the last general of a way sends to another one.
func (g game) slowSent(way []int, to int) bool {
	last := len(way) - 1
	switch {
	case g.traitors&(1<<way[last]) != 0:
		return g.lies&(1<<bitOf(way, to)) != 0
	case last == 0:
		return g.order
	}
	return g.slowSent(way[:last], way[last])
}

// slowHeld: what a general that isn't on the way holds by it, when the depth that is left is d.
func (g game) slowHeld(way []int, who, d int) bool {
	all := []bool{g.slowSent(way, who)}
	for other := 0; other < g.n && d > 0; other++ {
		if other != who && !slices.Contains(way, other) {
			all = append(all, g.slowHeld(slices.Concat(way, []int{other}), who, d-1))
		}
	}
	yes := 0
	for _, is := range all {
		if is {
			yes++
		}
	}
	return 2*yes > len(all)
}

func (g game) slowPlay() []bool {
	var out []bool
	for who := 1; who < g.n; who++ {
		out = append(out, g.slowHeld([]int{0}, who, g.m))
	}
	return out
}

// bitsAsked: the bits of lies on which something hangs.
func (g game) bitsAsked() uint64 {
	var out uint64
	var visit func(way []int)
	visit = func(way []int) {
		for to := 0; to < g.n; to++ {
			if slices.Contains(way, to) {
				continue
			}
			if g.traitors&(1<<way[len(way)-1]) != 0 {
				out |= 1 << bitOf(way, to)
			}
			if len(way) <= g.m {
				visit(slices.Concat(way, []int{to}))
			}
		}
	}
	visit([]int{0})
	return out
}

func compare(t *testing.T, g game) []bool {
	t.Helper()
	l, e := g.play()
	if want := g.slowPlay(); e != api.OK || !slices.Equal(l, want) {
		t.Fatalf("%v = %v, %d; want %v", g, l, e, want)
	}
	return l
}

// eachGame: of so many, whoever are traitors, with both orders, without lies as yet.
func eachGame(n, m int, each func(g game)) {
	for traitors := range uint32(1) << n {
		each(game{n: n, m: m, traitors: traitors})
		each(game{n: n, m: m, traitors: traitors, order: true})
	}
}

// TestAllLies: of few, whatever the traitors say; the other bits are now none of them set, now all.
func TestAllLies(t *testing.T) {
	for n := 2; n <= 5; n++ {
		for m := 0; m <= api.MaxTraitor; m++ {
			eachGame(n, m, func(g game) {
				asked := g.bitsAsked()
				if bits.OnesCount64(asked) > 12 {
					return
				}
				for lies := asked; ; lies = (lies - 1) & asked {
					g.lies = lies
					l := compare(t, g)
					g.lies = lies | ^asked
					if others := compare(t, g); !slices.Equal(l, others) {
						t.Fatal(g, "hangs on bits that nobody asks for")
					}
					if lies == 0 {
						break
					}
				}
			})
		}
	}
}

// mixedLies: of any kind, also with few bits set, or few that are not.
func mixedLies(r *rand.Rand) uint64 {
	lies := r.Uint64()
	switch r.Intn(6) {
	case 0:
		lies &= r.Uint64() & r.Uint64()
	case 1:
		lies |= r.Uint64() | r.Uint64()
	case 2:
		lies = 1 << r.Intn(64)
	case 3:
		lies = ^(1 << r.Intn(64))
	}
	return lies
}

// TestMixedLies: of all numbers of generals and all depths, whoever are traitors.
func TestMixedLies(t *testing.T) {
	r := rand.New(rand.NewSource(1))
	for n := 2; n <= 7; n++ {
		for m := 0; m <= api.MaxTraitor; m++ {
			eachGame(n, m, func(g game) {
				for range 40 {
					g.lies = mixedLies(r)
					compare(t, g)
				}
			})
		}
	}
}

// TestEachBit: one that is set alone, and one that alone is not.
func TestEachBit(t *testing.T) {
	for n := 2; n <= 7; n++ {
		for m := 0; m <= api.MaxTraitor; m++ {
			for bit := range 64 {
				for _, lies := range []uint64{1 << bit, ^(1 << bit)} {
					for _, traitors := range []uint32{1, 2, 3, 1<<n - 2, 1<<n - 1} {
						compare(t, game{n, m, traitors, true, lies})
						compare(t, game{n, m, traitors, false, lies})
					}
				}
			}
		}
	}
}

// TestK3NoTraitor: all hold the order, whatever the lies.
func TestK3NoTraitor(t *testing.T) {
	for n := 2; n <= 7; n++ {
		for m := 0; m <= api.MaxTraitor; m++ {
			for _, order := range []bool{true, false} {
				for _, lies := range []uint64{0, math.MaxUint64, 0xaaaaaaaaaaaaaaaa, 1 << 8} {
					l, e := Play(n, m, 0, order, lies)
					if e != api.OK || !slices.Equal(l, slices.Repeat([]bool{order}, n-1)) {
						t.Error(n, m, order, lies, l, e)
					}
				}
			}
		}
	}
}

// TestK2Lies: on which bit a lie hangs, worked out by hand. The way of 0 alone has the code 1, so there the bit is 7 + to; 0 and 1: 9, so 63 + to; 0 and 2: 10, so 70 + to; all that mod 64.
func TestK2Lies(t *testing.T) {
	cases := []struct {
		game
		want []bool
	}{
		{game{2, 0, 1, true, 0}, []bool{false}}, // what a traitor is told to say plays no part
		{game{2, 0, 1, false, 1 << 8}, []bool{true}},
		{game{2, 0, 1, true, ^uint64(1 << 8)}, []bool{false}},
		{game{2, 0, 2, true, 0}, []bool{true}}, // one that sends nothing on can't lie
		{game{2, 1, 1, false, 1 << 8}, []bool{true}},
		{game{2, 2, 1, false, 1 << 8}, []bool{true}},
		{game{2, 2, 2, true, 0}, []bool{true}}, // there is nobody to whom it might send
		{game{7, 0, 1, false, 1<<8 | 1<<10 | 1<<13}, []bool{true, false, true, false, false, true}},
		{game{7, 0, 1, true, 1<<9 | 1<<11 | 1<<12}, []bool{false, true, false, true, true, false}},
		{game{7, 0, 126, true, 0}, slices.Repeat([]bool{true}, 6)},
		// Of three, each counts two votes, and both have to be true.
		{game{3, 1, 2, true, 0}, []bool{true, false}},
		{game{3, 1, 2, true, 1 << 1}, []bool{true, true}}, // 63 + 2 is 65, and so the bit 1
		{game{3, 1, 2, true, ^uint64(1 << 1)}, []bool{true, false}},
		{game{3, 1, 4, true, 1 << 7}, []bool{true, true}}, // 70 + 1 is 71, and so the bit 7
		{game{3, 1, 4, true, ^uint64(1 << 7)}, []bool{false, true}},
		{game{3, 1, 4, false, math.MaxUint64}, []bool{false, false}},
		{game{3, 1, 1, true, 1 << 8}, []bool{false, false}},     // true to 1, false to 2, who both say so
		{game{3, 1, 1, true, 1<<8 | 1<<9}, []bool{true, true}},  // true to both
		{game{3, 1, 3, true, 1<<8 | 1<<9}, []bool{true, false}}, // 1 tells 2 that it was false
		{game{3, 1, 3, true, 1<<1 | 1<<9}, []bool{false, true}}, // false to 1, who tells 2 that it was true
		{game{3, 2, 3, true, 1<<8 | 1<<9}, []bool{true, false}}, // a depth at which nobody is left
		{game{3, 2, 2, true, 1 << 1}, []bool{true, true}},       // as with the depth 1
		{game{3, 2, 2, true, ^uint64(1 << 1)}, []bool{true, false}},
		// Of four, each counts three.
		{game{4, 1, 1, true, 1<<8 | 1<<9}, []bool{true, true, true}},
		{game{4, 1, 1, true, 1<<8 | 1<<10}, []bool{true, true, true}},
		{game{4, 1, 1, true, 1 << 10}, []bool{false, false, false}},
		{game{4, 1, 2, true, 0}, []bool{true, true, true}},
		{game{4, 1, 6, true, 0}, []bool{true, true, false}},     // two liars are too many for 3
		{game{4, 1, 6, true, 1 << 2}, []bool{true, true, true}}, // 63 + 3 is 66: 1 tells 3 true
		{game{4, 1, 6, true, 1 << 9}, []bool{true, true, true}}, // 70 + 3 is 73: 2 tells 3 true
		{game{4, 1, 6, true, ^uint64(1<<2 | 1<<9)}, []bool{true, true, false}},
		{game{4, 0, 1, true, 1 << 9}, []bool{false, true, false}},
		// With the depth 2 each of 2 and 3 counts what was sent; what it holds of 1's word, for which both of the bits 1 and 2 have to be set; and what it holds of the word of the other one of them, for which 1 has to bear that out: to 2 by the bit 43 (0, 3 and 1: 79, so 553 + 2), to 3 by 59 (0, 2 and 1: 72, so 504 + 3).
		{game{4, 2, 2, true, 0}, []bool{true, false, false}},
		{game{4, 2, 2, true, 1 << 1}, []bool{true, false, false}},
		{game{4, 2, 2, true, 1 << 2}, []bool{true, false, false}},
		{game{4, 2, 2, true, 1<<1 | 1<<2}, []bool{true, true, true}},
		{game{4, 2, 2, true, 1 << 43}, []bool{true, true, false}},
		{game{4, 2, 2, true, 1 << 59}, []bool{true, false, true}},
		{game{4, 2, 2, true, 1<<43 | 1<<59}, []bool{true, true, true}},
		{game{4, 2, 2, true, ^uint64(1<<1 | 1<<43 | 1<<59)}, []bool{true, false, false}},
		{game{4, 2, 2, false, math.MaxUint64}, []bool{false, false, false}}, // of what is false, a tie makes nothing true
	}
	for _, c := range cases {
		if l, e := c.play(); e != api.OK || !slices.Equal(l, c.want) {
			t.Errorf("%v = %v, %d; want %v", c.game, l, e, c.want)
		}
	}
}

// TestK2SeventhGeneral: the greatest way that hangs on a lie, and the greatest one to whom it leads.
func TestK2SeventhGeneral(t *testing.T) {
	way := []int{0, 6, 5} // 1; 14; 104, so 728 + 4 is the bit 28 mod 64
	if slowCode(way) != 104 || bitOf(way, 4) != 28 {
		t.Fatal(slowCode(way), bitOf(way, 4))
	}
	for traitors := range uint32(1 << 7) {
		for _, lies := range []uint64{1 << 28, ^uint64(1 << 28)} {
			compare(t, game{7, 2, traitors, true, lies})
			compare(t, game{7, 2, traitors, false, lies})
		}
	}
}

// TestK2Ties: as many are false as true, so it is false; one vote more, and it is true. The traitor 0 tells the first ones true, and all pass that on.
func TestK2Ties(t *testing.T) {
	for n := 3; n <= 7; n++ {
		for told := 0; told < n; told++ {
			lies := (uint64(1)<<told - 1) << 8
			want := 2*told > n-1
			l, e := Play(n, 1, 1, !want, lies)
			if e != api.OK || !slices.Equal(l, slices.Repeat([]bool{want}, n-1)) {
				t.Error(n, told, l, e)
			}
		}
	}
}

// loyalHold: what the loyal generals but 0 hold.
func loyalHold(g game, held []bool) []bool {
	var out []bool
	for i, is := range held {
		if g.traitors&(2<<i) == 0 {
			out = append(out, is)
		}
	}
	return out
}

// TestLoyalAgree: with at most m traitors among more than 3 * m, all who are loyal hold the same; and the order, if 0 is loyal, even where there are only more than m + 2 * the traitors.
func TestLoyalAgree(t *testing.T) {
	r := rand.New(rand.NewSource(2))
	for n := 2; n <= 7; n++ {
		for m := 0; m <= api.MaxTraitor; m++ {
			eachGame(n, m, func(g game) {
				many := bits.OnesCount32(g.traitors)
				for range 100 {
					g.lies = mixedLies(r)
					l, e := g.play()
					if e != api.OK {
						t.Fatal(g, e)
					}
					loyal := loyalHold(g, l)
					if many <= m && n > 3*m && len(slices.Compact(slices.Clone(loyal))) > 1 {
						t.Fatal(g, l, "they differ")
					}
					if g.traitors&1 == 0 && n > m+2*many && slices.Contains(loyal, !g.order) {
						t.Fatal(g, l, "they don't hold the order")
					}
				}
			})
		}
	}
}

// TestTooFew: one traitor among three makes a loyal one hold what is not the order, and where the depth is less than the traitors are, loyal ones may differ.
func TestTooFew(t *testing.T) {
	if l, e := Play(3, 1, 4, true, 0); e != api.OK || l[0] {
		t.Error(l, e)
	}
	if l, e := Play(4, 0, 1, true, 1<<8); e != api.OK || !slices.Equal(l, []bool{true, false, false}) {
		t.Error(l, e)
	}
	differ := false
	r := rand.New(rand.NewSource(3))
	for range 2000 {
		g := game{7, 1, 0b11, true, r.Uint64()}
		l, e := g.play()
		if e != api.OK {
			t.Fatal(g, e)
		}
		differ = differ || len(slices.Compact(loyalHold(g, l))) > 1
	}
	if !differ {
		t.Error("with the depth 1 two traitors among seven never made a difference")
	}
}

func TestK1Errors(t *testing.T) {
	cases := []struct {
		n, m     int
		traitors uint32
		want     api.Errno
	}{
		{1, 0, 0, api.ErrLarge},
		{0, 0, 0, api.ErrLarge},
		{-1, 0, 0, api.ErrLarge},
		{8, 0, 0, api.ErrLarge},
		{64, 0, 0, api.ErrLarge},
		{math.MinInt, 0, 0, api.ErrLarge},
		{math.MaxInt, 0, 0, api.ErrLarge},
		{1<<32 + 4, 0, 0, api.ErrLarge},
		{4, -1, 0, api.ErrLarge},
		{4, api.MaxTraitor + 1, 0, api.ErrLarge},
		{2, api.MaxTraitor + 1, 0, api.ErrLarge},
		{4, math.MinInt, 0, api.ErrLarge},
		{4, math.MaxInt, 0, api.ErrLarge},
		{4, 1 << 32, 0, api.ErrLarge},
		{2, 0, 1 << 2, api.ErrArg},
		{4, 1, 1 << 4, api.ErrArg},
		{4, 1, 1 << 31, api.ErrArg},
		{4, 1, 1<<4 | 1, api.ErrArg},
		{4, 1, math.MaxUint32, api.ErrArg},
		{7, 2, 1 << 7, api.ErrArg},
		{7, 2, math.MaxUint32, api.ErrArg},
		// Several wrong at once.
		{8, 0, 1 << 8, api.ErrLarge},
		{1, 0, 1 << 1, api.ErrLarge},
		{-1, 0, 1, api.ErrLarge},
		{-1, -1, math.MaxUint32, api.ErrLarge},
		{4, -1, 1 << 4, api.ErrLarge},
		{4, 3, 1 << 4, api.ErrLarge},
		{math.MinInt, math.MaxInt, math.MaxUint32, api.ErrLarge},
	}
	for _, c := range cases {
		for _, order := range []bool{true, false} {
			for _, lies := range []uint64{0, math.MaxUint64} {
				if l, e := Play(c.n, c.m, c.traitors, order, lies); e != c.want || len(l) != 0 { // P2: all else is zero
					t.Errorf("Play(%d, %d, %#b, %v, %#x) = %v, %d; want %d", c.n, c.m, c.traitors, order, lies, l, e, c.want)
				}
			}
		}
	}
}

func TestK1JustWithin(t *testing.T) {
	for n := 2; n <= 7; n++ {
		for m := 0; m <= api.MaxTraitor; m++ {
			for _, traitors := range []uint32{0, 1, 1 << (n - 1), 1<<n - 1} {
				compare(t, game{n, m, traitors, true, 0x123456789abcdef0})
			}
		}
	}
}

// TestNothingIsShared: P3: the same again, also when what was answered has been written over.
func TestNothingIsShared(t *testing.T) {
	g := game{4, 2, 0b10, true, 1 << 43}
	for range 3 {
		l := compare(t, g)
		other := compare(t, g)
		l = l[:cap(l)]
		for i := range l {
			l[i] = !l[i]
		}
		if !slices.Equal(other, []bool{true, true, false}) {
			t.Fatal("shared", other)
		}
	}
}
