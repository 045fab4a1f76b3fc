package king

import (
	"fmt"
	"math"
	"math/bits"
	"math/rand"
	"slices"
	"testing"

	"folkmoot/api"
)

// The chapter, read backwards, to hold the program against: what one process votes at the end hangs on what was said to it, and that on what others voted ahead of it.

type game struct {
	n, t         int
	liars, votes uint32
	lies         []uint64
}

func (g game) String() string {
	return fmt.Sprintf("Play(%d, %d, %#b, %#b, %#x)", g.n, g.t, g.liars, g.votes, g.lies)
}

func (g game) play() ([]bool, api.Errno) {
	return Play(g.n, g.t, g.liars, g.votes, g.lies)
}

// place: a process, when a phase begins.
type place struct{ who, phase int }

// slow: a game, with the votes that have been worked out.
type slow struct {
	game
	known map[place]bool
}

// vote: what a process votes when a phase begins.
func (s slow) vote(who, phase int) bool {
	if phase == 0 {
		return s.votes&(1<<who) != 0
	}
	if v, ok := s.known[place{who, phase}]; ok {
		return v
	}
	v, count := s.majority(who, phase-1)
	if 2*count <= s.n+2*s.t {
		king := phase - 1
		says, _ := s.majority(king, phase-1)
		v = s.said(king, who, phase-1, 1, says)
	}
	s.known[place{who, phase}] = v
	return v
}

func (s slow) majority(who, phase int) (bool, int) {
	count := map[bool]int{}
	for from := range s.n {
		count[s.said(from, who, phase, 0, s.vote(from, phase))]++
	}
	if count[true] > count[false] {
		return true, count[true]
	}
	return false, count[false]
}

func (g game) said(i, j, k, r int, truth bool) bool {
	if g.liars&(1<<i) == 0 {
		return truth
	}
	if 2*k+r >= len(g.lies) {
		return false
	}
	return g.lies[2*k+r]&(1<<((g.n*i+j)%64)) != 0
}

func (g game) slowPlay() []bool {
	s := slow{g, map[place]bool{}}
	var out []bool
	for who := range g.n {
		out = append(out, s.vote(who, g.t+1))
	}
	return out
}

func compare(t *testing.T, g game) []bool {
	t.Helper()
	l, e := g.play()
	if want := g.slowPlay(); e != api.OK || !slices.Equal(l, want) {
		t.Fatalf("%v = %v, %d; want %v", g, l, e, want)
	}
	return l
}

// eachGame: of so many, whoever lie and however they vote, without lies as yet.
func eachGame(n, t int, each func(g game)) {
	for liars := range uint32(1) << n {
		for votes := range uint32(1) << n {
			each(game{n, t, liars, votes, nil})
		}
	}
}

// asked: for each round, the bits on which something hangs; and how many they are in all.
func (g game) asked() ([]uint64, int) {
	out := make([]uint64, 2*g.t+2)
	for i := range g.n {
		for j := range g.n {
			for k := 0; k <= g.t && g.liars&(1<<i) != 0; k++ {
				out[2*k] |= 1 << ((g.n*i + j) % 64)
				if k == i {
					out[2*k+1] |= 1 << ((g.n*i + j) % 64)
				}
			}
		}
	}
	many := 0
	for _, b := range out {
		many += bits.OnesCount64(b)
	}
	return out, many
}

// eachLies: all lists of lies that have no bits but those.
func eachLies(asked []uint64, each func(lies []uint64)) {
	lies := make([]uint64, len(asked))
	var from func(round int)
	from = func(round int) {
		if round == len(asked) {
			each(lies)
			return
		}
		for x := asked[round]; ; x = (x - 1) & asked[round] {
			lies[round] = x
			from(round + 1)
			if x == 0 {
				return
			}
		}
	}
	from(0)
}

// otherwise: the same lies, with all bits set that nobody asks for, and more rounds than there are; and without the last rounds, where nothing is set.
func otherwise(lies, asked []uint64) ([]uint64, []uint64) {
	var more []uint64
	for round := range lies {
		more = append(more, lies[round]|^asked[round])
	}
	more = append(more, math.MaxUint64, math.MaxUint64, math.MaxUint64)
	less := slices.Clone(lies)
	for len(less) > 0 && less[len(less)-1] == 0 {
		less = less[:len(less)-1]
	}
	return more, less
}

// TestAllLies: of few, whatever the liars say.
func TestAllLies(t *testing.T) {
	for n := 1; n <= 4; n++ {
		for phases := range n {
			eachGame(n, phases, func(g game) {
				asked, many := g.asked()
				if many > 12 {
					return
				}
				eachLies(asked, func(lies []uint64) {
					g.lies = lies
					l := compare(t, g)
					more, less := otherwise(lies, asked)
					for _, other := range [][]uint64{more, less} {
						g.lies = other
						if o, e := g.play(); e != api.OK || !slices.Equal(l, o) {
							t.Fatalf("%v = %v, %d; want %v, as with %#x", g, o, e, l, lies)
						}
					}
				})
			})
		}
	}
}

// mixedLies: of any kind and number, also with few bits set, or few that are not, in a round.
func mixedLies(r *rand.Rand, most int) []uint64 {
	lies := make([]uint64, r.Intn(most+1))
	for round := range lies {
		lies[round] = r.Uint64()
		switch r.Intn(5) {
		case 0:
			lies[round] &= r.Uint64() & r.Uint64()
		case 1:
			lies[round] |= r.Uint64() | r.Uint64()
		case 2:
			lies[round] = 0
		}
	}
	return lies
}

// TestMixedLies: of all numbers of processes and of phases; now of any liars, now of as few as they reckon with.
func TestMixedLies(t *testing.T) {
	r := rand.New(rand.NewSource(1))
	for n := 1; n <= api.MaxKing; n++ {
		for most := range n {
			for range 1500 {
				g := game{n: n, t: most, liars: r.Uint32(), votes: r.Uint32(), lies: mixedLies(r, 2*most+4)}
				g.liars &= 1<<n - 1
				g.votes &= 1<<n - 1
				for r.Intn(2) == 0 && bits.OnesCount32(g.liars) > most {
					g.liars &= g.liars - 1
				}
				compare(t, g)
			}
		}
	}
}

// TestL2EachBit: one that is set alone, and one that alone is not, in each round.
func TestL2EachBit(t *testing.T) {
	for n := 1; n <= api.MaxKing; n++ {
		for _, most := range []int{0, n / 3, n - 1} {
			for round := range 2*most + 3 {
				for bit := range 64 {
					one := make([]uint64, 2*most+3)
					one[round] = 1 << bit
					all := slices.Repeat([]uint64{math.MaxUint64}, 2*most+3)
					all[round] = ^(1 << bit)
					for _, liars := range []uint32{1, 1 << (n - 1), 1<<n - 1} {
						for _, votes := range []uint32{0, 0x155 & (1<<n - 1)} {
							compare(t, game{n, most, liars, votes, one})
							compare(t, game{n, most, liars, votes, all})
						}
					}
				}
			}
		}
	}
}

// TestL2NoLiar: all hear the same, and so all vote what more of them do than not, the lies and t whatever they are.
func TestL2NoLiar(t *testing.T) {
	for n := 1; n <= api.MaxKing; n++ {
		for most := range n {
			for votes := range uint32(1) << n {
				want := slices.Repeat([]bool{2*bits.OnesCount32(votes) > n}, n)
				for _, lies := range [][]uint64{nil, slices.Repeat([]uint64{math.MaxUint64}, 18)} {
					if l, e := Play(n, most, 0, votes, lies); e != api.OK || !slices.Equal(l, want) {
						t.Fatal(n, most, votes, l, e)
					}
				}
			}
		}
	}
}

// TestExample: the chapter's own.
func TestExample(t *testing.T) {
	for _, lies := range [][]uint64{nil, {1, 1}, {0, math.MaxUint64}} {
		if l, e := Play(1, 0, 0, 1, lies); e != api.OK || !slices.Equal(l, []bool{true}) {
			t.Error(l, e)
		}
		if l, e := Play(1, 0, 0, 0, lies); e != api.OK || !slices.Equal(l, []bool{false}) {
			t.Error(l, e)
		}
	}
}

// row: all the places of a list, from the first on, as a word's bits.
func row(n int, set uint32) []bool {
	var out []bool
	for k := range n {
		out = append(out, set&(1<<k) != 0)
	}
	return out
}

// TestL2Cases: worked out by hand.
func TestL2Cases(t *testing.T) {
	cases := []struct {
		game
		want uint32
	}{
		// A liar says to itself, too, what it is told to.
		{game{1, 0, 1, 1, nil}, 0},
		{game{1, 0, 1, 0, []uint64{1}}, 1},
		{game{1, 0, 1, 1, []uint64{^uint64(1), 1}}, 0}, // it is sure, and asks no king
		// Of two with t 0 two that say the same are sure; else all take what the king says: its majority, false, if it says the truth.
		{game{2, 0, 0, 0b01, nil}, 0b00},
		{game{2, 0, 0, 0b10, nil}, 0b00},
		{game{2, 0, 0, 0b11, nil}, 0b11},
		{game{2, 0, 0b01, 0b10, []uint64{0, 0b11}}, 0b11},      // the king 0 lied to both that it was false, then true
		{game{2, 0, 0b01, 0b10, []uint64{0, 0b01}}, 0b01},      // to itself alone
		{game{2, 0, 0b01, 0b10, []uint64{0, 0b10}}, 0b10},      // to 1 alone
		{game{2, 0, 0b01, 0b10, []uint64{0b10, 0b00}}, 0b10},   // 1 hears true twice, and is sure
		{game{2, 0, 0b10, 0b01, []uint64{0, 0b1111}}, 0b00},    // 1 lies, but isn't king
		{game{2, 0, 0b10, 0b01, []uint64{0b1000, 0b11}}, 0b10}, // to itself by the bit 3
		// With t 1 two are never sure: 1, who lies, is king in the phase 1, and its bits are 2 and 3. In the phase 0 it tells 0 true.
		{game{2, 1, 0b10, 0b01, []uint64{0b0100}}, 0b00},
		{game{2, 1, 0b10, 0b01, []uint64{0b0100, 0, 0, 0b0100}}, 0b01},
		{game{2, 1, 0b10, 0b01, []uint64{0b0100, 0, 0, 0b1000}}, 0b10},
		{game{2, 1, 0b10, 0b01, []uint64{0b0100, 0, 0, 0b1100, 0}}, 0b11},
		{game{2, 1, 0b10, 0b01, []uint64{0, 0, 0b1100, 0b0011}}, 0b00}, // the bits of 0, who doesn't lie
		// Of five with t 1 four are enough, three are not: 0 lies to 1 and 2, who are sure; the others take the king's word.
		{game{5, 1, 0b00001, 0b01111, []uint64{0b00110, 0b10000}}, 0b11111}, // true to 4 then, so that three say true in the phase 1
		{game{5, 1, 0b00001, 0b01111, []uint64{0b00110, 0b00001}}, 0b00000}, // to itself alone, so that two say true in the phase 1
		{game{5, 1, 0b00001, 0b01111, []uint64{0b00110, 0b00001, 0b00001}}, 0b00000},
		{game{5, 1, 0b00001, 0b01111, []uint64{0b00110, 0b00001, 0b00010}}, 0b11111}, // 1, now king, hears a third one
		// With t 0 three are enough.
		{game{5, 0, 0b00001, 0b01111, []uint64{0b00110, 0}}, 0b11111},
		{game{5, 0, 0b00001, 0b00111, []uint64{0b00110, math.MaxUint64}}, 0b00110}, // two, and the liar
		// With t 2 all five have to say it. 2, the last king, does; where it doesn't, to 0, that takes its word.
		{game{5, 2, 0b00100, 0b11111, slices.Repeat([]uint64{math.MaxUint64}, 5)}, 0b11111},
		{game{5, 2, 0b00100, 0b11111, append(slices.Repeat([]uint64{math.MaxUint64}, 4), ^uint64(1<<10))}, 0b11110},
		{game{5, 2, 0b00100, 0b11111, append(slices.Repeat([]uint64{math.MaxUint64}, 4), ^uint64(1<<10), 1<<10)}, 0b11111},
		// Of four with t 2 all four are not enough.
		{game{4, 2, 0b0100, 0b1111, slices.Repeat([]uint64{math.MaxUint64}, 5)}, 0b0000},
		{game{4, 2, 0b0100, 0b1111, append(slices.Repeat([]uint64{math.MaxUint64}, 5), 1<<8|1<<11)}, 0b1001},
		// Of nine the bits begin anew at 64: 7 tells 0 by the bit 63, 1 by 0, and 8 by 7; 8 tells 0 by 8. Four others say true, four false.
		{game{9, 0, 1 << 7, 0b000001111, []uint64{1 << 63}}, 0b000000001},
		{game{9, 0, 1 << 7, 0b000001111, []uint64{1 << 0}}, 0b000000010},
		{game{9, 0, 1 << 7, 0b000001111, []uint64{1 << 7}}, 0b100000000},
		{game{9, 0, 1 << 7, 0b000001111, []uint64{1 << 8}}, 0b000000000},
		{game{9, 0, 1 << 8, 0b000001111, []uint64{1<<8 | 1<<10 | 1<<16}}, 0b100000101},
		{game{9, 0, 1 << 8, 0b000001111, []uint64{^uint64(1<<8 | 1<<10 | 1<<16)}}, 0b011111010},
	}
	for _, c := range cases {
		if l, e := c.play(); e != api.OK || !slices.Equal(l, row(c.n, c.want)) {
			t.Errorf("%v = %v, %d; want %v", c.game, l, e, row(c.n, c.want))
		}
	}
}

// TestL2Sure: one is sure where twice its count is above n + 2 * t, and not where it is as much. All lie; in the last phase so many tell 0 true, and the king the contrary of what more of them do.
func TestL2Sure(t *testing.T) {
	for n := 1; n <= api.MaxKing; n++ {
		for most := range n {
			for yes := 0; yes <= n; yes++ {
				lies := make([]uint64, 2*most+2)
				for i := range yes {
					lies[2*most] |= 1 << (n * i % 64)
				}
				majority := 2*yes > n
				if !majority {
					lies[2*most+1] = 1 << (n * most % 64)
				}
				sure := 2*max(yes, n-yes) > n+2*most
				l, e := Play(n, most, 1<<n-1, 0, lies)
				if e != api.OK || len(l) != n || l[0] != (majority == sure) {
					t.Error(n, most, yes, l, e)
				}
			}
		}
	}
}

// loyalVotes: those of the ones who don't lie.
func loyalVotes(g game, votes []bool) []bool {
	var out []bool
	for who, is := range votes {
		if g.liars&(1<<who) == 0 {
			out = append(out, is)
		}
	}
	return out
}

// TestLoyalAgree: with at most t liars among more than 4 * t, all who don't lie vote the same in the end; and what they all voted in the beginning, if that was the same.
func TestLoyalAgree(t *testing.T) {
	r := rand.New(rand.NewSource(2))
	for n := 1; n <= api.MaxKing; n++ {
		for most := 0; 4*most < n; most++ {
			eachGame(n, most, func(g game) {
				if bits.OnesCount32(g.liars) > most {
					return
				}
				before := slices.Compact(loyalVotes(g, row(n, g.votes)))
				for range 30 {
					g.lies = mixedLies(r, 2*most+2)
					l, e := g.play()
					if e != api.OK {
						t.Fatal(g, e)
					}
					after := slices.Compact(loyalVotes(g, l))
					if len(after) != 1 || len(before) == 1 && !slices.Equal(before, after) {
						t.Fatal(g, l, "they don't agree")
					}
				}
			})
		}
	}
}

// TestTooFew: one liar among four, the last king, brings those who don't lie to vote what none of them did, or not the same; and so do two among nine with t 1.
func TestTooFew(t *testing.T) {
	cases := []struct {
		game
		want uint32
	}{
		{game{4, 1, 0b0010, 0b1101, []uint64{0, 0, 0, 0}}, 0b0000}, // three are no more than 4 + 2, halved
		{game{4, 1, 0b0010, 0b1101, []uint64{0, 0, 0, 1 << 4}}, 0b0001},
		{game{9, 1, 0b000000011, 0b101010100, []uint64{0, 1<<2 | 1<<4 | 1<<6 | 1<<8, 0, 1<<11 | 1<<12}}, 0b000001100},
	}
	for _, c := range cases {
		if l, e := c.play(); e != api.OK || !slices.Equal(l, row(c.n, c.want)) {
			t.Errorf("%v = %v, %d; want %v", c.game, l, e, row(c.n, c.want))
		}
	}
}

func TestL1Errors(t *testing.T) {
	cases := []struct {
		n, t         int
		liars, votes uint32
		want         api.Errno
	}{
		{0, 0, 0, 0, api.ErrLarge},
		{-1, 0, 0, 0, api.ErrLarge},
		{10, 0, 0, 0, api.ErrLarge},
		{33, 0, 0, 0, api.ErrLarge},
		{64, 1, 0, 0, api.ErrLarge},
		{math.MinInt, 0, 0, 0, api.ErrLarge},
		{math.MaxInt, 0, 0, 0, api.ErrLarge},
		{math.MaxInt, math.MaxInt - 1, 0, 0, api.ErrLarge},
		{1<<32 + 4, 0, 0, 0, api.ErrLarge},
		{0, -1, 0, 0, api.ErrLarge},
		{1, -1, 0, 0, api.ErrLarge},
		{1, 1, 0, 0, api.ErrLarge},
		{5, -1, 0, 0, api.ErrLarge},
		{5, 5, 0, 0, api.ErrLarge},
		{9, 9, 0, 0, api.ErrLarge},
		{5, math.MinInt, 0, 0, api.ErrLarge},
		{5, math.MaxInt, 0, 0, api.ErrLarge},
		{5, 1 << 32, 0, 0, api.ErrLarge},
		{1, 0, 1 << 1, 0, api.ErrArg},
		{1, 0, 0, 1 << 1, api.ErrArg},
		{5, 1, 1 << 5, 0, api.ErrArg},
		{5, 1, 0, 1 << 5, api.ErrArg},
		{5, 1, 1<<5 | 1, 0b11111, api.ErrArg},
		{5, 1, 0b11111, 1<<5 | 1, api.ErrArg},
		{5, 1, 1 << 31, 0, api.ErrArg},
		{5, 1, 0, 1 << 31, api.ErrArg},
		{5, 1, math.MaxUint32, math.MaxUint32, api.ErrArg},
		{9, 8, 1 << 9, 0, api.ErrArg},
		{9, 8, 0, 1 << 9, api.ErrArg},
		// Several wrong at once.
		{0, 0, 1, 0, api.ErrLarge},
		{-1, 0, 0, 1, api.ErrLarge},
		{10, 0, 1 << 10, 0, api.ErrLarge},
		{5, 5, 1 << 5, 0, api.ErrLarge},
		{5, -1, 0, 1 << 5, api.ErrLarge},
		{math.MinInt, math.MaxInt, math.MaxUint32, math.MaxUint32, api.ErrLarge},
	}
	for _, c := range cases {
		for _, lies := range [][]uint64{nil, {}, {0}, {math.MaxUint64, math.MaxUint64}} {
			if l, e := Play(c.n, c.t, c.liars, c.votes, lies); e != c.want || len(l) != 0 { // P2: all else is zero
				t.Errorf("Play(%d, %d, %#b, %#b, %#x) = %v, %d; want %d", c.n, c.t, c.liars, c.votes, lies, l, e, c.want)
			}
		}
	}
}

func TestL1JustWithin(t *testing.T) {
	for n := 1; n <= api.MaxKing; n++ {
		for _, most := range []int{0, n - 1} {
			for _, liars := range []uint32{0, 1, 1 << (n - 1), 1<<n - 1} {
				for _, votes := range []uint32{0, 1, 1 << (n - 1), 1<<n - 1} {
					compare(t, game{n, most, liars, votes, []uint64{0x123456789abcdef0, 0x0fedcba987654321}})
				}
			}
		}
	}
}

// TestNothingIsSharedOrChanged: P3: what is handed in stays, and what lies behind its length plays no part; what was answered may be written over.
func TestNothingIsSharedOrChanged(t *testing.T) {
	long := []uint64{0b0100, 0, 0, 0b0100, math.MaxUint64}
	for length := range len(long) {
		lies := slices.Clone(long)
		g := game{2, 1, 0b10, 0b01, lies[:length]}
		want := row(2, 0b00)
		if length > 3 {
			want = row(2, 0b01)
		}
		for range 3 {
			l := compare(t, g)
			other := compare(t, g)
			l = l[:cap(l)]
			for i := range l {
				l[i] = !l[i]
			}
			if !slices.Equal(other, want) || !slices.Equal(lies, long) {
				t.Fatal("shared or changed", length, other, lies)
			}
		}
	}
}

// TestManyLies: a list of more rounds than there are is as one of those there are.
func TestManyLies(t *testing.T) {
	g := game{9, 2, 0b110, 0b101010101, []uint64{5 << 9, 1 << 20, 9 << 12, 77 << 9, 3 << 20, 1<<18 | 1<<22}}
	want := compare(t, g)
	g.lies = append(g.lies, slices.Repeat([]uint64{math.MaxUint64}, 1<<16)...)
	if l, e := g.play(); e != api.OK || !slices.Equal(l, want) {
		t.Error(l, e, want)
	}
}
