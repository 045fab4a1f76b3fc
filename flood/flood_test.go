package flood

import (
	"fmt"
	"math"
	"math/rand"
	"slices"
	"testing"

	"folkmoot/api"
)

// The chapter, read from the end back, to hold the program against: for one process, whose values have come to it, behind all rounds, hangs on who sent to it in the last one, and on whose had come to those ahead of it.

type game struct {
	values  []int
	rounds  int
	crashes []api.Crash
}

func (g game) String() string {
	return fmt.Sprintf("Play(%v, %d, %+v)", g.values, g.rounds, g.crashes)
}

func (g game) play() ([]int, api.Errno) {
	return Play(g.values, g.rounds, g.crashes)
}

// slowSends: whether who sends to another one in a round.
func (g game) slowSends(who, other, round int) bool {
	for _, c := range g.crashes {
		if c.Who == who && c.Round < round {
			return false
		}
		if c.Who == who && c.Round == round {
			return c.To&(1<<other) != 0
		}
	}
	return true
}

// slowLeast: the least of the values that come to a process.
func (g game) slowLeast(who int) int {
	from := []int{who}
	for round := g.rounds - 1; round >= 0; round-- {
		behind := slices.Clone(from)
		for other := range g.values {
			sends := func(to int) bool { return g.slowSends(other, to, round) }
			if !slices.Contains(from, other) && slices.ContainsFunc(behind, sends) {
				from = append(from, other)
			}
		}
	}
	out := math.MaxInt
	for _, other := range from {
		out = min(out, g.values[other])
	}
	return out
}

func compare(t *testing.T, g game) []int {
	t.Helper()
	var want []int
	for who := range g.values {
		want = append(want, g.slowLeast(who))
	}
	l, e := g.play()
	if e != api.OK || !slices.Equal(l, want) {
		t.Fatalf("%v = %v, %d; want %v", g, l, e, want)
	}
	return l
}

// eachCrashes: all ways in which some of n processes, or none, crash within so many rounds.
func eachCrashes(n, rounds int, each func(crashes []api.Crash)) {
	var from func(who int, crashes []api.Crash)
	from = func(who int, crashes []api.Crash) {
		if who == n {
			each(crashes)
			return
		}
		from(who+1, crashes)
		for round := range rounds {
			for to := range uint32(1) << n {
				from(who+1, append(slices.Clip(crashes), api.Crash{Who: who, Round: round, To: to}))
			}
		}
	}
	from(0, nil)
}

// eachValues: all lists of n values from 0 to n - 1.
func eachValues(n int, each func(values []int)) {
	values := make([]int, n)
	var from func(who int)
	from = func(who int) {
		if who == n {
			each(values)
			return
		}
		for values[who] = 0; values[who] < n; values[who]++ {
			from(who + 1)
		}
	}
	from(0)
}

// TestM2AllCrashes: of few, and few rounds; where there are crashes, also in the other order.
func TestM2AllCrashes(t *testing.T) {
	for _, most := range [][2]int{{1, 6}, {2, 6}, {3, 2}} {
		n := most[0]
		for rounds := range most[1] + 1 {
			eachCrashes(n, rounds, func(crashes []api.Crash) {
				back := slices.Clone(crashes)
				slices.Reverse(back)
				eachValues(n, func(values []int) {
					l := compare(t, game{values, rounds, crashes})
					if o, e := Play(values, rounds, back); e != api.OK || !slices.Equal(l, o) {
						t.Fatalf("%v = %v, %d; want %v", game{values, rounds, back}, o, e, l)
					}
				})
			})
		}
	}
}

// mixed: of n; now few values, now any; now with rounds far behind the last one, now with few to whom one still sends.
func mixed(r *rand.Rand, n, rounds int) game {
	g := game{rounds: rounds}
	span := []int{2, n, 1000}[r.Intn(3)]
	for range n {
		g.values = append(g.values, r.Intn(span)-span/2)
	}
	for _, who := range r.Perm(n)[:r.Intn(n+1)] {
		to := r.Uint32() & r.Uint32()
		if r.Intn(4) == 0 {
			to = r.Uint32()
		}
		g.crashes = append(g.crashes, api.Crash{Who: who, Round: r.Intn(rounds + 2), To: to & (1<<n - 1)})
	}
	return g
}

// TestM2MixedCrashes: of all numbers of processes and of rounds.
func TestM2MixedCrashes(t *testing.T) {
	r := rand.New(rand.NewSource(1))
	for n := 1; n <= api.MaxProcs; n++ {
		for rounds := range api.MaxProcs + 1 {
			for range 1500 {
				compare(t, mixed(r, n, rounds))
			}
		}
	}
}

// TestExample: the chapter's own.
func TestExample(t *testing.T) {
	for _, crashes := range [][]api.Crash{nil, {}} {
		if l, e := Play([]int{5, 3}, 1, crashes); e != api.OK || !slices.Equal(l, []int{3, 3}) {
			t.Error(l, e)
		}
	}
}

// TestM1Cases: worked out by hand.
func TestM1Cases(t *testing.T) {
	cases := []struct {
		game
		want []int
	}{
		// Each knows its own value, also where there is no round, or nobody else.
		{game{[]int{5, 3}, 0, nil}, []int{5, 3}},
		{game{[]int{7}, 6, nil}, []int{7}},
		{game{[]int{7}, 6, []api.Crash{{Who: 0, Round: 2, To: 1}}}, []int{7}},
		{game{[]int{math.MaxInt, math.MinInt, 0}, 1, nil}, []int{math.MinInt, math.MinInt, math.MinInt}},
		{game{[]int{math.MaxInt, math.MinInt}, 0, nil}, []int{math.MaxInt, math.MinInt}},
		{game{[]int{4, 4, 4}, 2, []api.Crash{{Who: 1}}}, []int{4, 4, 4}},
		// Who crashes in the round 0 sends to those of the set alone; it is told what the others know.
		{game{[]int{3, 5}, 1, []api.Crash{{Who: 0}}}, []int{3, 5}},
		{game{[]int{5, 3}, 1, []api.Crash{{Who: 0}}}, []int{3, 3}},
		{game{[]int{3, 5}, 1, []api.Crash{{Who: 0, To: 0b10}}}, []int{3, 3}},
		{game{[]int{3, 5}, 1, []api.Crash{{Who: 0, To: 0b01}}}, []int{3, 5}}, // to itself
		{game{[]int{5, 3, 7}, 1, []api.Crash{{Who: 1, To: 0b001}}}, []int{3, 3, 5}},
		{game{[]int{1, 2, 3, 4}, 1, []api.Crash{{Who: 0, To: 0b1010}}}, []int{1, 1, 2, 1}},
		{game{[]int{3, 5}, 1, []api.Crash{{Who: 0}, {Who: 1}}}, []int{3, 5}},
		{game{[]int{3, 5}, 1, []api.Crash{{Who: 1, To: 0b01}, {Who: 0, To: 0b10}}}, []int{3, 3}},
		// What comes in a round is sent on in the next one, not in the same, whichever way round they stand.
		{game{[]int{1, 2, 3}, 1, []api.Crash{{Who: 0, To: 0b010}}}, []int{1, 1, 2}},
		{game{[]int{1, 2, 3}, 2, []api.Crash{{Who: 0, To: 0b010}}}, []int{1, 1, 1}},
		{game{[]int{3, 2, 1}, 1, []api.Crash{{Who: 2, To: 0b010}}}, []int{2, 1, 1}},
		{game{[]int{3, 2, 1}, 2, []api.Crash{{Who: 2, To: 0b010}}}, []int{1, 1, 1}},
		// Ahead of the round in which one crashes it sends to all; behind it to none.
		{game{[]int{1, 2, 3}, 2, []api.Crash{{Who: 0, Round: 1}}}, []int{1, 1, 1}},
		{game{[]int{3, 5}, 2, []api.Crash{{Who: 0, To: 0b01}}}, []int{3, 5}},
		{game{[]int{3, 5}, 6, []api.Crash{{Who: 0}}}, []int{3, 5}},
		{game{[]int{1, 2, 3, 4}, 3, []api.Crash{{Who: 0, To: 0b0010}, {Who: 1, To: 0b1101}}}, []int{1, 1, 2, 2}}, // 1 has sent 2 to all, and knows 1 too late
		{game{[]int{1, 2, 3, 4}, 3, []api.Crash{{Who: 0, To: 0b0010}, {Who: 1, Round: 1}}}, []int{1, 1, 2, 2}},
		// One after the other crashes, and tells one more; from the last one that didn't crash all know it a round behind.
		{game{[]int{1, 2, 3, 4}, 3, []api.Crash{{Who: 0, To: 0b0010}, {Who: 1, Round: 1, To: 0b0100}, {Who: 2, Round: 2, To: 0b0001}}}, []int{1, 1, 1, 2}},
		{game{[]int{1, 2, 3, 4}, 3, []api.Crash{{Who: 0, To: 0b0010}, {Who: 1, Round: 1, To: 0b0100}, {Who: 2, Round: 2, To: 0b1000}}}, []int{1, 1, 1, 1}},
		{game{[]int{1, 2, 3, 4, 5}, 3, []api.Crash{{Who: 0, To: 0b00010}, {Who: 1, Round: 1, To: 0b00100}, {Who: 2, Round: 2, To: 0b01000}}}, []int{1, 1, 1, 1, 2}},
		{game{[]int{1, 2, 3, 4, 5}, 4, []api.Crash{{Who: 0, To: 0b00010}, {Who: 1, Round: 1, To: 0b00100}, {Who: 2, Round: 2, To: 0b01000}}}, []int{1, 1, 1, 1, 1}},
		// Who has crashed long ago still comes to know: 0 crashes first, 2 tells 1 alone, 1 tells 0 in the round behind.
		{game{[]int{9, 8, 1}, 1, []api.Crash{{Who: 0}, {Who: 2, To: 0b010}}}, []int{8, 1, 1}},
		{game{[]int{9, 8, 1}, 2, []api.Crash{{Who: 0}, {Who: 2, To: 0b010}}}, []int{1, 1, 1}},
		// A crash behind the last round is none.
		{game{[]int{3, 5}, 1, []api.Crash{{Who: 0, Round: 1}}}, []int{3, 3}},
		{game{[]int{3, 5}, 1, []api.Crash{{Who: 0, Round: math.MaxInt}}}, []int{3, 3}},
		{game{[]int{3, 5}, 0, []api.Crash{{Who: 0}, {Who: 1}}}, []int{3, 5}},
	}
	for _, c := range cases {
		if l, e := c.play(); e != api.OK || !slices.Equal(l, c.want) {
			t.Errorf("%v = %v, %d; want %v", c.game, l, e, c.want)
		}
	}
}

// alive: what those know who don't crash in a round that there is.
func alive(g game, known []int) []int {
	var out []int
	for who, value := range known {
		is := func(c api.Crash) bool { return c.Who == who && c.Round < g.rounds }
		if !slices.ContainsFunc(g.crashes, is) {
			out = append(out, value)
		}
	}
	return out
}

// TestOneRoundMore: where there are more rounds than those who crash, all who don't know the same least value; and nobody forgets.
func TestOneRoundMore(t *testing.T) {
	r := rand.New(rand.NewSource(2))
	for n := 1; n <= api.MaxProcs; n++ {
		for range 4000 {
			g := mixed(r, n, r.Intn(api.MaxProcs)+1)
			known := slices.Clone(g.values)
			last := g.rounds
			for g.rounds = 0; g.rounds <= last; g.rounds++ {
				l := compare(t, g)
				for who, value := range l {
					if value > known[who] || !slices.Contains(g.values, value) {
						t.Fatal(g, l, known)
					}
				}
				known = l
				if same := alive(g, l); g.rounds > n-len(same) && len(slices.Compact(same)) > 1 {
					t.Fatal("don't agree", g, l)
				}
			}
		}
	}
}

// TestM1Errors: what is named first is told first.
func TestM1Errors(t *testing.T) {
	two, six := []int{5, 3}, make([]int, api.MaxProcs)
	whoever := func(many int) []api.Crash {
		var out []api.Crash
		for who := range many {
			out = append(out, api.Crash{Who: who})
		}
		return out
	}
	cases := []struct {
		game
		want api.Errno
	}{
		{game{nil, 1, nil}, api.ErrLarge},
		{game{[]int{}, 0, []api.Crash{{}}}, api.ErrLarge},
		{game{make([]int, api.MaxProcs+1), 1, nil}, api.ErrLarge},
		{game{make([]int, 100), 1, nil}, api.ErrLarge},
		{game{two, -1, nil}, api.ErrLarge},
		{game{two, math.MinInt, nil}, api.ErrLarge},
		{game{two, api.MaxProcs + 1, nil}, api.ErrLarge},
		{game{two, math.MaxInt, nil}, api.ErrLarge},
		{game{two, 1, whoever(api.MaxProcs + 1)}, api.ErrLarge},
		{game{six, 1, whoever(api.MaxProcs + 1)}, api.ErrLarge},
		{game{two, 1, make([]api.Crash, 1000)}, api.ErrLarge},
		{game{two, -1, []api.Crash{{Who: 2}}}, api.ErrLarge},
		{game{two, 7, []api.Crash{{}, {}}}, api.ErrLarge},
		{game{two, 1, []api.Crash{{Who: 2}}}, api.ErrArg},
		{game{two, 1, []api.Crash{{Who: -1}}}, api.ErrArg},
		{game{two, 1, []api.Crash{{Who: math.MinInt}}}, api.ErrArg},
		{game{two, 1, []api.Crash{{Who: math.MaxInt}}}, api.ErrArg},
		{game{six, 1, []api.Crash{{Who: api.MaxProcs}}}, api.ErrArg},
		{game{two, 1, []api.Crash{{Round: -1}}}, api.ErrArg},
		{game{two, 1, []api.Crash{{Round: math.MinInt}}}, api.ErrArg},
		{game{two, 1, []api.Crash{{To: 0b100}}}, api.ErrArg},
		{game{two, 1, []api.Crash{{To: 0b111}}}, api.ErrArg},
		{game{two, 1, []api.Crash{{To: 1 << 31}}}, api.ErrArg},
		{game{six, 1, []api.Crash{{To: 1 << api.MaxProcs}}}, api.ErrArg},
		{game{two, 0, []api.Crash{{Who: 2}}}, api.ErrArg},
		{game{two, 1, []api.Crash{{Round: 9, To: 0b100}}}, api.ErrArg}, // also behind the last round
		{game{[]int{5}, 1, []api.Crash{{}, {}}}, api.ErrForm},
		{game{two, 0, []api.Crash{{Who: 1}, {Who: 1, Round: 1, To: 1}}}, api.ErrForm},
		{game{two, 1, []api.Crash{{Who: 1}, {Who: 0}, {Who: 1}}}, api.ErrForm},
		{game{two, 1, make([]api.Crash, api.MaxProcs)}, api.ErrForm},
		{game{two, 1, []api.Crash{{Round: 1}, {}}}, api.ErrForm}, // also where the one ahead is behind the last round
		{game{two, 1, []api.Crash{{Round: math.MaxInt}, {Round: math.MaxInt}}}, api.ErrForm},
		{game{six, 1, append(whoever(5), api.Crash{Who: 0, Round: 3})}, api.ErrForm},
		// The first crash that has an error tells its own; of one that has both ErrArg is told.
		{game{two, 1, []api.Crash{{}, {}, {Who: 2}}}, api.ErrForm},
		{game{two, 1, []api.Crash{{}, {Who: 2}, {}}}, api.ErrArg},
		{game{two, 1, []api.Crash{{}, {To: 0b100}}}, api.ErrArg},
		{game{two, 1, []api.Crash{{}, {Round: -1}}}, api.ErrArg},
	}
	for _, c := range cases {
		if l, e := c.play(); e != c.want || len(l) != 0 { // P2: all else is zero
			t.Errorf("%v = %v, %d; want %d", c.game, l, e, c.want)
		}
	}
}

// TestM1JustWithin: as many processes, rounds and crashes as there may be, and the greatest set of them.
func TestM1JustWithin(t *testing.T) {
	for n := 1; n <= api.MaxProcs; n++ {
		values := []int{6, 5, 4, 3, 2, 1}[:n]
		for _, rounds := range []int{0, api.MaxProcs} {
			for _, to := range []uint32{0, 1 << (n - 1), 1<<n - 1} {
				for round := range api.MaxProcs + 2 {
					var crashes []api.Crash
					for who := range n {
						crashes = append(crashes, api.Crash{Who: who, Round: round, To: to})
						compare(t, game{values, rounds, crashes})
					}
				}
			}
		}
	}
}

// TestNothingIsSharedOrChanged: P3: what is handed in stays, and what lies behind its length plays no part; what was answered may be written over.
func TestNothingIsSharedOrChanged(t *testing.T) {
	values := []int{4, 3, 2, 1, 0}
	crashes := []api.Crash{{Who: 2, To: 0b010}, {Who: 1, Round: 1}, {Who: 2}, {Who: 9}}
	sameValues, sameCrashes := slices.Clone(values), slices.Clone(crashes)
	wants := [][]int{{2, 2, 2}, {2, 2, 2}, {3, 2, 2}}
	for many, want := range wants {
		for range 3 {
			g := game{values[:3], 2, crashes[:many]}
			l := compare(t, g)
			other := compare(t, g)
			l = l[:cap(l)]
			for i := range l {
				l[i] = -9
			}
			if !slices.Equal(other, want) || !slices.Equal(values, sameValues) || !slices.Equal(crashes, sameCrashes) {
				t.Fatal("shared or changed", many, other, values, crashes)
			}
		}
	}
	l, _ := Play(values[:3], 0, nil)
	l[0] = 9
	if !slices.Equal(values, sameValues) {
		t.Error("no round: shared", values)
	}
}
