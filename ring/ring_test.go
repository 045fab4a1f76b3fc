package ring

import (
	"fmt"
	"iter"
	"math"
	"math/rand/v2"
	"slices"
	"testing"

	"folkmoot/api"
)

func begin(who int) api.Turn { return api.Turn{Kind: api.RBegin, Who: who} }
func take(who int) api.Turn  { return api.Turn{Kind: api.RTake, Who: who} }

// takes: each of these takes once, in order.
func takes(whos ...int) []api.Turn {
	var out []api.Turn
	for _, who := range whos {
		out = append(out, take(who))
	}
	return out
}

// The chapter, word by word and slowly, to hold the program against: only what happened is written down, one thing behind the other, and all else is asked of that.

const (
	sent = iota
	came
	chosen
)

type happening struct{ what, who, name int }

type log struct {
	names []int
	all   []happening
}

func (g *log) write(what, who, name int) {
	g.all = append(g.all, happening{what, who, name})
}

// of: the names of what one did of a kind, in order.
func (g *log) of(what, who int) []int {
	var out []int
	for _, h := range g.all {
		if h.what == what && h.who == who {
			out = append(out, h.name)
		}
	}
	return out
}

func (g *log) takesPart(who int) bool { return len(g.of(sent, who)) > 0 }

// onWay: what the one ahead of a process has sent, and has not come, in order.
func (g *log) onWay(who int) []int {
	ahead := who - 1
	if who == 0 {
		ahead = len(g.names) - 1
	}
	return g.of(sent, ahead)[len(g.of(came, who)):]
}

// step: what a step is told; if nothing is wrong, it happens.
func (g *log) step(s api.Turn) api.Errno {
	if !slices.Contains([]int{api.RBegin, api.RTake}, s.Kind) {
		return api.ErrKind
	}
	if s.Who < 0 || s.Who > len(g.names)-1 {
		return api.ErrArg
	}
	own := g.names[s.Who]
	if s.Kind == api.RBegin {
		if g.takesPart(s.Who) {
			return api.ErrHold
		}
		g.write(sent, s.Who, own)
		return api.OK
	}
	if len(g.onWay(s.Who)) == 0 {
		return api.ErrNone
	}
	name := g.onWay(s.Who)[0]
	g.write(came, s.Who, name)
	if name > own {
		g.write(sent, s.Who, name)
	}
	if name == own {
		g.write(chosen, s.Who, own)
	}
	if name < own && !g.takesPart(s.Who) {
		g.write(sent, s.Who, own)
	}
	return api.OK
}

// state: all that what comes next hangs on.
func (g *log) state() string {
	var out []any
	for who := range g.names {
		out = append(out, g.takesPart(who), g.onWay(who), g.of(chosen, who))
	}
	return fmt.Sprint(out...)
}

func slowPlay(names []int, script []api.Turn) (api.Ringed, *log) {
	g := &log{names: names}
	var r api.Ringed
	for _, s := range script {
		r.Codes = append(r.Codes, g.step(s))
	}
	for _, h := range g.all {
		switch h.what {
		case sent:
			r.Sent++
			r.Away++
		case came:
			r.Away--
		case chosen:
			r.Chosen = append(r.Chosen, h.who)
		}
	}
	return r, g
}

func same(a, b api.Ringed) bool {
	return slices.Equal(a.Codes, b.Codes) && slices.Equal(a.Chosen, b.Chosen) && a.Sent == b.Sent && a.Away == b.Away
}

// wantGreatest: what the names are sent for: nobody but the one with the greatest name is chosen, once; it is, when all that was sent has come; and no name goes farther than it must.
func wantGreatest(t *testing.T, names []int, script []api.Turn, r api.Ringed) {
	t.Helper()
	n := len(names)
	greatest := slices.Index(names, slices.Max(names))
	rests := r.Sent > 0 && r.Away == 0
	switch {
	case len(r.Chosen) > 1 || len(r.Chosen) == 1 && r.Chosen[0] != greatest:
		t.Fatal("wrongly chosen", names, script, r)
	case rests && len(r.Chosen) == 0:
		t.Fatal("nobody was chosen", names, script, r)
	case rests && r.Sent < n || r.Sent > n*(n+1)/2:
		t.Fatal("too few or too many were sent", names, script, r)
	}
}

// wantAsWords holds Play against the slow one; it answers what they say.
func wantAsWords(t *testing.T, names []int, script []api.Turn) (api.Ringed, *log) {
	t.Helper()
	want, g := slowPlay(names, script)
	got, e := Play(names, script)
	if e != api.OK || !same(got, want) {
		t.Fatalf("Play(%v, %v) = %v, %d; want %v", names, script, got, e, want)
	}
	wantGreatest(t, names, script, got)
	return got, g
}

// orders: those names in each order.
func orders(names []int) iter.Seq[[]int] {
	return func(yield func([]int) bool) {
		if len(names) == 0 {
			yield(nil)
			return
		}
		for i, name := range names {
			for rest := range orders(slices.Delete(slices.Clone(names), i, i+1)) {
				if !yield(append([]int{name}, rest...)) {
					return
				}
			}
		}
	}
}

// someNames: of each number of processes; the ends of all numbers among them.
var someNames = [][]int{
	{0},
	{math.MinInt, math.MaxInt},
	{-1, 0, 1},
	{math.MinInt, -7, 7, math.MaxInt},
	{1, 2, 3, 4, 5},
	{math.MinInt, -2, 0, 1, 1 << 40, math.MaxInt},
}

// allSteps: each one of n processes, and some of who is none.
func allSteps(n int) []api.Turn {
	var out []api.Turn
	for who := -1; who <= n; who++ {
		out = append(out, begin(who), take(who))
	}
	return append(out, api.Turn{Kind: 0, Who: 0}, api.Turn{Kind: 3, Who: 0})
}

// grow goes through all scripts of those steps with at most so many.
func grow(t *testing.T, names []int, steps, script []api.Turn, more int) {
	wantAsWords(t, names, script)
	if more == 0 {
		return
	}
	for _, step := range steps {
		grow(t, names, steps, append(slices.Clip(script), step), more-1)
	}
}

// TestAllShortScripts: each script of few steps, wrong ones too.
func TestAllShortScripts(t *testing.T) {
	for _, c := range []struct{ n, steps int }{{1, 5}, {2, 5}, {3, 4}, {4, 3}} {
		for names := range orders(someNames[c.n-1]) {
			grow(t, names, allSteps(c.n), nil, c.steps)
		}
	}
}

// TestAllStates: in each ring of few, all steps from each state that any steps lead to.
func TestAllStates(t *testing.T) {
	for n := 1; n <= 5; n++ {
		most, rests := 0, 0
		for names := range orders(someNames[n-1]) {
			seen := map[string]bool{}
			scripts := [][]api.Turn{nil}
			for len(scripts) > 0 {
				script := scripts[0]
				scripts = scripts[1:]
				for _, step := range allSteps(n) {
					more := append(slices.Clip(script), step)
					got, g := wantAsWords(t, names, more)
					if got.Codes[len(script)] == api.OK && !seen[g.state()] {
						seen[g.state()] = true
						scripts = append(scripts, more)
						most = max(most, got.Sent)
						if got.Away == 0 {
							rests++
						}
					}
				}
			}
		}
		if most != n*(n+1)/2 || rests == 0 {
			t.Error("too few were sent, or never all came", n, most, rests)
		}
	}
}

// mixedStep: seldom a wrong one.
func mixedStep(r *rand.Rand, n int) api.Turn {
	switch r.IntN(12) {
	case 0:
		return api.Turn{Kind: r.IntN(5) - 1, Who: r.IntN(n+2) - 1}
	case 1:
		return begin(r.IntN(n))
	default:
		return take(r.IntN(n))
	}
}

// TestMixedScripts: longer ones, up to the limits, with wrong steps among them.
func TestMixedScripts(t *testing.T) {
	r := rand.New(rand.NewPCG(9, 1)) // the same numbers each time
	codes := map[api.Errno]int{}
	chosen, away := 0, 0
	for n := 1; n <= api.MaxProcs; n++ {
		for round := range 1000 {
			names := slices.Clone(someNames[n-1])
			r.Shuffle(n, func(i, k int) { names[i], names[k] = names[k], names[i] })
			script := make([]api.Turn, []int{15, 40, api.MaxScript}[round%3])
			for i := range script {
				script[i] = mixedStep(r, n)
			}
			got, _ := wantAsWords(t, names, script)
			for _, e := range got.Codes {
				codes[e]++
			}
			chosen += len(got.Chosen)
			away += min(got.Away, 1)
		}
	}
	if chosen < 1000 || away < 1000 {
		t.Error("too few were chosen, or nothing is on its way", chosen, away)
	}
	for _, e := range []api.Errno{api.OK, api.ErrKind, api.ErrArg, api.ErrNone, api.ErrHold} {
		if codes[e] < 1000 {
			t.Error("too few steps were told", e, codes)
		}
	}
}

func ok(k int) []api.Errno { return make([]api.Errno, k) }

func TestI2I3Rings(t *testing.T) {
	rising := []int{1, 2, 3, 4, 5, 6}
	falling := []int{6, 5, 4, 3, 2, 1}
	all := []api.Turn{begin(0), begin(1), begin(2), begin(3), begin(4), begin(5)}
	round := takes(1, 2, 3, 4, 5, 0)
	cases := []struct {
		name   string
		names  []int
		script []api.Turn
		chosen []int
		sent   int
		away   int
	}{
		{"no steps", []int{3, 1, 2}, nil, nil, 0, 0},
		{"one alone has begun", []int{0}, []api.Turn{begin(0)}, nil, 1, 1},
		{"example", []int{0}, []api.Turn{begin(0), take(0)}, []int{0}, 1, 0},
		{"a greater name is sent on", []int{2, 1}, []api.Turn{begin(0), take(1)}, nil, 2, 1},
		{"its own name comes back", []int{2, 1}, []api.Turn{begin(0), take(1), take(0)}, []int{0}, 2, 0},
		{"a lesser name brings one in, with its own", []int{1, 2}, []api.Turn{begin(0), take(1)}, nil, 2, 1},
		{"that name goes on", []int{1, 2}, []api.Turn{begin(0), take(1), take(0)}, nil, 3, 1},
		{"and comes back", []int{1, 2}, []api.Turn{begin(0), take(1), take(0), take(1)}, []int{1}, 3, 0},
		{"a lesser name is lost at one that has begun", []int{1, 2}, []api.Turn{begin(0), begin(1), take(1)}, nil, 2, 1},
		{"a name is sent on by one that has begun", []int{1, 2}, []api.Turn{begin(0), begin(1), take(0)}, nil, 3, 2},
		{"what was sent first comes first", []int{1, 2}, []api.Turn{begin(0), begin(1), take(0), take(1)}, nil, 3, 1},
		{"the other one behind it", []int{1, 2}, []api.Turn{begin(0), begin(1), take(0), take(1), take(1)}, []int{1}, 3, 0},
		{"a name ends where a greater one has begun", []int{3, 2, 1}, []api.Turn{begin(0), take(1), begin(2), take(0)}, nil, 3, 1},
		{"the greatest one is brought in last", []int{4, 2, 5, 1}, []api.Turn{begin(0), take(1), begin(3), take(0), take(2), take(3), take(0), take(1), take(2)}, []int{2}, 7, 0},
		{"three names end at the greatest one", falling, slices.Concat(all, takes(0), takes(5, 0), takes(4, 5, 0)), nil, 9, 3},
		{"names that fall all the way round", falling, slices.Concat(all, round, round[1:], round[2:], round[3:], round[4:], round[5:]), []int{0}, 21, 0},
		{"names that rise along the ring", rising, slices.Concat(all, takes(1, 2, 3, 4, 5), takes(0, 1, 2, 3, 4, 5)), []int{5}, 11, 0},
		{"the least one begins", rising, slices.Concat(all[:1], round, round[:5]), []int{5}, 11, 0},
		{"the greatest one begins", falling, slices.Concat(all[:1], round), []int{0}, 6, 0},
		{"names below 0", []int{-3, -1, -2}, slices.Concat([]api.Turn{begin(2)}, takes(0, 1, 2, 0, 1)), []int{1}, 5, 0},
		{"the least and the greatest number", []int{math.MinInt, math.MaxInt}, []api.Turn{begin(0), take(1), take(0), take(1)}, []int{1}, 3, 0},
	}
	for _, c := range cases {
		t.Run(c.name, func(t *testing.T) {
			got, _ := wantAsWords(t, c.names, c.script)
			want := api.Ringed{Codes: ok(len(c.script)), Chosen: c.chosen, Sent: c.sent, Away: c.away}
			if !same(got, want) {
				t.Errorf("Play(%v, %v) = %v; want %v", c.names, c.script, got, want)
			}
		})
	}
}

// TestI2StepErrors: each wrong step, and that it changes nothing.
func TestI2StepErrors(t *testing.T) {
	// 0 has begun, and 1 has sent its name on; that is on the way to 2; 2 has sent nothing.
	names := []int{3, 1, 2}
	ahead := []api.Turn{begin(0), take(1)}
	behind := []api.Turn{begin(2), take(2), take(0), take(0)}
	cases := []struct {
		step api.Turn
		want api.Errno
	}{
		{api.Turn{Kind: 0, Who: 2}, api.ErrKind},
		{api.Turn{Kind: 3, Who: 2}, api.ErrKind},
		{api.Turn{Kind: -1, Who: 9}, api.ErrKind},
		{api.Turn{Kind: 3, Who: -1}, api.ErrKind},
		{api.Turn{Kind: math.MaxInt, Who: 3}, api.ErrKind},
		{api.Turn{Kind: math.MinInt}, api.ErrKind},
		{begin(-1), api.ErrArg},
		{begin(3), api.ErrArg},
		{begin(4), api.ErrArg},
		{begin(math.MaxInt), api.ErrArg},
		{begin(math.MinInt), api.ErrArg},
		{take(-1), api.ErrArg},
		{take(3), api.ErrArg},
		{take(5), api.ErrArg},
		{take(math.MaxInt), api.ErrArg},
		{take(math.MinInt), api.ErrArg},
		{begin(0), api.ErrHold}, // it has begun
		{begin(1), api.ErrHold}, // it has sent a name on
		{take(0), api.ErrNone},  // it has sent nothing to itself
		{take(1), api.ErrNone},  // it has come already
	}
	for _, c := range cases {
		t.Run(fmt.Sprint(c.step), func(t *testing.T) {
			wantCode(t, names, ahead, c.step, c.want, behind)
		})
	}
	alone := []int{4}
	wantCode(t, alone, nil, take(0), api.ErrNone, []api.Turn{begin(0), take(0)})
	wantCode(t, alone, []api.Turn{begin(0)}, begin(0), api.ErrHold, []api.Turn{take(0)})
	wantCode(t, alone, []api.Turn{begin(0), take(0)}, take(0), api.ErrNone, nil)
	wantCode(t, alone, []api.Turn{begin(0), take(0)}, begin(0), api.ErrHold, nil) // who was chosen still takes part
	// A lesser name has brought 1 in.
	wantCode(t, []int{1, 2}, []api.Turn{begin(0), take(1)}, begin(1), api.ErrHold, takes(0, 1))
}

// wantCode: what a step is told; and that it leaves all as it was, for what comes behind it too.
func wantCode(t *testing.T, names []int, ahead []api.Turn, step api.Turn, code api.Errno, behind []api.Turn) {
	t.Helper()
	for k := range len(behind) + 1 {
		without, e := Play(names, slices.Concat(ahead, behind[:k]))
		with, f := Play(names, slices.Concat(ahead, []api.Turn{step}, behind[:k]))
		if !slices.Equal(without.Codes, ok(len(ahead)+k)) {
			t.Fatal("a step beside it is wrong", ahead, behind, without)
		}
		without.Codes = slices.Insert(without.Codes, len(ahead), code)
		if e != api.OK || f != api.OK || !same(with, without) {
			t.Errorf("%v, %v, behind it %v: %v; want %v", ahead, step, behind[:k], with, without)
		}
	}
}

// TestI1Limits: what just lies within them.
func TestI1Limits(t *testing.T) {
	for n := 1; n <= api.MaxProcs; n++ {
		script := []api.Turn{begin(n - 1)}
		for who := 0; len(script) < api.MaxScript; who++ {
			script = append(script, take(who%n))
		}
		got, _ := wantAsWords(t, someNames[n-1], script)
		want := api.Ringed{Codes: ok(api.MaxScript), Chosen: []int{n - 1}, Sent: n}
		for i := n + 1; i < api.MaxScript; i++ {
			want.Codes[i] = api.ErrNone
		}
		if !same(got, want) {
			t.Error(got, want)
		}
	}
}

func TestI1Errors(t *testing.T) {
	long := slices.Repeat([]api.Turn{begin(0)}, api.MaxScript+1)
	seven := []int{1, 2, 3, 4, 5, 6, 7}
	cases := []struct {
		name   string
		names  []int
		script []api.Turn
		want   api.Errno
	}{
		{"none", nil, nil, api.ErrLarge},
		{"none, and a step", []int{}, []api.Turn{begin(0)}, api.ErrLarge},
		{"none, and too many steps", nil, long, api.ErrLarge},
		{"too many", seven, nil, api.ErrLarge},
		{"too many, and a wrong step", seven, []api.Turn{{Kind: 9}}, api.ErrLarge},
		{"too many of one name", make([]int, 7), nil, api.ErrLarge},
		{"far too many", make([]int, 1000), nil, api.ErrLarge},
		{"too many steps", []int{1}, long, api.ErrLarge},
		{"too many steps of many", seven[:6], long, api.ErrLarge},
		{"too many wrong steps", []int{1, 2}, make([]api.Turn, api.MaxScript+1), api.ErrLarge},
		{"too many steps of one name", []int{1, 1}, long, api.ErrLarge},
		{"one name", []int{5, 5}, nil, api.ErrForm},
		{"one name, and a wrong step", []int{5, 5}, []api.Turn{{Kind: 9}}, api.ErrForm},
		{"one name, and as many steps as may be", []int{0, 0}, long[1:], api.ErrForm},
		{"the first and the last have it", []int{-1, 2, 3, 4, 5, -1}, nil, api.ErrForm},
		{"it stands in the middle", []int{6, 2, 2, 4}, []api.Turn{begin(0)}, api.ErrForm},
		{"all have it", make([]int, 6), nil, api.ErrForm},
		{"it is the least number", []int{math.MinInt, 0, math.MinInt}, nil, api.ErrForm},
	}
	for _, c := range cases {
		t.Run(c.name, func(t *testing.T) {
			got, e := Play(c.names, c.script)
			if e != c.want || !same(got, api.Ringed{}) {
				t.Error(got, e)
			}
		})
	}
}

// TestI1EachTwoNames: of each number of processes, each two of the same name.
func TestI1EachTwoNames(t *testing.T) {
	for n, all := range someNames {
		for i := range n + 1 {
			for k := range i {
				names := slices.Clone(all)
				names[i] = names[k]
				if got, e := Play(names, []api.Turn{begin(0)}); e != api.ErrForm || !same(got, api.Ringed{}) {
					t.Error(names, got, e)
				}
			}
		}
	}
}

// TestNothingIsSharedOrChanged: P3.
func TestNothingIsSharedOrChanged(t *testing.T) {
	names := []int{2, 1, 2} // the last one lies behind the length, and so do the last two steps
	steps := []api.Turn{begin(0), take(1), {Kind: 9}, take(0), begin(1), take(1)}
	namesBefore, stepsBefore := slices.Clone(names), slices.Clone(steps)
	for range 2 {
		got, _ := wantAsWords(t, names[:2], steps[:4])
		codes := slices.Clone(got.Codes)
		spoil(got.Chosen)
		if !slices.Equal(codes, got.Codes) || !slices.Equal(names, namesBefore) || !slices.Equal(steps, stepsBefore) {
			t.Fatal("shared or changed", got, names, steps)
		}
		spoil(got.Codes)
		if !slices.Equal(names, namesBefore) || !slices.Equal(steps, stepsBefore) {
			t.Fatal("shared or changed", got, names, steps)
		}
	}
}

// spoil overwrites a list, also behind its length as far as its memory goes.
func spoil[T int | api.Errno](l []T) {
	l = l[:cap(l)]
	for i := range l {
		l[i] = -99
	}
}
