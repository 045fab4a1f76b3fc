package snap

import (
	"fmt"
	"math"
	"slices"
	"testing"

	"folkmoot/api"
)

func send(who, other, n int) api.Pass {
	return api.Pass{Kind: api.PSend, Who: who, Other: other, N: n}
}
func take(who, other int) api.Pass { return api.Pass{Kind: api.PTake, Who: who, Other: other} }
func begin(who int) api.Pass       { return api.Pass{Kind: api.PBegin, Who: who} }

// The chapter, word by word and slowly, to hold the program against: only what happened is written down, one thing behind the other, and all else is asked of that.

const (
	sent = iota
	marked
	came
	markCame
	noted
)

// happening: what, between whom (of noted: of from), and how much.
type happening struct{ what, from, to, n int }

type log struct {
	money []int // at first
	all   []happening
}

// where: the places of what happened so, in order.
func (g *log) where(is func(happening) bool) []int {
	var out []int
	for i, h := range g.all {
		if is(h) {
			out = append(out, i)
		}
	}
	return out
}

// has: what a process had when the first k things had happened.
func (g *log) has(who, k int) int {
	out := g.money[who]
	for _, h := range g.all[:k] {
		if h.what == sent && h.from == who {
			out -= h.n
		}
		if h.what == came && h.to == who {
			out += h.n
		}
	}
	return out
}

// notedAt: the place at which a process noted; -1: it has not.
func (g *log) notedAt(who int) int {
	at := g.where(func(h happening) bool { return h.what == noted && h.from == who })
	if len(at) == 0 {
		return -1
	}
	return at[0]
}

// put and taken: the places at which something was put on a way, and at which something came on it.
func (g *log) put(from, to int) []int {
	return g.where(func(h happening) bool { return h.from == from && h.to == to && (h.what == sent || h.what == marked) })
}
func (g *log) taken(from, to int) []int {
	return g.where(func(h happening) bool { return h.from == from && h.to == to && (h.what == came || h.what == markCame) })
}

func (g *log) note(who int) {
	g.all = append(g.all, happening{what: noted, from: who})
	for other := range g.money {
		if other != who {
			g.all = append(g.all, happening{what: marked, from: who, to: other})
		}
	}
}

// step: what a step is told; if nothing is wrong, it happens.
func (g *log) step(s api.Pass) api.Errno {
	n := len(g.money)
	outside := func(p int) bool { return p < 0 || p >= n }
	if s.Kind != api.PSend && s.Kind != api.PTake && s.Kind != api.PBegin {
		return api.ErrKind
	}
	if outside(s.Who) {
		return api.ErrArg
	}
	if s.Kind == api.PBegin {
		if g.notedAt(s.Who) >= 0 {
			return api.ErrHold
		}
		g.note(s.Who)
		return api.OK
	}
	if outside(s.Other) || s.Who == s.Other {
		return api.ErrArg
	}
	if s.Kind == api.PSend {
		if s.N < 1 || s.N > g.has(s.Who, len(g.all)) {
			return api.ErrArg
		}
		g.all = append(g.all, happening{sent, s.Who, s.Other, s.N})
		return api.OK
	}
	put, taken := g.put(s.Other, s.Who), g.taken(s.Other, s.Who)
	if len(put) == len(taken) {
		return api.ErrNone
	}
	first := g.all[put[len(taken)]]
	if first.what == sent {
		g.all = append(g.all, happening{came, s.Other, s.Who, first.n})
		return api.OK
	}
	if g.notedAt(s.Who) < 0 {
		g.note(s.Who)
	}
	g.all = append(g.all, happening{markCame, s.Other, s.Who, 0})
	return api.OK
}

// between: what came on a way since the one that takes noted, up to the mark, and whether the mark has come.
func (g *log) between(from, to int) ([]int, bool) {
	var out []int
	for _, at := range g.taken(from, to) {
		if g.all[at].what == markCame {
			return out, true
		}
		if since := g.notedAt(to); since >= 0 && at > since {
			out = append(out, g.all[at].n)
		}
	}
	return out, false
}

func slowPlay(money []int, script []api.Pass) (api.Snapped, *log) {
	g := &log{money: money}
	s := api.Snapped{Done: true}
	for _, step := range script {
		s.Codes = append(s.Codes, g.step(step))
	}
	for from := range money {
		s.Money = append(s.Money, g.has(from, len(g.all)))
		if at := g.notedAt(from); at >= 0 {
			s.Own = append(s.Own, g.has(from, at))
		} else {
			s.Own = append(s.Own, -1)
			s.Done = false
		}
		for to := range money {
			list, ended := g.between(from, to)
			s.Between = append(s.Between, list)
			s.Done = s.Done && (ended || from == to)
		}
	}
	return s, g
}

func same(a, b api.Snapped) bool {
	return slices.Equal(a.Codes, b.Codes) && slices.Equal(a.Money, b.Money) && slices.Equal(a.Own, b.Own) &&
		slices.EqualFunc(a.Between, b.Between, slices.Equal) && a.Done == b.Done
}

func sum(l []int) int {
	out := 0
	for _, n := range l {
		out += n
	}
	return out
}

// wantWholePicture: what a picture is for: all the money is in it, and on each way there is what was sent before the one noted, and came after the other one had.
func wantWholePicture(t *testing.T, money []int, s api.Snapped, g *log) {
	t.Helper()
	all := sum(s.Own)
	for _, list := range s.Between {
		all += sum(list)
	}
	if all != sum(money) {
		t.Errorf("money was lost or made: %v, %v", money, s)
	}
	n := len(money)
	for from := range n {
		for to := range n {
			var crossing []int
			put := g.put(from, to)
			for k, at := range g.taken(from, to) {
				if put[k] < g.notedAt(from) && at > g.notedAt(to) {
					crossing = append(crossing, g.all[at].n)
				}
			}
			if !slices.Equal(s.Between[from*n+to], crossing) {
				t.Errorf("%d to %d: %v; want %v", from, to, s.Between, crossing)
			}
		}
	}
}

// wantAsWords holds Play against the slow one; it answers what they say.
func wantAsWords(t *testing.T, money []int, script []api.Pass) api.Snapped {
	t.Helper()
	want, g := slowPlay(money, script)
	s, e := Play(money, script)
	if e != api.OK || !same(s, want) {
		t.Fatalf("Play(%v, %v) = %v, %d; want %v", money, script, s, e, want)
	}
	if s.Done {
		wantWholePicture(t, money, s, g)
	}
	return s
}

// allSteps: each one of n processes that is no wrong one from the outset, sending 1 or 2.
func allSteps(n int) []api.Pass {
	var out []api.Pass
	for who := range n {
		out = append(out, begin(who))
		for other := range n {
			if other != who {
				out = append(out, send(who, other, 1), send(who, other, 2), take(who, other))
			}
		}
	}
	return out
}

// TestAllShortScripts: each script of 2 processes with at most 6 steps, and of 3 with at most 3.
func TestAllShortScripts(t *testing.T) {
	done := 0
	var grow func(money []int, steps, script []api.Pass, left int)
	grow = func(money []int, steps, script []api.Pass, left int) {
		if wantAsWords(t, money, script).Done {
			done++
		}
		if left == 0 {
			return
		}
		for _, step := range steps {
			grow(money, steps, append(slices.Clip(script), step), left-1)
		}
	}
	grow([]int{7}, allSteps(1), nil, 3)
	grow([]int{2, 1}, allSteps(2), nil, 6)
	grow([]int{2, 0, 1}, allSteps(3), nil, 3)
	if done < 100 {
		t.Error("too few that are done", done)
	}
}

// TestMixedScripts: longer ones, up to the limits, with wrong steps among them.
func TestMixedScripts(t *testing.T) {
	state := uint64(1)
	below := func(n int) int {
		state = state*6364136223846793005 + 1442695040888963407
		return int(state>>33) % n
	}
	done, crossing := 0, 0
	codes := map[api.Errno]int{}
	for n := 1; n <= api.MaxProcs; n++ {
		for round := range 300 {
			money := make([]int, n)
			for p := range money {
				money[p] = below(api.MaxMoney + 1)
			}
			script := make([]api.Pass, []int{10, 30, api.MaxScript}[round%3])
			for i := range script {
				script[i] = api.Pass{Kind: api.PSend + below(2), Who: below(n), Other: below(n), N: 1 + below(300)}
				switch below(12) {
				case 0:
					script[i].Kind = api.PBegin
				case 1:
					script[i] = api.Pass{Kind: below(5), Who: below(n+2) - 1, Other: below(n+2) - 1, N: below(2000) - 500}
				}
			}
			s := wantAsWords(t, money, script)
			for _, e := range s.Codes {
				codes[e]++
			}
			if s.Done && n > 1 {
				done++
				crossing += len(slices.Concat(s.Between...))
			}
		}
	}
	if done < 100 || crossing < 100 {
		t.Error("too few that are done, or too little on the ways", done, crossing)
	}
	for _, e := range []api.Errno{api.OK, api.ErrKind, api.ErrArg, api.ErrNone, api.ErrHold} {
		if codes[e] < 100 {
			t.Error("too few steps were told", e, codes)
		}
	}
}

// want holds a call against what is asked, where nothing is wrong with money and script as such.
func want(t *testing.T, money []int, script []api.Pass, want api.Snapped) {
	t.Helper()
	s, e := Play(money, script)
	if e != api.OK || !same(s, want) {
		t.Errorf("Play(%v, %v) = %v, %d; want %v", money, script, s, e, want)
	}
}

func ok(k int) []api.Errno { return make([]api.Errno, k) }

func TestD2D3Pictures(t *testing.T) {
	example := []api.Pass{send(0, 1, 3), begin(1), take(1, 0), take(0, 1), take(1, 0)}
	cases := []struct {
		name   string
		money  []int
		script []api.Pass
		want   api.Snapped
	}{
		{"example", []int{10, 0}, example,
			api.Snapped{Codes: ok(5), Money: []int{7, 3}, Own: []int{7, 0}, Between: [][]int{{}, {3}, {}, {}}, Done: true}},
		{"the last mark is on its way", []int{10, 0}, example[:4],
			api.Snapped{Codes: ok(4), Money: []int{7, 3}, Own: []int{7, 0}, Between: [][]int{{}, {3}, {}, {}}}},
		{"one has not noted", []int{10, 0}, example[:3],
			api.Snapped{Codes: ok(3), Money: []int{7, 3}, Own: []int{-1, 0}, Between: [][]int{{}, {3}, {}, {}}}},
		{"what is on the way is not noted before it comes", []int{10, 0}, example[:2],
			api.Snapped{Codes: ok(2), Money: []int{7, 0}, Own: []int{-1, 0}, Between: make([][]int, 4)}},
		{"no steps", []int{0, api.MaxMoney}, nil,
			api.Snapped{Money: []int{0, api.MaxMoney}, Own: []int{-1, -1}, Between: make([][]int, 4)}},
		{"one alone", []int{4}, []api.Pass{begin(0)},
			api.Snapped{Codes: ok(1), Money: []int{4}, Own: []int{4}, Between: make([][]int, 1), Done: true}},
		{"one alone, that has not begun", []int{4}, nil,
			api.Snapped{Money: []int{4}, Own: []int{-1}, Between: make([][]int, 1)}},
		{"what came before noting is one's own", []int{5, 0}, []api.Pass{send(0, 1, 2), take(1, 0), begin(1)},
			api.Snapped{Codes: ok(3), Money: []int{3, 2}, Own: []int{-1, 2}, Between: make([][]int, 4)}},
		{"first sent comes first", []int{9, 0}, []api.Pass{send(0, 1, 4), send(0, 1, 1), send(0, 1, 3), begin(1), take(1, 0), take(1, 0)},
			api.Snapped{Codes: ok(6), Money: []int{1, 5}, Own: []int{-1, 0}, Between: [][]int{{}, {4, 1}, {}, {}}}},
		{"what comes behind the mark is not noted", []int{9, 0}, []api.Pass{begin(0), send(0, 1, 4), take(1, 0), take(1, 0), take(0, 1)},
			api.Snapped{Codes: ok(5), Money: []int{5, 4}, Own: []int{9, 0}, Between: make([][]int, 4), Done: true}},
		{"both begin", []int{3, 3}, []api.Pass{send(0, 1, 1), send(1, 0, 2), begin(0), begin(1), take(0, 1), take(1, 0), take(0, 1), take(1, 0)},
			api.Snapped{Codes: ok(8), Money: []int{4, 2}, Own: []int{2, 1}, Between: [][]int{{}, {1}, {2}, {}}, Done: true}},
		{"ways of three", []int{6, 6, 6}, []api.Pass{send(2, 1, 5), send(1, 2, 4), begin(0), take(1, 0), take(1, 2), take(2, 1), send(2, 1, 1), take(2, 1), take(1, 2)},
			// 2 has not noted when 4 comes, and notes at 1's mark; the 1 that it sent before then comes to 1 behind the 5, ahead of its mark.
			api.Snapped{Codes: ok(9), Money: []int{6, 8, 4}, Own: []int{6, 2, 4}, Between: [][]int{{}, {}, {}, {}, {}, {}, {}, {5, 1}, {}}}},
	}
	for _, c := range cases {
		t.Run(c.name, func(t *testing.T) {
			want(t, c.money, c.script, c.want)
			wantAsWords(t, c.money, c.script)
		})
	}
}

// TestD2StepErrors: each wrong step, and that it changes nothing.
func TestD2StepErrors(t *testing.T) {
	// Of 4 and 6, 3 and a mark are on the way from 0 to 1, and nothing is on the way back.
	ahead := []api.Pass{send(0, 1, 3), begin(0)}
	cases := []struct {
		step api.Pass
		want api.Errno
	}{
		{api.Pass{Kind: 0, Who: 0, Other: 1, N: 1}, api.ErrKind},
		{api.Pass{Kind: api.PBegin + 1, Who: 0, Other: 1, N: 1}, api.ErrKind},
		{api.Pass{Kind: -1, Who: 9, Other: 9, N: -9}, api.ErrKind},
		{api.Pass{Kind: math.MaxInt}, api.ErrKind},
		{api.Pass{Kind: math.MinInt}, api.ErrKind},
		{send(-1, 1, 1), api.ErrArg},
		{send(2, 1, 1), api.ErrArg},
		{send(0, -1, 1), api.ErrArg},
		{send(0, 2, 1), api.ErrArg},
		{send(0, 0, 1), api.ErrArg},
		{send(5, 5, 1), api.ErrArg},
		{send(math.MaxInt, math.MinInt, 1), api.ErrArg},
		{send(0, 1, 0), api.ErrArg},
		{send(0, 1, -1), api.ErrArg},
		{send(0, 1, math.MinInt), api.ErrArg},
		{send(0, 1, 2), api.ErrArg}, // 0 has 1 left
		{send(0, 1, math.MaxInt), api.ErrArg},
		{send(1, 0, 7), api.ErrArg},
		{take(-1, 0), api.ErrArg},
		{take(2, 0), api.ErrArg},
		{take(1, -1), api.ErrArg},
		{take(1, 2), api.ErrArg},
		{take(1, 1), api.ErrArg},
		{take(math.MinInt, math.MaxInt), api.ErrArg},
		{begin(-1), api.ErrArg},
		{begin(2), api.ErrArg},
		{begin(math.MaxInt), api.ErrArg},
		{begin(math.MinInt), api.ErrArg},
		{begin(0), api.ErrHold},
	}
	for _, c := range cases {
		t.Run(fmt.Sprint(c.step), func(t *testing.T) {
			wantCode(t, []int{4, 6}, ahead, c.step, c.want)
		})
	}
	wantCode(t, []int{4, 6}, nil, take(0, 1), api.ErrNone)
	wantCode(t, []int{4, 6}, []api.Pass{send(1, 0, 1), take(0, 1)}, take(0, 1), api.ErrNone)
	wantCode(t, []int{4, 6}, []api.Pass{send(1, 0, 1)}, take(1, 0), api.ErrNone)                  // the way back is another one
	wantCode(t, []int{4, 6, 0}, []api.Pass{send(0, 1, 1)}, take(2, 0), api.ErrNone)               // and so is that to a third one
	wantCode(t, []int{4, 6}, []api.Pass{begin(0), take(1, 0)}, begin(1), api.ErrHold)             // noted by a mark
	wantCode(t, []int{4, 6}, []api.Pass{begin(0), take(1, 0), take(0, 1)}, begin(0), api.ErrHold) // all is done
	wantCode(t, []int{4}, nil, send(0, 0, 1), api.ErrArg)
	wantCode(t, []int{4}, nil, take(0, 0), api.ErrArg)
	wantCode(t, []int{0, 6}, nil, send(0, 1, 1), api.ErrArg)
}

// wantCode: what a last step is told; and that a wrong one leaves all as it was, for what comes behind it too.
func wantCode(t *testing.T, money []int, ahead []api.Pass, step api.Pass, code api.Errno) {
	t.Helper()
	behind := []api.Pass{take(1, 0), begin(1), take(0, 1), send(1, 0, 1), take(1, 0), take(0, 1)}
	for k := range len(behind) + 1 {
		without, e := Play(money, slices.Concat(ahead, behind[:k]))
		with, f := Play(money, slices.Concat(ahead, []api.Pass{step}, behind[:k]))
		without.Codes = slices.Insert(without.Codes, len(ahead), code)
		if e != api.OK || f != api.OK || !same(with, without) {
			t.Errorf("%v, %v, behind it %v: %v; want %v", ahead, step, behind[:k], with, without)
		}
	}
}

// TestD2FieldsNotNeeded: P4: of PBegin neither Other nor N is looked at, and of PTake not N.
func TestD2FieldsNotNeeded(t *testing.T) {
	script := []api.Pass{send(0, 1, 4), begin(1), take(1, 0), take(0, 1), take(1, 0)}
	plain := wantAsWords(t, []int{4, 0}, script)
	if !plain.Done {
		t.Error("not done", plain)
	}
	for _, other := range []int{-1, 0, 1, 2, math.MaxInt, math.MinInt} {
		changed := slices.Clone(script)
		changed[1].Other, changed[1].N = other, other
		changed[2].N, changed[3].N, changed[4].N = other, other, other
		want(t, []int{4, 0}, changed, plain)
	}
}

// TestD1Limits: what just lies within them; all that one has may be sent.
func TestD1Limits(t *testing.T) {
	money := slices.Repeat([]int{api.MaxMoney}, api.MaxProcs)
	var script []api.Pass
	for who := 1; who < api.MaxProcs; who++ {
		script = append(script, send(who, 0, api.MaxMoney), take(0, who))
	}
	script = append(script, send(0, 1, api.MaxMoney*api.MaxProcs), begin(0))
	for len(script) < api.MaxScript {
		script = append(script, begin(0))
	}
	s := wantAsWords(t, money, script)
	if len(s.Codes) != api.MaxScript || len(s.Between) != api.MaxProcs*api.MaxProcs || !slices.Equal(s.Money, make([]int, api.MaxProcs)) || s.Own[0] != 0 {
		t.Error(s)
	}
}

func TestD1Errors(t *testing.T) {
	long := slices.Repeat([]api.Pass{begin(0)}, api.MaxScript+1)
	cases := []struct {
		money  []int
		script []api.Pass
		want   api.Errno
	}{
		{nil, nil, api.ErrLarge},
		{[]int{}, []api.Pass{begin(0)}, api.ErrLarge},
		{make([]int, api.MaxProcs+1), nil, api.ErrLarge},
		{make([]int, 1<<20), nil, api.ErrLarge},
		{[]int{1, 1}, long, api.ErrLarge},
		{[]int{-1}, nil, api.ErrArg},
		{[]int{api.MaxMoney + 1}, nil, api.ErrArg},
		{[]int{0, math.MinInt}, nil, api.ErrArg},
		{[]int{math.MaxInt, 0}, nil, api.ErrArg},
		{[]int{0, 0, 0, 0, 0, -1}, []api.Pass{begin(0)}, api.ErrArg},
		{[]int{-1}, []api.Pass{{Kind: 0}}, api.ErrArg},
		// What is named first is told.
		{slices.Repeat([]int{-1}, api.MaxProcs+1), nil, api.ErrLarge},
		{[]int{-1}, long, api.ErrLarge},
		{nil, long, api.ErrLarge},
	}
	for k, c := range cases {
		t.Run(fmt.Sprintf("%d,n=%d,steps=%d,%d", k, len(c.money), len(c.script), c.want), func(t *testing.T) {
			s, e := Play(c.money, c.script)
			if e != c.want || len(s.Codes)+len(s.Money)+len(s.Own)+len(s.Between) != 0 || s.Done {
				t.Error(s, e)
			}
		})
	}
}

// TestNothingIsSharedOrChanged: P3.
func TestNothingIsSharedOrChanged(t *testing.T) {
	numbers := []int{9, 8, 7, -5, 5000} // the last two lie behind the length
	steps := []api.Pass{send(0, 1, 1), send(0, 1, 2), send(2, 1, 3), send(2, 0, 4), begin(1), take(1, 0), take(1, 0), take(1, 2), take(0, 1), take(2, 1), take(0, 2), {Kind: 9}, send(0, 1, 1)}
	numbersBefore, stepsBefore := slices.Clone(numbers), slices.Clone(steps)
	money, script := numbers[:3], steps[:11]
	for i := range 2 + len(money)*len(money) {
		s := wantAsWords(t, money, script)
		lists := append([][]int{s.Money, s.Own}, s.Between...)
		var before [][]int
		for _, l := range lists {
			before = append(before, slices.Clone(l))
		}
		spoil(lists[i])
		for k := range lists {
			if k != i && !slices.Equal(lists[k], before[k]) {
				t.Fatal("shared", i, k, lists)
			}
		}
		if !slices.Equal(numbers, numbersBefore) || !slices.Equal(steps, stepsBefore) {
			t.Fatal("changed", numbers, steps)
		}
	}
}

// spoil overwrites a list, also behind its length as far as its memory goes.
func spoil(l []int) {
	l = l[:cap(l)]
	for i := range l {
		l[i] = -99
	}
}
