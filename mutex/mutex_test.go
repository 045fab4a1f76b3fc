package mutex

import (
	"cmp"
	"fmt"
	"math"
	"slices"
	"testing"

	"folkmoot/api"
)

func ask(who int) api.Move        { return api.Move{Kind: api.MAsk, Who: who} }
func take(who, from int) api.Move { return api.Move{Kind: api.MTake, Who: who, From: from} }
func leave(who int) api.Move      { return api.Move{Kind: api.MLeave, Who: who} }

// The chapter, word by word and slowly, to hold the program against: only what happened is written down, one thing behind the other, and all else is asked of that.

const (
	asked = iota
	gotKey
	gotYes
	saidYes
	entered
	left
)

// happening: what, of whom, with whom, and of which number the key was.
type happening struct{ what, who, other, number int }

type log struct {
	n   int
	all []happening
}

func (g *log) write(what, who, other, number int) {
	g.all = append(g.all, happening{what, who, other, number})
}

// number: a process's number is the greatest one of all keys that it made or got.
func (g *log) number(who int) int {
	out := 0
	for _, h := range g.all {
		if h.who == who {
			out = max(out, h.number)
		}
	}
	return out
}

// last: the place and the happening at which a process last asked, entered or left; -1: it never did, and is outside as if it had left.
func (g *log) last(who int, whats ...int) (int, happening) {
	for at, h := range slices.Backward(g.all) {
		if h.who == who && slices.Contains(whats, h.what) {
			return at, h
		}
	}
	return -1, happening{what: left, who: who}
}

func (g *log) stands(who int) int {
	_, h := g.last(who, asked, entered, left)
	return h.what
}

// key: the one with which a process last asked.
func (g *log) key(who int) [2]int {
	_, h := g.last(who, asked)
	return [2]int{h.number, who}
}

func compareKeys(a, b [2]int) int {
	return cmp.Or(cmp.Compare(a[0], b[0]), cmp.Compare(a[1], b[1]))
}

// onWay: what was sent on a way and has not come, in order: what was asked, and what was said yes to.
func (g *log) onWay(from, to int) []happening {
	var out []happening
	came := 0
	for _, h := range g.all {
		if h.who == from && (h.what == asked || h.what == saidYes && h.other == to) {
			out = append(out, h)
		}
		if h.who == to && h.other == from && (h.what == gotKey || h.what == gotYes) {
			came++
		}
	}
	return out[came:]
}

// waits: has one got another one's key, and not said yes since?
func (g *log) waits(who, other int) bool {
	is := false
	for _, h := range g.all {
		if h.who == who && h.other == other && (h.what == gotKey || h.what == saidYes) {
			is = h.what == gotKey
		}
	}
	return is
}

// allSaidYes: has a yes come from each other one since a process asked?
func (g *log) allSaidYes(who int) bool {
	at, _ := g.last(who, asked)
	for other := range g.n {
		if other != who && !slices.ContainsFunc(g.all[at:], func(h happening) bool {
			return h.what == gotYes && h.who == who && h.other == other
		}) {
			return false
		}
	}
	return true
}

func (g *log) enterIfAllSaidYes(who int) {
	if g.stands(who) == asked && g.allSaidYes(who) {
		g.write(entered, who, -1, 0)
	}
}

// step: what a step is told; if nothing is wrong, it happens.
func (g *log) step(s api.Move) api.Errno {
	isNone := func(p int) bool { return p < 0 || p >= g.n }
	switch {
	case !slices.Contains([]int{api.MAsk, api.MTake, api.MLeave}, s.Kind):
		return api.ErrKind
	case isNone(s.Who):
		return api.ErrArg
	case s.Kind == api.MTake && (isNone(s.From) || s.Who == s.From):
		return api.ErrArg
	case s.Kind == api.MTake && len(g.onWay(s.From, s.Who)) == 0:
		return api.ErrNone
	case s.Kind == api.MAsk && g.stands(s.Who) != left:
		return api.ErrHold
	case s.Kind == api.MLeave && g.stands(s.Who) != entered:
		return api.ErrHold
	}
	switch s.Kind {
	case api.MAsk:
		g.write(asked, s.Who, -1, g.number(s.Who)+1)
		g.enterIfAllSaidYes(s.Who)
	case api.MTake:
		g.take(s.Who, g.onWay(s.From, s.Who)[0])
	case api.MLeave:
		g.write(left, s.Who, -1, 0)
		for other := range g.n {
			if g.waits(s.Who, other) {
				g.write(saidYes, s.Who, other, 0)
			}
		}
	}
	return api.OK
}

func (g *log) take(who int, h happening) {
	if h.what == saidYes {
		g.write(gotYes, who, h.who, 0)
		g.enterIfAllSaidYes(who)
		return
	}
	g.write(gotKey, who, h.who, h.number)
	asksAhead := g.stands(who) == asked && compareKeys(g.key(who), [2]int{h.number, h.who}) < 0
	if g.stands(who) != entered && !asksAhead {
		g.write(saidYes, who, h.who, 0)
	}
}

func slowPlay(n int, script []api.Move) (api.Entered, *log) {
	g := &log{n: n}
	var e api.Entered
	for _, s := range script {
		e.Codes = append(e.Codes, g.step(s))
	}
	for _, h := range g.all {
		if h.what == entered {
			e.In = append(e.In, h.who)
		}
	}
	for who := range n {
		if g.stands(who) == entered {
			e.Inside = append(e.Inside, who)
		}
		for other := range n {
			if other != who {
				e.Away += len(g.onWay(who, other))
			}
		}
	}
	return e, g
}

func same(a, b api.Entered) bool {
	return slices.Equal(a.Codes, b.Codes) && slices.Equal(a.In, b.In) && slices.Equal(a.Inside, b.Inside) && a.Away == b.Away
}

// wantOneAtATime: what the keys are for: nobody comes inside while another one is, and all come in the order of their keys.
func wantOneAtATime(t *testing.T, g *log) {
	t.Helper()
	someone := false
	var lastKey [2]int
	keys := map[int][2]int{}
	for _, h := range g.all {
		switch h.what {
		case asked:
			keys[h.who] = [2]int{h.number, h.who}
		case entered:
			if someone || compareKeys(lastKey, keys[h.who]) >= 0 {
				t.Errorf("%d comes inside too early: %v", h.who, g.all)
			}
			someone, lastKey = true, keys[h.who]
		case left:
			someone = false
		}
	}
}

// wantAsWords holds Play against the slow one; it answers what they say.
func wantAsWords(t *testing.T, n int, script []api.Move) (api.Entered, *log) {
	t.Helper()
	want, g := slowPlay(n, script)
	got, e := Play(n, script)
	if e != api.OK || !same(got, want) {
		t.Fatalf("Play(%d, %v) = %v, %d; want %v", n, script, got, e, want)
	}
	wantOneAtATime(t, g)
	return got, g
}

// allSteps: each one of n processes that is no wrong one from the outset.
func allSteps(n int) []api.Move {
	var out []api.Move
	for who := range n {
		out = append(out, ask(who), leave(who))
		for other := range n {
			if other != who {
				out = append(out, take(who, other))
			}
		}
	}
	return out
}

// grow goes through all scripts of those steps with at most so many; behind a wrong step it goes on only if it is told to.
func grow(t *testing.T, n int, steps, script []api.Move, more int, behindWrong bool, see func(api.Entered)) {
	got, _ := wantAsWords(t, n, script)
	see(got)
	wrong := len(script) > 0 && got.Codes[len(script)-1] != api.OK
	if more == 0 || wrong && !behindWrong {
		return
	}
	for _, step := range steps {
		grow(t, n, steps, append(slices.Clip(script), step), more-1, behindWrong, see)
	}
}

// TestAllShortScripts: each script of few processes with few steps, wrong ones too.
func TestAllShortScripts(t *testing.T) {
	none := func(api.Entered) {}
	grow(t, 1, allSteps(1), nil, 8, true, none)
	grow(t, 2, allSteps(2), nil, 6, true, none)
	grow(t, 3, allSteps(3), nil, 3, true, none)
}

// TestAllRightScripts: longer ones, in which at most the last step is wrong.
func TestAllRightScripts(t *testing.T) {
	entries := map[string]int{}
	see := func(e api.Entered) { entries[fmt.Sprint(e.In)]++ }
	grow(t, 2, allSteps(2), nil, 14, false, see)
	grow(t, 3, allSteps(3), nil, 7, false, see)
	for _, in := range []string{"[0]", "[1]", "[2]", "[0 1]", "[1 0]", "[0 0]", "[1 1]"} {
		if entries[in] < 4 {
			t.Error("too few came inside so", in, entries)
		}
	}
}

// mixer: numbers in no order, the same ones each time.
type mixer uint64

func (m *mixer) below(n int) int {
	*m = *m*6364136223846793005 + 1442695040888963407
	return int(*m>>33) % n
}

// mixedStep: seldom a wrong one; most often something is taken.
func (m *mixer) mixedStep(n int) api.Move {
	switch m.below(12) {
	case 0:
		return api.Move{Kind: m.below(6) - 1, Who: m.below(n+2) - 1, From: m.below(n+2) - 1}
	case 1:
		return ask(m.below(n))
	case 2:
		return leave(m.below(n))
	default:
		return take(m.below(n), m.below(n))
	}
}

// TestMixedScripts: longer ones, up to the limits, with wrong steps among them.
func TestMixedScripts(t *testing.T) {
	m := mixer(1)
	codes := map[api.Errno]int{}
	cameIn, inside, waiting := 0, 0, 0
	for n := 1; n <= api.MaxProcs; n++ {
		for round := range 200 {
			script := make([]api.Move, []int{20, 60, api.MaxScript}[round%3])
			for i := range script {
				script[i] = m.mixedStep(n)
			}
			got, g := wantAsWords(t, n, script)
			for _, e := range got.Codes {
				codes[e]++
			}
			cameIn += len(got.In)
			inside += len(got.Inside)
			for k := range n * n {
				if g.waits(k/n, k%n) {
					waiting++
				}
			}
		}
	}
	if cameIn < 1000 || inside < 100 || waiting < 100 {
		t.Error("too few that came inside, or are, or wait", cameIn, inside, waiting)
	}
	for _, e := range []api.Errno{api.OK, api.ErrKind, api.ErrArg, api.ErrNone, api.ErrHold} {
		if codes[e] < 100 {
			t.Error("too few steps were told", e, codes)
		}
	}
}

// rightStep: any one that is not wrong now; asking is left out behind so many.
func (m *mixer) rightStep(g *log, asks int) (api.Move, bool) {
	var right []api.Move
	for _, s := range allSteps(g.n) {
		copied := &log{g.n, slices.Clone(g.all)}
		if (s.Kind != api.MAsk || asks > 0) && copied.step(s) == api.OK {
			right = append(right, s)
		}
	}
	if len(right) == 0 {
		return api.Move{}, false
	}
	return right[m.below(len(right))], true
}

// TestAllWhoAskComeInside: when all has come, and all have left, each asking has led inside, and nothing is on its way.
func TestAllWhoAskComeInside(t *testing.T) {
	m := mixer(2)
	for n := 1; n <= api.MaxProcs; n++ {
		most := api.MaxScript / (2 * n) // an asking: n - 1 keys, n - 1 yeses, asking and leaving
		for range 20 {
			g := &log{n: n}
			var script []api.Move
			asks := most
			for s, found := m.rightStep(g, asks); found; s, found = m.rightStep(g, asks) {
				if s.Kind == api.MAsk {
					asks--
				}
				g.step(s)
				script = append(script, s)
			}
			got, _ := wantAsWords(t, n, script)
			if asks != 0 || len(script) != most*2*n || len(got.In) != most || len(got.Inside) != 0 || got.Away != 0 {
				t.Errorf("Play(%d, %v) = %v", n, script, got)
			}
		}
	}
}

func ok(k int) []api.Errno { return make([]api.Errno, k) }

// both: 0 and 1 ask with the same number, ahead of what the other one has sent.
var both = []api.Move{ask(0), ask(1)}

func TestG2G3Entries(t *testing.T) {
	// 0 has come inside, and 1's key waits.
	waits := []api.Move{ask(0), take(1, 0), take(0, 1), ask(1), take(0, 1)}
	// Behind it 0 asks at once, with the number 3, as it has got 1's key of 2; what 0 says yes with comes first.
	again := append(slices.Clip(waits), leave(0), ask(0), take(1, 0))
	// 2 asks twice; 0 gets both keys, so that it asks with 3, and 1 only the first one, so that it asks with 2; each gets the other one's key.
	apart := []api.Move{ask(2), take(0, 2), take(1, 2), take(2, 0), take(2, 1), leave(2), ask(2), take(0, 2), ask(0), ask(1), take(0, 1), take(1, 0)}
	// 1 asks with 1, 0 with 2 and 2 with 3; 1, which has said yes to nobody, gets 2's key, and then 0's.
	raised := []api.Move{ask(1), take(0, 1), ask(0), take(2, 0), ask(2), take(1, 2), take(1, 0), take(1, 0)}
	cases := []struct {
		name   string
		n      int
		script []api.Move
		in     []int
		inside []int
		away   int
	}{
		{"no steps", 3, nil, nil, nil, 0},
		{"example", 2, []api.Move{ask(0), take(1, 0), take(0, 1)}, []int{0}, []int{0}, 0},
		{"the key is on its way", 2, []api.Move{ask(0)}, nil, nil, 1},
		{"the yes is on its way", 2, []api.Move{ask(0), take(1, 0)}, nil, nil, 1},
		{"one alone, at once", 1, []api.Move{ask(0)}, []int{0}, []int{0}, 0},
		{"one alone, twice", 1, []api.Move{ask(0), leave(0), ask(0), leave(0)}, []int{0, 0}, nil, 0},
		{"a key to each other one", 6, []api.Move{ask(4)}, nil, nil, 5},
		{"a yes from some is too few", 3, []api.Move{ask(1), take(0, 1), take(2, 1), take(1, 2)}, nil, nil, 1},
		{"a yes from all", 3, []api.Move{ask(1), take(0, 1), take(2, 1), take(1, 2), take(1, 0)}, []int{1}, []int{1}, 0},
		{"of the same number the lesser process does not wait", 2, append(slices.Clip(both), take(1, 0), take(0, 1)), nil, nil, 1},
		{"it comes inside", 2, append(slices.Clip(both), take(1, 0), take(0, 1), take(0, 1)), []int{0}, []int{0}, 0},
		{"the greater one behind it", 2, append(slices.Clip(both), take(1, 0), take(0, 1), take(0, 1), leave(0), take(1, 0)), []int{0, 1}, []int{1}, 0},
		{"who is inside says no yes", 2, waits, []int{0}, []int{0}, 0},
		{"who leaves says it", 2, append(slices.Clip(waits), leave(0)), []int{0}, nil, 1},
		{"and the other one comes inside", 2, append(slices.Clip(waits), leave(0), take(1, 0)), []int{0, 1}, []int{1}, 0},
		{"the yes comes ahead of the key", 2, again, []int{0, 1}, []int{1}, 1},
		{"the key waits for who is inside", 2, append(slices.Clip(again), take(1, 0)), []int{0, 1}, []int{1}, 0},
		{"a key that waits is said yes to once", 2, append(slices.Clip(waits), leave(0), take(1, 0), leave(1), ask(0), take(1, 0), take(0, 1), leave(0)), []int{0, 1, 0}, nil, 0},
		{"all who wait get a yes", 4, []api.Move{ask(3), take(0, 3), take(1, 3), take(2, 3), take(3, 0), take(3, 1), take(3, 2),
			ask(1), ask(0), take(3, 0), take(3, 1), leave(3)}, []int{3}, nil, 6},
		{"a lesser number is ahead of a lesser process", 3, apart, []int{2}, nil, 5},
		{"it comes inside first", 3, append(slices.Clip(apart), take(1, 0), take(2, 1), take(1, 2), take(1, 2)), []int{2, 1}, []int{1}, 2},
		{"while one asks, its key stays as it was", 3, raised, nil, nil, 3},
		{"all wait for it", 3, append(slices.Clip(raised), take(2, 1), take(1, 2)), []int{1}, []int{1}, 2},
	}
	for _, c := range cases {
		t.Run(c.name, func(t *testing.T) {
			got, _ := wantAsWords(t, c.n, c.script)
			if !same(got, api.Entered{Codes: got.Codes, In: c.in, Inside: c.inside, Away: c.away}) {
				t.Errorf("Play(%d, %v) = %v; want %v", c.n, c.script, got, c)
			}
			if !slices.Equal(got.Codes, ok(len(c.script))) {
				t.Error("a step is wrong", got.Codes)
			}
		})
	}
}

// TestG2StepErrors: each wrong step, and that it changes nothing.
func TestG2StepErrors(t *testing.T) {
	// 0 is inside, 1 asks and waits for it, 2 is outside; 1's key is on its way to 2; nothing is from 0 to 1, and from 2 to any.
	ahead := []api.Move{ask(0), take(1, 0), take(2, 0), take(0, 1), take(0, 2), ask(1), take(0, 1)}
	behind := []api.Move{take(2, 1), take(1, 2), leave(0), take(1, 0), ask(2), leave(1), take(1, 2), take(0, 2), take(2, 0), take(2, 1), leave(2), ask(0)}
	cases := []struct {
		step api.Move
		want api.Errno
	}{
		{api.Move{Kind: 0, Who: 2, From: 1}, api.ErrKind},
		{api.Move{Kind: 4, Who: 2, From: 1}, api.ErrKind},
		{api.Move{Kind: -1, Who: 9, From: 9}, api.ErrKind},
		{api.Move{Kind: math.MaxInt, Who: -1}, api.ErrKind},
		{api.Move{Kind: math.MinInt}, api.ErrKind},
		{ask(-1), api.ErrArg},
		{ask(3), api.ErrArg},
		{ask(math.MaxInt), api.ErrArg},
		{ask(math.MinInt), api.ErrArg},
		{leave(-1), api.ErrArg},
		{leave(3), api.ErrArg},
		{leave(math.MaxInt), api.ErrArg},
		{leave(math.MinInt), api.ErrArg},
		{take(-1, 1), api.ErrArg},
		{take(3, 1), api.ErrArg},
		{take(2, -1), api.ErrArg},
		{take(2, 3), api.ErrArg},
		{take(0, 0), api.ErrArg},
		{take(2, 2), api.ErrArg},
		{take(7, 7), api.ErrArg},
		{take(math.MaxInt, math.MinInt), api.ErrArg},
		{take(math.MinInt, 1), api.ErrArg},
		{take(2, math.MaxInt), api.ErrArg},
		{take(0, 1), api.ErrNone},
		{take(1, 0), api.ErrNone}, // its yes waits
		{take(1, 2), api.ErrNone}, // the way back is another one
		{take(0, 2), api.ErrNone},
		{take(2, 0), api.ErrNone},
		{ask(0), api.ErrHold}, // inside
		{ask(1), api.ErrHold}, // asks
		{leave(1), api.ErrHold},
		{leave(2), api.ErrHold}, // outside
	}
	for _, c := range cases {
		t.Run(fmt.Sprint(c.step), func(t *testing.T) {
			wantCode(t, 3, ahead, c.step, c.want, behind)
		})
	}
	wantCode(t, 1, nil, leave(0), api.ErrHold, []api.Move{ask(0), leave(0)})
	wantCode(t, 1, []api.Move{ask(0)}, ask(0), api.ErrHold, []api.Move{leave(0), ask(0)})
	wantCode(t, 1, []api.Move{ask(0), leave(0)}, leave(0), api.ErrHold, []api.Move{ask(0), leave(0)})
	wantCode(t, 1, []api.Move{ask(0)}, take(0, 0), api.ErrArg, []api.Move{leave(0)})
	wantCode(t, 2, both, leave(0), api.ErrHold, []api.Move{take(1, 0), take(0, 1), take(0, 1), leave(0), take(1, 0)})
}

// wantCode: what a step is told; and that it leaves all as it was, for what comes behind it too.
func wantCode(t *testing.T, n int, ahead []api.Move, step api.Move, code api.Errno, behind []api.Move) {
	t.Helper()
	for k := range len(behind) + 1 {
		without, e := Play(n, slices.Concat(ahead, behind[:k]))
		with, f := Play(n, slices.Concat(ahead, []api.Move{step}, behind[:k]))
		if !slices.Equal(without.Codes, ok(len(ahead)+k)) {
			t.Fatal("a step beside it is wrong", ahead, behind, without)
		}
		without.Codes = slices.Insert(without.Codes, len(ahead), code)
		if e != api.OK || f != api.OK || !same(with, without) {
			t.Errorf("%v, %v, behind it %v: %v; want %v", ahead, step, behind[:k], with, without)
		}
	}
}

// TestG2FieldsNotNeeded: P4: of MAsk and MLeave From is not looked at.
func TestG2FieldsNotNeeded(t *testing.T) {
	script := []api.Move{ask(1), take(0, 1), take(1, 0), leave(1), ask(0), leave(0)}
	plain, _ := wantAsWords(t, 2, script)
	for _, from := range []int{-1, 0, 1, 2, math.MaxInt, math.MinInt} {
		changed := slices.Clone(script)
		for _, k := range []int{0, 3, 4, 5} {
			changed[k].From = from
		}
		if got, e := Play(2, changed); e != api.OK || !same(got, plain) {
			t.Error(changed, got, e)
		}
	}
}

// TestG1Limits: what just lies within them.
func TestG1Limits(t *testing.T) {
	alone := slices.Repeat([]api.Move{ask(0), leave(0)}, api.MaxScript/2)
	got, _ := wantAsWords(t, 1, alone)
	if len(got.Codes) != api.MaxScript || len(got.In) != api.MaxScript/2 || len(got.Inside) != 0 {
		t.Error(got)
	}
	last := api.MaxProcs - 1
	var script []api.Move
	for len(script) < api.MaxScript {
		script = append(script, ask(last))
		for other := range last {
			script = append(script, take(other, last), take(last, other))
		}
		script = append(script, leave(last))
	}
	got, _ = wantAsWords(t, api.MaxProcs, script[:api.MaxScript])
	if !slices.Equal(got.Codes, ok(api.MaxScript)) || len(got.In) != api.MaxScript/(2*api.MaxProcs) || got.Away != 0 {
		t.Error(got)
	}
}

func TestG1Errors(t *testing.T) {
	long := slices.Repeat([]api.Move{ask(0)}, api.MaxScript+1)
	cases := []struct {
		n      int
		script []api.Move
	}{
		{0, nil},
		{0, []api.Move{ask(0)}},
		{-1, []api.Move{ask(-1)}},
		{math.MinInt, nil},
		{api.MaxProcs + 1, nil},
		{api.MaxProcs + 1, []api.Move{{Kind: 9}}},
		{math.MaxInt, []api.Move{ask(0)}},
		{1, long},
		{api.MaxProcs, long},
		{2, slices.Repeat([]api.Move{{Kind: 9}}, api.MaxScript+1)},
		{0, long},
	}
	for _, c := range cases {
		t.Run(fmt.Sprintf("n=%d,steps=%d", c.n, len(c.script)), func(t *testing.T) {
			got, e := Play(c.n, c.script)
			if e != api.ErrLarge || len(got.Codes)+len(got.In)+len(got.Inside)+got.Away != 0 {
				t.Error(got, e)
			}
		})
	}
}

// TestNothingIsSharedOrChanged: P3.
func TestNothingIsSharedOrChanged(t *testing.T) {
	steps := []api.Move{ask(0), take(1, 0), take(0, 1), {Kind: 9}, leave(0), ask(1)} // the last two lie behind the length
	before := slices.Clone(steps)
	script := steps[:len(steps)-2]
	for i := range 2 {
		got, _ := wantAsWords(t, 2, script)
		lists := [2][]int{got.In, got.Inside}
		codes := slices.Clone(got.Codes)
		spoil(lists[i])
		if !slices.Equal(lists[1-i], []int{0}) {
			t.Fatal("shared", i, got)
		}
		if !slices.Equal(codes, got.Codes) || !slices.Equal(steps, before) {
			t.Fatal("changed", got, steps)
		}
	}
}

// spoil overwrites a list, also behind its length as far as its memory goes.
func spoil(l []int) {
	l = l[:cap(l)]
	for i := range l {
		l[i] = -99
	}
}
