package total

import (
	"cmp"
	"fmt"
	"math"
	"slices"
	"testing"

	"folkmoot/api"
)

func send(who int) api.Cast      { return api.Cast{Kind: api.CSend, Who: who} }
func take(who, msg int) api.Cast { return api.Cast{Kind: api.CTake, Who: who, Msg: msg} }
func tell(who, msg int) api.Cast { return api.Cast{Kind: api.CTell, Who: who, Msg: msg} }

// The chapter, word by word and slowly, to hold the program against: only what happened is written down, one thing behind the other, and all else is asked of that.

const (
	wasSent = iota
	wasGot
	wasTold
	wasHeard
)

// happening: what, at whom, of which message, and with which key (its number, its process).
type happening struct {
	what, who, msg int
	key            [2]int
}

type log struct {
	n   int
	all []happening
}

func compareKeys(a, b [2]int) int {
	return cmp.Or(cmp.Compare(a[0], b[0]), cmp.Compare(a[1], b[1]))
}

func (g *log) write(what, who, msg int, key [2]int) {
	g.all = append(g.all, happening{what, who, msg, key})
}

// messages: all that happened so at a process (-1: at any), in order.
func (g *log) messages(what, who int) []int {
	var out []int
	for _, h := range g.all {
		if h.what == what && (who < 0 || h.who == who) {
			out = append(out, h.msg)
		}
	}
	return out
}

func (g *log) has(what, who, msg int) bool {
	return slices.Contains(g.messages(what, who), msg)
}

// number: a process's number is the greatest of all keys that were ever given there, or told.
func (g *log) number(who int) int {
	out := 0
	for _, h := range g.all {
		if h.who == who {
			out = max(out, h.key[0])
		}
	}
	return out
}

// keyAt: the last one that a message was given at a process.
func (g *log) keyAt(who, msg int) [2]int {
	var out [2]int
	for _, h := range g.all {
		if h.who == who && h.msg == msg && (h.what == wasGot || h.what == wasTold) {
			out = h.key
		}
	}
	return out
}

// final: the greatest key that a message got, and whether all have got it.
func (g *log) final(msg int) (key [2]int, all bool) {
	var keys [][2]int
	for _, h := range g.all {
		if h.what == wasGot && h.msg == msg {
			keys = append(keys, h.key)
		}
	}
	if len(keys) < g.n {
		return key, false
	}
	return slices.MaxFunc(keys, compareKeys), true
}

// unheard: what a process has got and not heard, from the least key on.
func (g *log) unheard(who int) []int {
	out := slices.DeleteFunc(g.messages(wasGot, who), func(msg int) bool { return g.has(wasHeard, who, msg) })
	slices.SortFunc(out, func(a, b int) int { return compareKeys(g.keyAt(who, a), g.keyAt(who, b)) })
	return out
}

// step: what a step is told; if nothing is wrong, it happens.
func (g *log) step(s api.Cast) api.Errno {
	many := len(g.messages(wasSent, -1))
	switch {
	case !slices.Contains([]int{api.CSend, api.CTake, api.CTell}, s.Kind):
		return api.ErrKind
	case s.Who < 0 || s.Who >= g.n:
		return api.ErrArg
	case s.Kind == api.CSend:
		g.write(wasSent, s.Who, many, [2]int{})
		return api.OK
	case s.Msg < 0 || s.Msg >= many:
		return api.ErrArg
	case s.Kind == api.CTake && g.has(wasGot, s.Who, s.Msg):
		return api.ErrHold
	case s.Kind == api.CTake:
		g.write(wasGot, s.Who, s.Msg, [2]int{g.number(s.Who) + 1, s.Who})
	default:
		final, all := g.final(s.Msg)
		if !all || g.has(wasTold, s.Who, s.Msg) {
			return api.ErrHold
		}
		g.write(wasTold, s.Who, s.Msg, final)
	}
	for l := g.unheard(s.Who); len(l) > 0 && g.has(wasTold, s.Who, l[0]); l = g.unheard(s.Who) {
		g.write(wasHeard, s.Who, l[0], [2]int{})
	}
	return api.OK
}

func slowPlay(n int, script []api.Cast) (api.Heard, *log) {
	g := &log{n: n}
	var h api.Heard
	for _, s := range script {
		h.Codes = append(h.Codes, g.step(s))
	}
	for who := range n {
		h.Lists = append(h.Lists, g.messages(wasHeard, who))
	}
	return h, g
}

func same(a, b api.Heard) bool {
	return slices.Equal(a.Codes, b.Codes) && slices.EqualFunc(a.Lists, b.Lists, slices.Equal)
}

// wantOneOrder: what the keys are for: of each two lists one is the other's beginning; nothing is heard twice; and who was told of all that it got has heard all of it.
func wantOneOrder(t *testing.T, h api.Heard, g *log) {
	t.Helper()
	longest := slices.MaxFunc(h.Lists, func(a, b []int) int { return cmp.Compare(len(a), len(b)) })
	for who, list := range h.Lists {
		if !slices.Equal(list, longest[:len(list)]) {
			t.Errorf("%d hears in another order: %v", who, h)
		}
		if got := len(g.messages(wasGot, who)); len(g.messages(wasTold, who)) == got && len(list) != got {
			t.Errorf("%d has not heard all: %v", who, h)
		}
	}
	for k, msg := range longest {
		if slices.Contains(longest[:k], msg) {
			t.Errorf("%d is heard twice: %v", msg, h)
		}
	}
}

// wantAsWords holds Play against the slow one; it answers what they say.
func wantAsWords(t *testing.T, n int, script []api.Cast) (api.Heard, *log) {
	t.Helper()
	want, g := slowPlay(n, script)
	h, e := Play(n, script)
	if e != api.OK || !same(h, want) {
		t.Fatalf("Play(%d, %v) = %v, %d; want %v", n, script, h, e, want)
	}
	wantOneOrder(t, h, g)
	return h, g
}

// allSteps: each of n processes takes and is told each of some messages.
func allSteps(n, messages int) []api.Cast {
	var out []api.Cast
	for who := range n {
		for msg := range messages {
			out = append(out, take(who, msg), tell(who, msg))
		}
	}
	return out
}

// TestAllShortScripts: each script of few processes with few steps, wrong ones too.
func TestAllShortScripts(t *testing.T) {
	var grow func(n int, steps, script []api.Cast, left int)
	grow = func(n int, steps, script []api.Cast, left int) {
		wantAsWords(t, n, script)
		if left == 0 {
			return
		}
		for _, step := range steps {
			grow(n, steps, append(slices.Clip(script), step), left-1)
		}
	}
	grow(1, append(allSteps(1, 2), send(0)), nil, 6)
	grow(2, append(allSteps(2, 1), send(0), send(1)), nil, 6)
	grow(2, allSteps(2, 2), []api.Cast{send(0), send(1)}, 4)
	grow(3, allSteps(3, 1), []api.Cast{send(2)}, 5)
}

// TestAllOrdersOfTwo: two processes take, and are told, two messages, in each order in which they may.
func TestAllOrdersOfTwo(t *testing.T) {
	first := map[int]int{}
	var grow func(script, left []api.Cast)
	grow = func(script, left []api.Cast) {
		h, _ := wantAsWords(t, 2, script)
		if h.Codes[len(script)-1] != api.OK {
			return
		}
		if len(left) == 0 {
			first[h.Lists[0][0]]++
		}
		for k, step := range left {
			grow(append(slices.Clip(script), step), slices.Delete(slices.Clone(left), k, k+1))
		}
	}
	grow([]api.Cast{send(0), send(1)}, allSteps(2, 2))
	if first[0] < 100 || first[0] != first[1] {
		t.Error("each message must be heard first as often as the other one", first)
	}
}

// mixer: numbers in no order, the same ones each time.
type mixer uint64

func (m *mixer) below(n int) int {
	*m = *m*6364136223846793005 + 1442695040888963407
	return int(*m>>33) % n
}

// mixedScript: each message of some is sent, taken by all and told to all, in any order; now and then a step of any kind lies between.
func mixedScript(m *mixer, n, length int) []api.Cast {
	sends := 1 + m.below(length/(2*n+1)+1)
	steps := allSteps(n, sends)
	script := slices.Repeat([]api.Cast{send(0)}, sends)
	for len(script) < length {
		switch m.below(10) {
		case 0:
			script = append(script, api.Cast{Kind: m.below(6) - 1, Who: m.below(n+2) - 1, Msg: m.below(sends+4) - 2})
		case 1:
			script = append(script, send(m.below(n)))
		default:
			script = append(script, steps[m.below(len(steps))])
		}
	}
	for range sends / 2 { // some are sent among what comes behind
		a, b := m.below(sends), m.below(length)
		script[a], script[b] = script[b], script[a]
	}
	return script
}

// TestMixedScripts: longer ones, up to the limits, with wrong steps among them.
func TestMixedScripts(t *testing.T) {
	m := mixer(1)
	codes := map[api.Errno]int{}
	turned, told, heard := 0, 0, 0
	for n := 1; n <= api.MaxProcs; n++ {
		for round := range 150 {
			script := mixedScript(&m, n, []int{20, 60, api.MaxScript}[round%3])
			h, g := wantAsWords(t, n, script)
			for _, e := range h.Codes {
				codes[e]++
			}
			for who, list := range h.Lists {
				toldOf := g.messages(wasTold, who)
				if !slices.Equal(list, toldOf[:len(list)]) {
					turned++
				}
				told += len(toldOf)
				heard += len(list)
			}
		}
	}
	if turned < 100 || heard < 100 || told-heard < 100 {
		t.Error("too few that were told in another order, or were heard, or wait", turned, told, heard)
	}
	for _, e := range []api.Errno{api.OK, api.ErrKind, api.ErrArg, api.ErrHold} {
		if codes[e] < 100 {
			t.Error("too few steps were told", e, codes)
		}
	}
}

// crossed: processes 0 and 1 take messages 0 and 1, each the other one first: their final keys are of the same number.
var crossed = []api.Cast{send(0), send(0), take(0, 1), take(0, 0), take(1, 0), take(1, 1)}

func TestF1F2F3Orders(t *testing.T) {
	// Final keys: of message 0: 2 and 1; of message 1: 3 and 0, as 0's number was 2 when it took it.
	raised := []api.Cast{send(0), send(1), take(1, 1), take(1, 0), take(0, 0), tell(0, 0), take(0, 1), tell(1, 0)}
	// 0's number stays 3 as it is told a key of number 1: so that of message 3 is 4.
	kept := []api.Cast{
		send(0), send(0), send(0), send(0), take(0, 0), take(0, 1), take(0, 2), take(1, 0), tell(0, 0),
		take(0, 3), take(1, 3), take(1, 2), take(1, 1), tell(0, 1), tell(0, 2), tell(0, 3),
	}
	// Each takes another one first; the final keys are: of message 0: 3 and 1; of 1: 3 and 2; of 2: 3 and 0.
	round := []api.Cast{send(0), send(1), send(2), take(0, 0), take(1, 1), take(2, 2), take(0, 1), take(1, 2), take(2, 0), take(0, 2), take(1, 0), take(2, 1)}
	cases := []struct {
		name   string
		n      int
		script []api.Cast
		want   [][]int
	}{
		{"example", 1, []api.Cast{send(0), take(0, 0), tell(0, 0)}, [][]int{{0}}},
		{"no steps", 4, nil, make([][]int, 4)},
		{"a sender does not hear at once", 2, []api.Cast{send(0), send(1)}, make([][]int, 2)},
		{"what is got is not heard", 1, []api.Cast{send(0), take(0, 0)}, make([][]int, 1)},
		{"one alone, as it took them", 1, []api.Cast{send(0), send(0), take(0, 1), take(0, 0), tell(0, 1), tell(0, 0)}, [][]int{{1, 0}}},
		{"one alone, told the later one first", 1, []api.Cast{send(0), send(0), take(0, 1), take(0, 0), tell(0, 0), tell(0, 1)}, [][]int{{1, 0}}},
		{"only who is told hears", 3, []api.Cast{send(0), take(0, 0), take(1, 0), take(2, 0), tell(1, 0)}, [][]int{{}, {0}, {}}},
		{"of the same number the lesser process", 2, append(slices.Clip(crossed), tell(0, 0), tell(0, 1), tell(1, 1), tell(1, 0)), [][]int{{0, 1}, {0, 1}}},
		{"a lesser key that is not final holds up", 2, append(slices.Clip(crossed), tell(0, 0)), make([][]int, 2)},
		{"the final key stands behind another one", 2, append(slices.Clip(crossed), tell(1, 1), tell(0, 1)), make([][]int, 2)},
		{"what is heard holds nothing up", 2, append(slices.Clip(crossed), tell(1, 0), tell(1, 1)), [][]int{{}, {0, 1}}},
		{"a greater number is taken over", 2, append(slices.Clip(raised), tell(1, 1), tell(0, 1)), [][]int{{0, 1}, {0, 1}}},
		{"a lesser number is not taken over", 2, kept, [][]int{{0, 2, 3, 1}, {}}},
		{"what one has not got holds nothing up", 2, []api.Cast{send(0), send(0), take(1, 0), take(0, 1), take(1, 1), tell(0, 1)}, [][]int{{1}, {}}},
		{"what others lack holds up who has it", 2, []api.Cast{send(0), send(0), take(1, 0), take(0, 1), take(1, 1), tell(1, 1)}, make([][]int, 2)},
		{"keys go by numbers ahead of processes", 2, []api.Cast{send(0), send(0), take(0, 0), take(0, 1), take(1, 0), take(1, 1), tell(0, 0), tell(0, 1)}, [][]int{{0, 1}, {}}},
		{"the greatest of three", 3, append(slices.Clip(round), tell(2, 0), tell(2, 1), tell(2, 2), tell(0, 2), tell(1, 2), tell(1, 0)), [][]int{{}, {}, {2, 0, 1}}},
	}
	for _, c := range cases {
		t.Run(c.name, func(t *testing.T) {
			h, _ := wantAsWords(t, c.n, c.script)
			if !same(h, api.Heard{Codes: make([]api.Errno, len(c.script)), Lists: c.want}) {
				t.Errorf("Play(%d, %v) = %v; want %v", c.n, c.script, h, c.want)
			}
		})
	}
}

// TestF2OneTellFreesMany: what waited behind one key is heard at once.
func TestF2OneTellFreesMany(t *testing.T) {
	const many = 20
	script := slices.Repeat([]api.Cast{send(0)}, many)
	for msg := range many {
		script = append(script, take(0, many-1-msg))
	}
	for msg := range many {
		script = append(script, tell(0, msg))
		h, _ := wantAsWords(t, 1, script)
		if want := many * ((msg + 1) / many); len(h.Lists[0]) != want {
			t.Errorf("told of %d: heard %v", msg, h.Lists)
		}
	}
}

// TestF2StepErrors: each wrong step, and that it changes nothing.
func TestF2StepErrors(t *testing.T) {
	// Process 0 was told of messages 0 and 1, and has heard them; process 1 was told of 1, which waits; message 2 process 1 has got alone, message 3 nobody.
	ahead := append(slices.Clip(crossed), send(1), send(0), tell(0, 0), tell(0, 1), tell(1, 1), take(1, 2))
	behind := []api.Cast{tell(1, 0), take(0, 3), take(0, 2), tell(0, 2), take(1, 3), send(1), tell(1, 2), tell(1, 3), tell(0, 3)}
	cases := []struct {
		step api.Cast
		want api.Errno
	}{
		{api.Cast{Kind: 0, Who: 1, Msg: 0}, api.ErrKind},
		{api.Cast{Kind: 4, Who: 1, Msg: 0}, api.ErrKind},
		{api.Cast{Kind: -1, Who: 9, Msg: 9}, api.ErrKind},
		{api.Cast{Kind: math.MaxInt, Who: -1}, api.ErrKind},
		{api.Cast{Kind: math.MinInt}, api.ErrKind},
		{send(-1), api.ErrArg},
		{send(2), api.ErrArg},
		{send(math.MaxInt), api.ErrArg},
		{send(math.MinInt), api.ErrArg},
		{take(-1, 3), api.ErrArg},
		{take(2, 3), api.ErrArg},
		{take(math.MaxInt, 0), api.ErrArg},
		{take(math.MinInt, 0), api.ErrArg},
		{take(0, -1), api.ErrArg},
		{take(0, 4), api.ErrArg}, // not yet sent
		{take(0, math.MaxInt), api.ErrArg},
		{take(0, math.MinInt), api.ErrArg},
		{tell(-1, 0), api.ErrArg},
		{tell(2, 0), api.ErrArg},
		{tell(math.MaxInt, 0), api.ErrArg},
		{tell(math.MinInt, 0), api.ErrArg},
		{tell(1, -1), api.ErrArg},
		{tell(1, 4), api.ErrArg},
		{tell(1, math.MaxInt), api.ErrArg},
		{tell(1, math.MinInt), api.ErrArg},
		{take(0, 0), api.ErrHold}, // heard
		{take(1, 0), api.ErrHold}, // got
		{take(1, 1), api.ErrHold}, // told
		{take(1, 2), api.ErrHold}, // got by it alone
		{tell(0, 0), api.ErrHold}, // told and heard
		{tell(0, 1), api.ErrHold},
		{tell(1, 1), api.ErrHold}, // told, and waits
		{tell(1, 2), api.ErrHold}, // the other one has not got it
		{tell(0, 2), api.ErrHold}, // it has not got it itself
		{tell(0, 3), api.ErrHold}, // nobody has
	}
	for _, c := range cases {
		t.Run(fmt.Sprint(c.step), func(t *testing.T) {
			wantCode(t, 2, ahead, c.step, c.want, behind)
		})
	}
	one := []api.Cast{send(0), take(0, 0), tell(0, 0)}
	wantCode(t, 1, nil, take(0, 0), api.ErrArg, one)
	wantCode(t, 1, nil, tell(0, 0), api.ErrArg, one)
	wantCode(t, 1, one[:1], tell(0, 0), api.ErrHold, one[1:])
	wantCode(t, 1, one[:2], take(0, 0), api.ErrHold, one[2:])
	wantCode(t, 1, one, take(0, 0), api.ErrHold, nil)
	wantCode(t, 1, one, tell(0, 0), api.ErrHold, nil)
}

// TestF2NotAllHaveIt: a message may be told from the last one's taking on, whoever is last.
func TestF2NotAllHaveIt(t *testing.T) {
	for n := 1; n <= api.MaxProcs; n++ {
		for last := range n {
			script := []api.Cast{send(0)}
			for k := range n {
				who := (last + 1 + k) % n
				for to := range n {
					wantCode(t, n, script, tell(to, 0), api.ErrHold, []api.Cast{take(who, 0)})
				}
				script = append(script, take(who, 0))
			}
			for to := range n {
				h, _ := wantAsWords(t, n, append(slices.Clip(script), tell(to, 0)))
				if h.Codes[n+1] != api.OK || !slices.Equal(h.Lists[to], []int{0}) {
					t.Error(n, last, to, h)
				}
			}
		}
	}
}

// wantCode: what a step is told; and that it leaves all as it was, for what comes behind it too.
func wantCode(t *testing.T, n int, ahead []api.Cast, step api.Cast, code api.Errno, behind []api.Cast) {
	t.Helper()
	for k := range len(behind) + 1 {
		without, e := Play(n, slices.Concat(ahead, behind[:k]))
		with, f := Play(n, slices.Concat(ahead, []api.Cast{step}, behind[:k]))
		if slices.ContainsFunc(without.Codes, func(c api.Errno) bool { return c != api.OK }) {
			t.Fatal("a step beside it is wrong", ahead, behind, without)
		}
		without.Codes = slices.Insert(without.Codes, len(ahead), code)
		if e != api.OK || f != api.OK || !same(with, without) {
			t.Errorf("%v, %v, behind it %v: %v; want %v", ahead, step, behind[:k], with, without)
		}
	}
}

// TestF2WhoSends: P4: of CSend Msg is not looked at; and who sent a message makes no difference to it.
func TestF2WhoSends(t *testing.T) {
	script := append(slices.Clip(crossed), tell(0, 0), tell(0, 1), tell(1, 1), tell(1, 0))
	plain, _ := wantAsWords(t, 2, script)
	for _, msg := range []int{-1, 0, 1, 2, math.MaxInt, math.MinInt} {
		for who := range 4 {
			changed := slices.Clone(script)
			changed[0] = api.Cast{Kind: api.CSend, Who: who % 2, Msg: msg}
			changed[1] = api.Cast{Kind: api.CSend, Who: who / 2, Msg: msg}
			if h, e := Play(2, changed); e != api.OK || !same(h, plain) {
				t.Error(changed, h, e)
			}
		}
	}
}

// TestF1Limits: what just lies within them.
func TestF1Limits(t *testing.T) {
	const many = api.MaxScript / 3
	var script []api.Cast
	for msg := range many {
		script = append(script, send(0), take(0, msg), tell(0, msg))
	}
	h, _ := wantAsWords(t, 1, script)
	if len(h.Codes) != api.MaxScript || len(h.Lists) != 1 || len(h.Lists[0]) != many {
		t.Error(h)
	}
	const perMessage = 2*api.MaxProcs + 1
	script = slices.Repeat([]api.Cast{send(0)}, api.MaxScript%perMessage)
	for msg := range api.MaxScript / perMessage {
		script = append(script, send(0))
		for who := range api.MaxProcs {
			script = append(script, take(who, msg))
		}
		for who := range api.MaxProcs {
			script = append(script, tell(who, msg))
		}
	}
	h, _ = wantAsWords(t, api.MaxProcs, script)
	if len(h.Codes) != api.MaxScript || len(h.Lists) != api.MaxProcs {
		t.Error(h)
	}
	for _, list := range h.Lists {
		if len(list) != api.MaxScript/perMessage {
			t.Error(h)
		}
	}
}

func TestF1Errors(t *testing.T) {
	long := slices.Repeat([]api.Cast{send(0)}, api.MaxScript+1)
	cases := []struct {
		n      int
		script []api.Cast
	}{
		{0, nil},
		{0, []api.Cast{send(0)}},
		{-1, []api.Cast{send(-1)}},
		{math.MinInt, nil},
		{api.MaxProcs + 1, nil},
		{api.MaxProcs + 1, []api.Cast{{Kind: 9}}},
		{math.MaxInt, []api.Cast{send(0)}},
		{1, long},
		{api.MaxProcs, long},
		{2, slices.Repeat([]api.Cast{{Kind: 9}}, api.MaxScript+1)},
		{0, long},
	}
	for _, c := range cases {
		t.Run(fmt.Sprintf("n=%d,steps=%d", c.n, len(c.script)), func(t *testing.T) {
			h, e := Play(c.n, c.script)
			if e != api.ErrLarge || len(h.Codes)+len(h.Lists) != 0 {
				t.Error(h, e)
			}
		})
	}
}

// TestNothingIsSharedOrChanged: P3.
func TestNothingIsSharedOrChanged(t *testing.T) {
	steps := append(slices.Clip(crossed), tell(0, 0), tell(0, 1), tell(1, 1), tell(1, 0), api.Cast{Kind: 9}, send(0)) // the last two lie behind the length
	before := slices.Clone(steps)
	script := steps[:len(steps)-2]
	for i := range 2 {
		h, _ := wantAsWords(t, 2, script)
		other, codes := slices.Clone(h.Lists[1-i]), slices.Clone(h.Codes)
		spoil(h.Lists[i])
		if len(other) != 2 || !slices.Equal(other, h.Lists[1-i]) {
			t.Fatal("shared", i, h)
		}
		if !slices.Equal(codes, h.Codes) || !slices.Equal(steps, before) {
			t.Fatal("changed", h, steps)
		}
	}
}

// spoil overwrites a list, also behind its length as far as its memory goes.
func spoil(l []int) {
	l = l[:cap(l)]
	for i := range l {
		l[i] = -99
	}
}
