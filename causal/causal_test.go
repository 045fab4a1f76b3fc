package causal

import (
	"fmt"
	"math"
	"slices"
	"testing"

	"folkmoot/api"
)

func send(who int) api.Cast      { return api.Cast{Kind: api.CSend, Who: who} }
func take(who, msg int) api.Cast { return api.Cast{Kind: api.CTake, Who: who, Msg: msg} }

// The chapter, word by word and slowly, to hold the program against: only what happened is written down, one thing behind the other, and all else is asked of that.

const (
	sent = iota
	came
	wasHeard
)

// happening: what, at whom, and of which message.
type happening struct{ what, who, msg int }

type log struct {
	n   int
	all []happening
}

// messages: all that happened so at a process (-1: at any), in order.
func (g *log) messages(all []happening, what, who int) []int {
	var out []int
	for _, h := range all {
		if h.what == what && (who < 0 || h.who == who) {
			out = append(out, h.msg)
		}
	}
	return out
}

func (g *log) has(what, who, msg int) bool {
	return slices.Contains(g.all, happening{what, who, msg})
}

// causes: what the sender had heard when it sent.
func (g *log) causes(msg int) []int {
	at := slices.IndexFunc(g.all, func(h happening) bool { return h.what == sent && h.msg == msg })
	return g.messages(g.all[:at], wasHeard, g.all[at].who)
}

// ready: of what waits at a process what has no cause that it has not heard, in order of the numbers.
func (g *log) ready(who int) []int {
	var out []int
	for _, msg := range g.messages(g.all, came, who) {
		unheard := func(cause int) bool { return !g.has(wasHeard, who, cause) }
		if unheard(msg) && !slices.ContainsFunc(g.causes(msg), unheard) {
			out = append(out, msg)
		}
	}
	slices.Sort(out)
	return out
}

// step: what a step is told; if nothing is wrong, it happens.
func (g *log) step(s api.Cast) api.Errno {
	many := len(g.messages(g.all, sent, -1))
	switch {
	case s.Kind != api.CSend && s.Kind != api.CTake:
		return api.ErrKind
	case s.Who < 0 || s.Who >= g.n:
		return api.ErrArg
	case s.Kind == api.CSend:
		g.all = append(g.all, happening{sent, s.Who, many}, happening{wasHeard, s.Who, many})
		return api.OK
	case s.Msg < 0 || s.Msg >= many || g.has(sent, s.Who, s.Msg):
		return api.ErrArg
	case g.has(came, s.Who, s.Msg):
		return api.ErrHold
	}
	g.all = append(g.all, happening{came, s.Who, s.Msg})
	for ready := g.ready(s.Who); len(ready) > 0; ready = g.ready(s.Who) {
		g.all = append(g.all, happening{wasHeard, s.Who, ready[0]})
	}
	return api.OK
}

func slowPlay(n int, script []api.Cast) (api.Heard, *log) {
	g := &log{n: n}
	var h api.Heard
	for _, s := range script {
		h.Codes = append(h.Codes, g.step(s))
	}
	for who := range n {
		h.Lists = append(h.Lists, g.messages(g.all, wasHeard, who))
	}
	return h, g
}

func same(a, b api.Heard) bool {
	return slices.Equal(a.Codes, b.Codes) && slices.EqualFunc(a.Lists, b.Lists, slices.Equal)
}

// wantInOrderOfCauses: what the order is for: each one hears each message at most once, behind all its causes; and what came and is not heard lacks a cause.
func wantInOrderOfCauses(t *testing.T, h api.Heard, g *log) {
	t.Helper()
	for who, list := range h.Lists {
		for k, msg := range list {
			if slices.Contains(list[:k], msg) {
				t.Errorf("%d hears %d twice: %v", who, msg, h)
			}
			for _, cause := range g.causes(msg) {
				if !slices.Contains(list[:k], cause) {
					t.Errorf("%d hears %d ahead of its cause %d: %v", who, msg, cause, h)
				}
			}
		}
		for _, msg := range g.messages(g.all, came, who) {
			lacks := func(cause int) bool { return !slices.Contains(list, cause) }
			if lacks(msg) && !slices.ContainsFunc(g.causes(msg), lacks) {
				t.Errorf("%d might hear %d: %v", who, msg, h)
			}
		}
	}
}

// wantAsWords holds Play against the slow one; it answers what they say.
func wantAsWords(t *testing.T, n int, script []api.Cast) (api.Heard, *log) {
	t.Helper()
	want, g := slowPlay(n, script)
	h, e := Play(n, script)
	if e != api.OK || !same(h, want) {
		t.Fatalf("Play(%d, %v) = %v, %d; want %v", n, script, h, e, want)
	}
	wantInOrderOfCauses(t, h, g)
	return h, g
}

// allSteps: each one of n processes, with the first few messages.
func allSteps(n, messages int) []api.Cast {
	var out []api.Cast
	for who := range n {
		out = append(out, send(who))
		for msg := range messages {
			out = append(out, take(who, msg))
		}
	}
	return out
}

// TestAllShortScripts: each script of few processes with few steps.
func TestAllShortScripts(t *testing.T) {
	late := 0
	var grow func(n int, steps, script []api.Cast, left int)
	grow = func(n int, steps, script []api.Cast, left int) {
		h, g := wantAsWords(t, n, script)
		for who, list := range h.Lists {
			if cameLate(g, who, list) {
				late++
			}
		}
		if left == 0 {
			return
		}
		for _, step := range steps {
			grow(n, steps, append(slices.Clip(script), step), left-1)
		}
	}
	grow(1, allSteps(1, 2), nil, 5)
	grow(2, allSteps(2, 2), nil, 6)
	grow(3, allSteps(3, 2), nil, 5)
	if late < 100 {
		t.Error("too few that heard in another order than it came", late)
	}
}

// cameLate: did a process hear what came to it in another order?
func cameLate(g *log, who int, list []int) bool {
	arrived := g.messages(g.all, came, who)
	fromOthers := slices.DeleteFunc(slices.Clone(list), func(msg int) bool { return !slices.Contains(arrived, msg) })
	arrived = slices.DeleteFunc(arrived, func(msg int) bool { return !slices.Contains(fromOthers, msg) })
	return !slices.Equal(arrived, fromOthers)
}

// TestMixedScripts: longer ones, up to the limits, with wrong steps among them.
func TestMixedScripts(t *testing.T) {
	state := uint64(1)
	below := func(n int) int {
		state = state*6364136223846793005 + 1442695040888963407
		return int(state>>33) % n
	}
	late, waiting := 0, 0
	codes := map[api.Errno]int{}
	for n := 1; n <= api.MaxProcs; n++ {
		for round := range 100 {
			script := make([]api.Cast, []int{10, 30, api.MaxScript}[round%3])
			sends := 1
			for i := range script {
				script[i] = take(below(n), below(sends))
				switch below(12) {
				case 0, 1:
					script[i] = send(below(n))
					sends++
				case 2:
					script[i] = api.Cast{Kind: below(5), Who: below(n+2) - 1, Msg: below(sends+4) - 2}
				}
			}
			h, g := wantAsWords(t, n, script)
			for _, e := range h.Codes {
				codes[e]++
			}
			for who, list := range h.Lists {
				if cameLate(g, who, list) {
					late++
				}
				waiting += len(g.messages(g.all, came, who)) + len(g.messages(g.all, sent, who)) - len(list)
			}
		}
	}
	if late < 100 || waiting < 100 {
		t.Error("too few that came ahead of a cause", late, waiting)
	}
	for _, e := range []api.Errno{api.OK, api.ErrKind, api.ErrArg, api.ErrHold} {
		if codes[e] < 100 {
			t.Error("too few steps were told", e, codes)
		}
	}
}

func TestE1E2E3Orders(t *testing.T) {
	example := []api.Cast{send(0), take(1, 0), send(1), take(2, 1), take(2, 0)}
	// 0, 1, 2 and 3 stand each behind the one before it, and are sent by one each.
	row := []api.Cast{send(0), take(1, 0), send(1), take(2, 0), take(2, 1), send(2), take(3, 0), take(3, 1), take(3, 2), send(3)}
	cases := []struct {
		name   string
		n      int
		script []api.Cast
		want   [][]int
	}{
		{"example", 3, example, [][]int{{0}, {0, 1}, {0, 1}}},
		{"what waits is not heard", 3, example[:4], [][]int{{0}, {0, 1}, {}}},
		{"no steps", 4, nil, make([][]int, 4)},
		{"one alone", 1, []api.Cast{send(0), send(0)}, [][]int{{0, 1}}},
		{"one's own are causes", 2, []api.Cast{send(0), send(0), send(0), take(1, 2), take(1, 1), take(1, 0)}, [][]int{{0, 1, 2}, {0, 1, 2}}},
		{"of one's own one is lacking", 2, []api.Cast{send(0), send(0), send(0), take(1, 2), take(1, 0)}, [][]int{{0, 1, 2}, {0}}},
		{"what has no cause is heard as it comes", 3, []api.Cast{send(0), send(1), take(2, 1), take(2, 0), take(0, 1), take(1, 0)}, [][]int{{0, 1}, {1, 0}, {1, 0}}},
		{"what waits at the sender is no cause", 3, []api.Cast{send(0), send(0), take(1, 1), send(1), take(2, 2)}, [][]int{{0, 1}, {2}, {2}}},
		{"what is heard after sending is no cause", 3, []api.Cast{send(0), send(1), take(1, 0), take(2, 1)}, [][]int{{0}, {1, 0}, {1}}},
		{"least of those that may be heard, not of those that wait", 4, []api.Cast{send(0), take(1, 0), send(1), send(2), take(3, 1), take(3, 2)}, [][]int{{0}, {0, 1}, {2}, {2}}},
		{"least first, not first come", 4, []api.Cast{send(0), take(1, 0), send(1), take(2, 0), send(2), take(3, 2), take(3, 1), take(3, 0)}, [][]int{{0}, {0, 1}, {0, 2}, {0, 1, 2}}},
		{"all in a row at once", 5, append(slices.Clip(row), take(4, 3), take(4, 1), take(4, 2), take(4, 0)), [][]int{{0}, {0, 1}, {0, 1, 2}, {0, 1, 2, 3}, {0, 1, 2, 3}}},
		{"of a row as far as it goes", 5, append(slices.Clip(row), take(4, 3), take(4, 1), take(4, 0)), [][]int{{0}, {0, 1}, {0, 1, 2}, {0, 1, 2, 3}, {0, 1}}},
		{"one's own is a cause that one has heard", 2, []api.Cast{send(0), take(1, 0), send(1), take(0, 1)}, [][]int{{0, 1}, {0, 1}}},
		{"one may send while another's waits", 3, []api.Cast{send(0), send(0), take(1, 1), send(1), take(1, 0)}, [][]int{{0, 1}, {2, 0, 1}, {}}},
	}
	for _, c := range cases {
		t.Run(c.name, func(t *testing.T) {
			h, _ := wantAsWords(t, c.n, c.script)
			if !same(h, api.Heard{Codes: make([]api.Errno, len(c.script)), Lists: c.want}) {
				t.Errorf("Play(%d, %v) = %v; want %v", c.n, c.script, h, c.want)
			}
		})
	}
}

// TestE2StepErrors: each wrong step, and that it changes nothing.
func TestE2StepErrors(t *testing.T) {
	// To process 1 have come message 0, which it has heard, and message 3, which waits for message 1; message 2 is its own.
	ahead := []api.Cast{send(0), send(2), take(1, 0), send(1), take(0, 1), send(0), take(1, 3)}
	behind := []api.Cast{take(1, 1), send(1), take(2, 3), take(2, 0), take(2, 2)}
	cases := []struct {
		step api.Cast
		want api.Errno
	}{
		{api.Cast{Kind: 0, Who: 1, Msg: 1}, api.ErrKind},
		{api.Cast{Kind: api.CTell, Who: 1, Msg: 1}, api.ErrKind},
		{api.Cast{Kind: -1, Who: 9, Msg: 9}, api.ErrKind},
		{api.Cast{Kind: math.MaxInt, Who: -1}, api.ErrKind},
		{api.Cast{Kind: math.MinInt}, api.ErrKind},
		{send(-1), api.ErrArg},
		{send(3), api.ErrArg},
		{send(math.MaxInt), api.ErrArg},
		{send(math.MinInt), api.ErrArg},
		{take(-1, 1), api.ErrArg},
		{take(3, 1), api.ErrArg},
		{take(math.MaxInt, 1), api.ErrArg},
		{take(math.MinInt, 1), api.ErrArg},
		{take(1, -1), api.ErrArg},
		{take(1, 4), api.ErrArg}, // not yet sent
		{take(1, math.MaxInt), api.ErrArg},
		{take(1, math.MinInt), api.ErrArg},
		{take(0, 0), api.ErrArg}, // one's own, which is not told as one that has come
		{take(0, 3), api.ErrArg},
		{take(1, 2), api.ErrArg},
		{take(2, 1), api.ErrArg},
		{take(1, 0), api.ErrHold}, // heard
		{take(0, 1), api.ErrHold},
		{take(1, 3), api.ErrHold}, // waits
	}
	for _, c := range cases {
		t.Run(fmt.Sprint(c.step), func(t *testing.T) {
			wantCode(t, 3, ahead, c.step, c.want, behind)
		})
	}
	wantCode(t, 1, nil, take(0, 0), api.ErrArg, []api.Cast{send(0)})
	wantCode(t, 1, []api.Cast{send(0)}, take(0, 0), api.ErrArg, []api.Cast{send(0)})
	wantCode(t, 3, append(slices.Clip(ahead), take(1, 1)), take(1, 3), api.ErrHold, behind[1:]) // it waited, and is heard
}

// wantCode: what a step is told; and that it leaves all as it was, for what comes behind it too.
func wantCode(t *testing.T, n int, ahead []api.Cast, step api.Cast, code api.Errno, behind []api.Cast) {
	t.Helper()
	for k := range len(behind) + 1 {
		without, e := Play(n, slices.Concat(ahead, behind[:k]))
		with, f := Play(n, slices.Concat(ahead, []api.Cast{step}, behind[:k]))
		if slices.ContainsFunc(without.Codes, func(c api.Errno) bool { return c != api.OK }) {
			t.Fatal("a step beside it is wrong", ahead, behind, without)
		}
		without.Codes = slices.Insert(without.Codes, len(ahead), code)
		if e != api.OK || f != api.OK || !same(with, without) {
			t.Errorf("%v, %v, behind it %v: %v; want %v", ahead, step, behind[:k], with, without)
		}
	}
}

// TestE2FieldsNotNeeded: P4: of CSend Msg is not looked at.
func TestE2FieldsNotNeeded(t *testing.T) {
	script := []api.Cast{send(0), send(1), take(1, 0), send(1), take(0, 2), take(0, 1)}
	plain, _ := wantAsWords(t, 2, script)
	for _, msg := range []int{-1, 0, 1, 2, 3, math.MaxInt, math.MinInt} {
		changed := slices.Clone(script)
		changed[0].Msg, changed[1].Msg, changed[3].Msg = msg, msg, msg
		if h, e := Play(2, changed); e != api.OK || !same(h, plain) {
			t.Error(changed, h, e)
		}
	}
}

// TestE1Limits: what just lies within them.
func TestE1Limits(t *testing.T) {
	var script []api.Cast
	for range api.MaxScript / 2 {
		script = append(script, send(0))
	}
	last := api.MaxProcs - 1
	for msg := api.MaxScript/2 - 1; msg >= 0; msg-- {
		if h, _ := wantAsWords(t, api.MaxProcs, script); len(h.Lists[last]) != 0 {
			t.Fatal("heard ahead of message 0", h)
		}
		script = append(script, take(last, msg))
	}
	h, _ := wantAsWords(t, api.MaxProcs, script)
	if len(h.Codes) != api.MaxScript || len(h.Lists) != api.MaxProcs || len(h.Lists[last]) != api.MaxScript/2 {
		t.Error(h)
	}
	h, _ = wantAsWords(t, 1, slices.Repeat([]api.Cast{send(0)}, api.MaxScript))
	if len(h.Lists) != 1 || len(h.Lists[0]) != api.MaxScript {
		t.Error(h)
	}
}

func TestE1Errors(t *testing.T) {
	long := slices.Repeat([]api.Cast{send(0)}, api.MaxScript+1)
	cases := []struct {
		n      int
		script []api.Cast
	}{
		{0, nil},
		{0, []api.Cast{send(0)}},
		{-1, []api.Cast{send(-1)}},
		{math.MinInt, nil},
		{api.MaxProcs + 1, nil},
		{api.MaxProcs + 1, []api.Cast{{Kind: 9}}},
		{math.MaxInt, []api.Cast{send(0)}},
		{1, long},
		{api.MaxProcs, long},
		{2, slices.Repeat([]api.Cast{{Kind: 9}}, api.MaxScript+1)},
		{0, long},
	}
	for _, c := range cases {
		t.Run(fmt.Sprintf("n=%d,steps=%d", c.n, len(c.script)), func(t *testing.T) {
			h, e := Play(c.n, c.script)
			if e != api.ErrLarge || len(h.Codes)+len(h.Lists) != 0 {
				t.Error(h, e)
			}
		})
	}
}

// TestNothingIsSharedOrChanged: P3.
func TestNothingIsSharedOrChanged(t *testing.T) {
	steps := []api.Cast{send(0), send(1), take(1, 0), send(1), take(2, 2), take(2, 1), take(2, 0), take(0, 2), {Kind: 9}, send(0)} // the last two lie behind the length
	before := slices.Clone(steps)
	script := steps[:8]
	for i := range 3 {
		h, _ := wantAsWords(t, 3, script)
		var lists [][]int
		for _, l := range h.Lists {
			lists = append(lists, slices.Clone(l))
		}
		codes := slices.Clone(h.Codes)
		spoil(h.Lists[i])
		for k := range lists {
			if k != i && !slices.Equal(lists[k], h.Lists[k]) {
				t.Fatal("shared", i, k, h)
			}
		}
		if !slices.Equal(codes, h.Codes) || !slices.Equal(steps, before) {
			t.Fatal("changed", h, steps)
		}
	}
}

// spoil overwrites a list, also behind its length as far as its memory goes.
func spoil(l []int) {
	l = l[:cap(l)]
	for i := range l {
		l[i] = -99
	}
}
