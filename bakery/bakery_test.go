package bakery

import (
	"fmt"
	"iter"
	"math"
	"math/rand/v2"
	"slices"
	"testing"

	"folkmoot/api"
)

// The chapter told as a story, to hold the program against: what a process does is one run through its whole life, which rests behind each step.

// stand: where a process rests, with those of its two numbers that it will still look at.
type stand struct{ at, k, m int }

type story struct {
	n       int
	tickets []int
	choose  []bool
	in      []int
	stands  []stand
	ahead   []uint // of each one: who had a ticket when it began to choose, and has not left since
	next    []func() (stand, bool)
	stops   []func()
}

func newStory(n int) *story {
	s := &story{n: n, tickets: make([]int, n), choose: make([]bool, n), stands: make([]stand, n), ahead: make([]uint, n)}
	for who := range n {
		next, stop := iter.Pull(s.life(who))
		s.next, s.stops = append(s.next, next), append(s.stops, stop)
	}
	return s
}

func (s *story) end() {
	for _, stop := range s.stops {
		stop()
	}
}

// over: what a life is ended with, wherever it rests.
type over struct{}

func (s *story) life(who int) iter.Seq[stand] {
	return func(yield func(stand) bool) {
		defer func() {
			if r := recover(); r != any(over{}) {
				panic(r)
			}
		}()
		rest := func(at, k, m int) {
			if !yield(stand{at, k, m}) {
				panic(over{})
			}
		}
		for {
			s.choose[who] = true
			rest(1, 0, 0)
			m := 0
			for k := range s.n {
				m = max(m, s.tickets[k])
				rest(1, k+1, m)
			}
			s.tickets[who] = m + 1
			rest(2, 0, 0)
			s.choose[who] = false
			rest(3, 0, 0)
			for k := range s.n {
				for s.choose[k] {
					rest(3, k, 0)
				}
				rest(4, k, 0)
				for s.bars(k, who) {
					rest(4, k, 0)
				}
				rest(3, k+1, 0)
			}
			s.in = append(s.in, who)
			rest(5, 0, 0)
			s.tickets[who] = 0
			rest(0, 0, 0)
		}
	}
}

// bars: has k a ticket that goes ahead of another one's?
func (s *story) bars(k, who int) bool {
	a, b := s.tickets[k], s.tickets[who]
	return a > 0 && (a < b || a == b && k < who)
}

// step: what a step is told, and whether it changed anything; also what the tickets are for: who goes in is alone there, and behind all who had a ticket when it began to choose.
func (s *story) step(t *testing.T, who int) (api.Errno, bool) {
	if who < 0 || who >= s.n {
		return api.ErrArg, false
	}
	before := s.stands[who]
	after, _ := s.next[who]()
	s.stands[who] = after
	switch {
	case before.at == 0:
		for k, ticket := range s.tickets {
			if ticket != 0 {
				s.ahead[who] |= 1 << k
			}
		}
	case before.at == 5:
		for k := range s.ahead {
			s.ahead[k] &^= 1 << who
		}
	case after.at == 5:
		for k, other := range s.stands {
			if k != who && other.at == 5 {
				t.Fatal("two are in", s)
			}
		}
		if s.ahead[who] != 0 {
			t.Fatal("in ahead of one that came first", who, s)
		}
	}
	return api.OK, before != after
}

func (s *story) String() string {
	return fmt.Sprint(s.stands, s.tickets, s.choose, s.ahead)
}

func same(a, b api.Bakery) bool {
	return slices.Equal(a.Codes, b.Codes) && slices.Equal(a.At, b.At) && slices.Equal(a.Tickets, b.Tickets) &&
		slices.Equal(a.Choose, b.Choose) && slices.Equal(a.In, b.In)
}

// wantAsTold holds Play against the story; it answers it as it ended, and in which steps nothing changed.
func wantAsTold(t *testing.T, n int, script []int) (api.Bakery, *story, []bool) {
	t.Helper()
	s := newStory(n)
	defer s.end()
	var codes []api.Errno
	var idle []bool
	for _, who := range script {
		code, changed := s.step(t, who)
		codes, idle = append(codes, code), append(idle, !changed)
	}
	want := api.Bakery{Codes: codes, Tickets: s.tickets, Choose: s.choose, In: s.in}
	for _, st := range s.stands {
		want.At = append(want.At, st.at)
	}
	got, e := Play(n, script)
	if e != api.OK || !same(got, want) {
		t.Fatalf("Play(%d, %v) = %v, %d; want %v", n, script, got, e, want)
	}
	return got, s, idle
}

// grow goes through all scripts with at most so many steps more, of any of those from the first to the last process.
func grow(t *testing.T, n, first, last int, script []int, more int) {
	wantAsTold(t, n, script)
	if more == 0 {
		return
	}
	for who := first; who <= last; who++ {
		grow(t, n, first, last, append(slices.Clip(script), who), more-1)
	}
}

// TestAllShortScripts: each script of few steps; of some of them also with steps of who is no process.
func TestAllShortScripts(t *testing.T) {
	grow(t, 1, 0, 0, nil, api.MaxScript)
	grow(t, 2, 0, 1, nil, 13)
	grow(t, 3, 0, 2, nil, 8)
	grow(t, 4, 0, 3, nil, 6)
	grow(t, 1, -1, 1, nil, 8)
	grow(t, 2, -1, 2, nil, 6)
	grow(t, 4, -1, 4, nil, 4)
}

// TestAllStates: all steps from each state that so many steps lead to; and that wherever some are on their way, in or out, one of them can go on.
func TestAllStates(t *testing.T) {
	for _, c := range []struct{ n, steps int }{{2, 110}, {3, 24}, {4, 14}} {
		seen := map[string]bool{}
		scripts := [][]int{nil}
		for range c.steps {
			var longer [][]int
			for _, script := range scripts {
				_, before, _ := wantAsTold(t, c.n, script)
				underWay, goesOn := false, false
				for who, st := range before.stands {
					more := append(slices.Clip(script), who)
					_, s, idle := wantAsTold(t, c.n, more)
					underWay = underWay || st.at != 0
					goesOn = goesOn || st.at != 0 && !idle[len(script)]
					if !seen[s.String()] {
						seen[s.String()] = true
						longer = append(longer, more)
					}
				}
				if underWay && !goesOn {
					t.Fatal("none goes on", c.n, script)
				}
			}
			scripts = longer
		}
		if len(seen) < 2000 {
			t.Error("too few states", c, len(seen))
		}
	}
}

// mixedScript: each process takes some steps in a row; seldom one is no process.
func mixedScript(r *rand.Rand, n int) []int {
	most := 1 + r.IntN(12)
	var out []int
	for len(out) < api.MaxScript {
		who := r.IntN(n)
		if r.IntN(20) == 0 {
			who = r.IntN(n+4) - 2
		}
		out = append(out, slices.Repeat([]int{who}, 1+r.IntN(most))...)
	}
	return out[:api.MaxScript]
}

// TestMixedScripts: ones as long as may be, with wrong steps among them.
func TestMixedScripts(t *testing.T) {
	r := rand.New(rand.NewPCG(8, 1)) // the same numbers each time
	wrong, entries, waits, greatest := 0, 0, 0, 0
	for n := 1; n <= api.MaxTickets; n++ {
		for range 1000 {
			script := mixedScript(r, n)
			got, _, idle := wantAsTold(t, n, script)
			entries += len(got.In)
			greatest = max(greatest, slices.Max(got.Tickets))
			for i, code := range got.Codes {
				if code != api.OK {
					wrong++
				} else if idle[i] {
					waits++
				}
			}
		}
	}
	if wrong < 1000 || entries < 1000 || waits < 1000 || greatest < 6 {
		t.Error("too few that are wrong, go in or wait, or too low tickets", wrong, entries, waits, greatest)
	}
}

// TestH1OneProcess: one alone, step by step: it stands at 0, 1, 1, 2, 3, 4 and 3, and is in with the seventh one.
func TestH1OneProcess(t *testing.T) {
	at := []int{0, 1, 1, 2, 3, 4, 3, 5}
	tickets := []int{0, 0, 0, 1, 1, 1, 1, 1}
	choose := []bool{false, true, true, true, false, false, false, false}
	for steps := range api.MaxScript + 1 {
		now := steps % len(at)
		got, _, _ := wantAsTold(t, 1, make([]int, steps))
		want := api.Bakery{
			Codes:   make([]api.Errno, steps),
			At:      []int{at[now]},
			Tickets: []int{tickets[now]},
			Choose:  []bool{choose[now]},
			In:      make([]int, (steps+1)/len(at)),
		}
		if !same(got, want) {
			t.Errorf("%d steps: %v; want %v", steps, got, want)
		}
	}
}

// row: so many steps of one process in a row.
func row(who, steps int) []int { return slices.Repeat([]int{who}, steps) }

// all: of so many it is all the same.
func all(is bool, n int) []bool { return slices.Repeat([]bool{is}, n) }

func TestH1Steps(t *testing.T) {
	// Each of two has looked at both, and nobody had a ticket.
	tie := slices.Concat(row(0, 3), row(1, 3), row(0, 1), row(1, 1))
	// Of three, 1 has the ticket 1 and 0 the ticket 2.
	second := slices.Concat(row(1, 5), row(0, 5))
	// Of two, 1 has seen that 0 does not choose; and 0 has drawn its ticket since then.
	passed := slices.Concat(row(1, 6), row(0, 4))
	// Of two, 0 is in and 1 waits for it at 4.
	waits := slices.Concat(row(0, 10), row(1, 7))
	cases := []struct {
		name    string
		n       int
		script  []int
		at      []int
		tickets []int
		choose  []bool
		in      []int
	}{
		{"no steps", 3, nil, []int{0, 0, 0}, []int{0, 0, 0}, all(false, 3), nil},
		{"one look a step", 4, row(2, 5), []int{0, 0, 1, 0}, row(0, 4), []bool{false, false, true, false}, nil},
		{"a ticket behind all looks", 4, row(2, 6), []int{0, 0, 2, 0}, []int{0, 0, 1, 0}, []bool{false, false, true, false}, nil},
		{"it chooses no more", 4, row(2, 7), []int{0, 0, 3, 0}, []int{0, 0, 1, 0}, all(false, 4), nil},
		{"two are passed with two steps each", 2, row(1, 9), []int{0, 3}, []int{0, 1}, all(false, 2), nil},
		{"in", 2, row(1, 10), []int{0, 5}, []int{0, 1}, all(false, 2), []int{1}},
		{"out", 2, row(1, 11), []int{0, 0}, []int{0, 0}, all(false, 2), []int{1}},
		{"of four", 4, row(3, 16), []int{0, 0, 0, 5}, []int{0, 0, 0, 1}, all(false, 4), []int{3}},
		{"the same ticket", 2, tie, []int{2, 2}, []int{1, 1}, all(true, 2), nil},
		{"the greater process lets the lesser one ahead", 2, slices.Concat(tie, row(0, 1), row(1, 9)), []int{3, 4}, []int{1, 1}, all(false, 2), nil},
		{"the lesser one does not wait", 2, slices.Concat(tie, row(1, 1), row(0, 6)), []int{5, 3}, []int{1, 1}, all(false, 2), []int{0}},
		{"it waits for one that chooses", 2, slices.Concat(tie, row(0, 9)), []int{3, 2}, []int{1, 1}, []bool{false, true}, nil},
		{"so does the other one", 2, slices.Concat(tie, row(1, 9)), []int{2, 3}, []int{1, 1}, []bool{true, false}, nil},
		{"a ticket seen while it is not drawn yet is 0", 2, slices.Concat(row(0, 3), row(1, 4)), []int{1, 2}, []int{0, 1}, all(true, 2), nil},
		{"a lesser ticket counts ahead of a lesser process", 3, slices.Concat(second, row(1, 1), row(0, 20)), []int{4, 3, 0}, []int{2, 1, 0}, all(false, 3), nil},
		{"the greatest one counts, not the last", 3, slices.Concat(second, row(2, 5)), []int{2, 2, 2}, []int{2, 1, 3}, all(true, 3), nil},
		{"who chooses is not looked at behind that", 2, slices.Concat(passed, row(1, 1)), []int{2, 3}, []int{2, 1}, []bool{true, false}, nil},
		{"a greater ticket does not bar", 2, slices.Concat(passed, row(1, 4)), []int{2, 5}, []int{2, 1}, []bool{true, false}, []int{1}},
		{"it waits for who is in", 2, slices.Concat(waits, row(1, 30)), []int{5, 4}, []int{1, 2}, all(false, 2), []int{0}},
		{"it goes on when that one is out", 2, slices.Concat(waits, row(0, 1), row(1, 1)), []int{0, 3}, []int{0, 2}, all(false, 2), []int{0}},
		{"it goes in", 2, slices.Concat(waits, row(0, 1), row(1, 4)), []int{0, 5}, []int{0, 2}, all(false, 2), []int{0, 1}},
		{"who comes again is behind it", 2, slices.Concat(waits, row(0, 20)), []int{4, 4}, []int{3, 2}, all(false, 2), []int{0}},
		{"even so it goes in", 2, slices.Concat(waits, row(0, 20), row(1, 4), row(0, 9)), []int{4, 5}, []int{3, 2}, all(false, 2), []int{0, 1}},
		{"what was seen before is seen no more", 2, slices.Concat(waits, row(0, 1), row(1, 5), row(0, 4)), []int{2, 0}, []int{1, 0}, []bool{true, false}, []int{0, 1}},
	}
	for _, c := range cases {
		t.Run(c.name, func(t *testing.T) {
			got, _, _ := wantAsTold(t, c.n, c.script)
			want := api.Bakery{Codes: make([]api.Errno, len(c.script)), At: c.at, Tickets: c.tickets, Choose: c.choose, In: c.in}
			if !same(got, want) {
				t.Errorf("Play(%d, %v) = %v; want %v", c.n, c.script, got, want)
			}
		})
	}
}

// TestH2StepErrors: who is no process; and that the step changes nothing, for what comes behind it too.
func TestH2StepErrors(t *testing.T) {
	for n := 1; n <= api.MaxTickets; n++ {
		var script []int
		for who := range n {
			script = append(script, row(who, 3*n+5)...)
		}
		for _, who := range []int{-1, n, n + 1, api.MaxTickets, -n - 1, math.MaxInt, math.MinInt} {
			for k := range len(script) + 1 {
				without, _, _ := wantAsTold(t, n, script)
				with, e := Play(n, slices.Insert(slices.Clone(script), k, who))
				want := without
				want.Codes = slices.Insert(slices.Clone(without.Codes), k, api.ErrArg)
				if e != api.OK || !same(with, want) {
					t.Errorf("%d of %d, as step %d: %v, %d; want %v", who, n, k, with, e, want)
				}
			}
		}
	}
}

// TestH2Limits: what just lies within them.
func TestH2Limits(t *testing.T) {
	for n := 1; n <= api.MaxTickets; n++ {
		visit := 3*n + 5 // steps of one that never waits
		got, _, _ := wantAsTold(t, n, row(n-1, api.MaxScript))
		if len(got.Codes) != api.MaxScript || len(got.At) != n || len(got.Tickets) != n || len(got.Choose) != n {
			t.Error(n, got)
		}
		if !slices.Equal(got.In, row(n-1, (api.MaxScript+1)/visit)) { // the last step of a visit leads out
			t.Error(n, got)
		}
	}
}

func TestH2Errors(t *testing.T) {
	long := row(0, api.MaxScript+1)
	cases := []struct {
		n      int
		script []int
	}{
		{0, nil},
		{0, []int{0}},
		{-1, []int{-1}},
		{math.MinInt, nil},
		{api.MaxTickets + 1, nil},
		{api.MaxTickets + 1, []int{9}},
		{math.MaxInt, []int{0}},
		{1, long},
		{api.MaxTickets, long},
		{2, row(-1, api.MaxScript+1)},
		{0, long},
	}
	for _, c := range cases {
		t.Run(fmt.Sprintf("n=%d,steps=%d", c.n, len(c.script)), func(t *testing.T) {
			got, e := Play(c.n, c.script)
			if e != api.ErrLarge || !same(got, api.Bakery{}) {
				t.Error(got, e)
			}
		})
	}
}

// TestNothingIsSharedOrChanged: P3.
func TestNothingIsSharedOrChanged(t *testing.T) {
	steps := slices.Concat(row(0, 10), []int{7}, row(1, 4), []int{0, 1}) // the last two lie behind the length
	before := slices.Clone(steps)
	script := steps[:len(steps)-2]
	wantAsTold(t, 2, script)
	for i := range 3 {
		got, _ := Play(2, script)
		lists := [3][]int{got.At, got.Tickets, got.In}
		kept := [3][]int{{5, 2}, {1, 2}, {0}}
		codes, choose := slices.Clone(got.Codes), slices.Clone(got.Choose)
		spoil(lists[i])
		for j := range 3 {
			if j != i && !slices.Equal(lists[j], kept[j]) {
				t.Error("shared", i, j, got)
			}
		}
		if !slices.Equal(codes, got.Codes) || !slices.Equal(choose, got.Choose) || !slices.Equal(steps, before) {
			t.Error("changed", got, steps)
		}
	}
}

// spoil overwrites a list, also behind its length as far as its memory goes.
func spoil(l []int) {
	l = l[:cap(l)]
	for i := range l {
		l[i] = -99
	}
}
