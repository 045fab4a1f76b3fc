package cuts

import (
	"fmt"
	"math"
	"slices"
	"testing"

	"folkmoot/api"
)

func step(who int) api.Event     { return api.Event{Kind: api.EStep, Who: who} }
func send(who int) api.Event     { return api.Event{Kind: api.ESend, Who: who} }
func take(who, of int) api.Event { return api.Event{Kind: api.ETake, Who: who, Of: of} }

// steps: k events of process 0.
func steps(k int) []api.Event {
	return slices.Repeat([]api.Event{step(0)}, k)
}

// The definitions of the chapter, word by word and slowly, to hold the program against.

// has: is the event at i in the cut, as one of the first ones of its process?
func has(l []api.Event, cut []int, i int) bool {
	ahead := 0
	for k := range i {
		if l[k].Who == l[i].Who {
			ahead++
		}
	}
	return ahead < cut[l[i].Who]
}

func slowWhole(l []api.Event, cut []int) bool {
	for i, event := range l {
		if event.Kind == api.ETake && has(l, cut, i) && !has(l, cut, event.Of) {
			return false
		}
	}
	return true
}

// counts: how many events each process has.
func counts(n int, l []api.Event) []int {
	out := make([]int, n)
	for _, event := range l {
		out[event.Who]++
	}
	return out
}

// allCuts: each one through the events.
func allCuts(n int, l []api.Event) [][]int {
	out := [][]int{nil}
	for _, many := range counts(n, l) {
		var longer [][]int
		for _, c := range out {
			for k := range many + 1 {
				longer = append(longer, append(slices.Clip(c), k))
			}
		}
		out = longer
	}
	return out
}

// lies: has d all that c has?
func lies(c, d []int) bool {
	for p := range c {
		if c[p] > d[p] {
			return false
		}
	}
	return true
}

// the: the one of some cuts that stands to each of them as asked; fails if there is not just one.
func the(t *testing.T, some [][]int, to func(c, d []int) bool) []int {
	t.Helper()
	var found [][]int
	for _, c := range some {
		if !slices.ContainsFunc(some, func(d []int) bool { return !to(c, d) }) {
			found = append(found, c)
		}
	}
	if len(found) != 1 {
		t.Fatal("not just one", some, found)
	}
	return found[0]
}

// searched: Grow and Shrink, by looking at all whole cuts.
func searched(t *testing.T, n int, l []api.Event, cut []int) (grown, shrunk []int) {
	t.Helper()
	var above, below [][]int
	for _, c := range allCuts(n, l) {
		if !slowWhole(l, c) {
			continue
		}
		if lies(cut, c) {
			above = append(above, c)
		}
		if lies(c, cut) {
			below = append(below, c)
		}
	}
	grown = the(t, above, lies)
	shrunk = the(t, below, func(c, d []int) bool { return lies(d, c) })
	return grown, shrunk
}

// stepped: Grow and Shrink, by putting in, or taking out, one event as long as something is taken that was not sent; each whole cut on that side must do the same, so no step goes too far.
func stepped(l []api.Event, cut []int) (grown, shrunk []int) {
	grown, shrunk = slices.Clone(cut), slices.Clone(cut)
	for !slowWhole(l, grown) {
		for i, event := range l {
			if event.Kind == api.ETake && has(l, grown, i) && !has(l, grown, event.Of) {
				grown[l[event.Of].Who]++
			}
		}
	}
	for !slowWhole(l, shrunk) {
		for i, event := range l {
			if event.Kind == api.ETake && has(l, shrunk, i) && !has(l, shrunk, event.Of) {
				shrunk[event.Who]--
			}
		}
	}
	return grown, shrunk
}

// want holds all three calls, on what has no errors, against what is asked.
func want(t *testing.T, n int, l []api.Event, cut []int, whole bool, grown, shrunk []int) {
	t.Helper()
	if is, e := Whole(n, l, cut); e != api.OK || is != whole {
		t.Errorf("Whole(%d, %v, %v) = %v, %d; want %v", n, l, cut, is, e, whole)
	}
	if c, e := Grow(n, l, cut); e != api.OK || !slices.Equal(c, grown) {
		t.Errorf("Grow(%d, %v, %v) = %v, %d; want %v", n, l, cut, c, e, grown)
	}
	if c, e := Shrink(n, l, cut); e != api.OK || !slices.Equal(c, shrunk) {
		t.Errorf("Shrink(%d, %v, %v) = %v, %d; want %v", n, l, cut, c, e, shrunk)
	}
}

// TestAllShortLists: each cut through each list of at most 4 events of at most 3 processes.
func TestAllShortLists(t *testing.T) {
	var grow func(n int, l []api.Event)
	grow = func(n int, l []api.Event) {
		for _, cut := range allCuts(n, l) {
			grown, shrunk := searched(t, n, l, cut)
			want(t, n, l, cut, slowWhole(l, cut), grown, shrunk)
		}
		if len(l) == 4 {
			return
		}
		for who := range n {
			grow(n, append(slices.Clip(l), step(who)))
			grow(n, append(slices.Clip(l), send(who)))
			for of := range l {
				if l[of].Kind == api.ESend {
					grow(n, append(slices.Clip(l), take(who, of)))
				}
			}
		}
	}
	for n := 1; n <= 3; n++ {
		grow(n, nil)
	}
}

// TestMixedLists: longer ones, up to the limits.
func TestMixedLists(t *testing.T) {
	state := uint64(1)
	below := func(n int) int {
		state = state*6364136223846793005 + 1442695040888963407
		return int(state>>33) % n
	}
	notWhole := 0
	for n := 1; n <= api.MaxProcs; n++ {
		for _, size := range []int{0, 1, 8, 12, 20, 30, api.MaxEvents} {
			var l []api.Event
			for len(l) < size {
				event := api.Event{Kind: api.EStep + below(3), Who: below(n), Of: below(len(l) + 1)}
				if event.Kind != api.ETake || event.Of < len(l) && l[event.Of].Kind == api.ESend {
					l = append(l, event)
				}
			}
			for range 40 {
				cut := counts(n, l)
				for p := range cut {
					cut[p] = below(cut[p] + 1)
				}
				whole := slowWhole(l, cut)
				grown, shrunk := stepped(l, cut)
				want(t, n, l, cut, whole, grown, shrunk)
				if !whole {
					notWhole++
				}
			}
		}
	}
	if notWhole < 100 {
		t.Error("too few cuts that are not whole", notWhole)
	}
}

func TestC1C2Cuts(t *testing.T) {
	two := []api.Event{send(0), take(1, 0)}
	// 0 sends to 1, which sends on to 2; what 2 takes hangs on both.
	on := []api.Event{step(0), send(0), step(1), take(1, 1), send(1), step(2), take(2, 4), step(2)}
	// What 1 takes of the two that 0 sent is the later one first.
	crossed := []api.Event{send(0), send(0), take(1, 1), take(1, 0)}
	self := []api.Event{send(0), take(0, 0), step(1)}
	cases := []struct {
		n             int
		l             []api.Event
		cut           []int
		whole         bool
		grown, shrunk []int
	}{
		{2, two, []int{0, 1}, false, []int{1, 1}, []int{0, 0}},
		{2, two, []int{0, 0}, true, []int{0, 0}, []int{0, 0}},
		{2, two, []int{1, 0}, true, []int{1, 0}, []int{1, 0}}, // sent, and not yet taken
		{2, two, []int{1, 1}, true, []int{1, 1}, []int{1, 1}},
		{3, two, []int{0, 1, 0}, false, []int{1, 1, 0}, []int{0, 0, 0}}, // one has no events
		{1, nil, []int{0}, true, []int{0}, []int{0}},
		{api.MaxProcs, nil, make([]int, api.MaxProcs), true, make([]int, api.MaxProcs), make([]int, api.MaxProcs)},
		{1, steps(api.MaxEvents), []int{api.MaxEvents}, true, []int{api.MaxEvents}, []int{api.MaxEvents}},
		{3, on, []int{0, 0, 3}, false, []int{2, 3, 3}, []int{0, 0, 1}},
		{3, on, []int{1, 3, 3}, false, []int{2, 3, 3}, []int{1, 1, 1}}, // what falls out lets more fall out
		{3, on, []int{2, 1, 3}, false, []int{2, 3, 3}, []int{2, 1, 1}},
		{3, on, []int{1, 1, 1}, true, []int{1, 1, 1}, []int{1, 1, 1}},
		{3, on, []int{2, 3, 3}, true, []int{2, 3, 3}, []int{2, 3, 3}},
		{2, crossed, []int{1, 1}, false, []int{2, 1}, []int{1, 0}},
		{2, crossed, []int{1, 2}, false, []int{2, 2}, []int{1, 0}}, // the second alone would do; the first one is ahead of it
		{2, crossed, []int{2, 1}, true, []int{2, 1}, []int{2, 1}},
		{2, self, []int{2, 0}, true, []int{2, 0}, []int{2, 0}},
		{2, self, []int{1, 1}, true, []int{1, 1}, []int{1, 1}},
		// Two take the same.
		{3, []api.Event{send(0), take(1, 0), take(2, 0)}, []int{0, 1, 1}, false, []int{1, 1, 1}, []int{0, 0, 0}},
		// Only ETake needs Of.
		{2, []api.Event{send(0), {Kind: api.EStep, Who: 1}, {Kind: api.ESend, Who: 1, Of: -1}}, []int{0, 2}, true, []int{0, 2}, []int{0, 2}},
	}
	for _, c := range cases {
		want(t, c.n, c.l, c.cut, c.whole, c.grown, c.shrunk)
	}
}

// wantError: what each call tells; and P2: all else is zero.
func wantError(t *testing.T, n int, l []api.Event, cut []int, want api.Errno) {
	t.Helper()
	if is, e := Whole(n, l, cut); e != want || is {
		t.Error("Whole", is, e)
	}
	if c, e := Grow(n, l, cut); e != want || len(c) != 0 {
		t.Error("Grow", c, e)
	}
	if c, e := Shrink(n, l, cut); e != want || len(c) != 0 {
		t.Error("Shrink", c, e)
	}
}

func TestC1WrongCuts(t *testing.T) {
	l := []api.Event{send(0), take(1, 0), step(1)}
	cases := []struct {
		n   int
		l   []api.Event
		cut []int
	}{
		{2, l, nil},
		{2, l, []int{}},
		{2, l, []int{1}},
		{2, l, []int{1, 1, 0}},
		{2, l, make([]int, 1<<20)},
		{2, l, []int{-1, 0}},
		{2, l, []int{0, -1}},
		{2, l, []int{2, 0}},
		{2, l, []int{0, 3}},
		{2, l, []int{math.MinInt, 0}},
		{2, l, []int{0, math.MaxInt}},
		{2, l, []int{math.MaxInt, math.MinInt}},
		{3, l, []int{1, 2, 1}}, // the last one has no events
		{3, l, []int{1, 2}},
		{1, nil, nil},
		{1, nil, []int{1}},
		{1, nil, []int{-1}},
		{1, nil, []int{0, 0}},
		{1, steps(api.MaxEvents), []int{api.MaxEvents + 1}},
	}
	for k, c := range cases {
		t.Run(fmt.Sprintf("%d,n=%d,events=%d,numbers=%d", k, c.n, len(c.l), len(c.cut)), func(t *testing.T) {
			wantError(t, c.n, c.l, c.cut, api.ErrArg)
		})
	}
}

// TestB1ErrorsFirst: the events' errors are told ahead of the cut's, and where nothing is wrong with the cut.
func TestB1ErrorsFirst(t *testing.T) {
	cases := []struct {
		n    int
		l    []api.Event
		want api.Errno
	}{
		{0, nil, api.ErrLarge},
		{-1, nil, api.ErrLarge},
		{math.MinInt, steps(1), api.ErrLarge},
		{api.MaxProcs + 1, nil, api.ErrLarge},
		{math.MaxInt, nil, api.ErrLarge},
		{1, steps(api.MaxEvents + 1), api.ErrLarge},
		{2, []api.Event{step(0), {Kind: 0}}, api.ErrKind},
		{2, []api.Event{{Kind: api.ETake + 1, Who: 5}}, api.ErrKind},
		{2, []api.Event{step(2)}, api.ErrArg},
		{2, []api.Event{step(-1)}, api.ErrArg},
		{2, []api.Event{take(1, 1), send(0)}, api.ErrArg},
		{2, []api.Event{step(0), take(1, 0)}, api.ErrArg},
		{2, []api.Event{send(0), take(1, math.MaxInt)}, api.ErrArg},
		{2, []api.Event{take(0, 5), {Kind: 0}}, api.ErrArg},
	}
	for k, c := range cases {
		t.Run(fmt.Sprintf("%d,n=%d,events=%d,%d", k, c.n, len(c.l), c.want), func(t *testing.T) {
			cuts := [][]int{nil, {0}, {0, 0}, {-1}, {-1, math.MaxInt}, make([]int, api.MaxProcs+1)}
			for _, cut := range cuts {
				wantError(t, c.n, c.l, cut, c.want)
			}
		})
	}
}

// TestNothingIsSharedOrChanged: P3.
func TestNothingIsSharedOrChanged(t *testing.T) {
	events := []api.Event{send(0), take(1, 0), step(1), step(0), {Kind: 9}} // the last two lie behind the length
	numbers := []int{0, 1, -5, 70}                                          // so do these
	eventsBefore, numbersBefore := slices.Clone(events), slices.Clone(numbers)
	l := events[:3]
	for _, cut := range [][]int{numbers[:2], {1, 1}, {0, 0}} {
		cutBefore := slices.Clone(cut)
		grown, shrunk := stepped(l, cut)
		for range 2 {
			want(t, 2, l, cut, slowWhole(l, cut), grown, shrunk)
			c, _ := Grow(2, l, cut)
			spoil(c)
			c, _ = Shrink(2, l, cut)
			spoil(c)
			if !slices.Equal(events, eventsBefore) || !slices.Equal(numbers, numbersBefore) || !slices.Equal(cut, cutBefore) {
				t.Fatal("changed", events, numbers, cut)
			}
		}
	}
	wantError(t, 2, l, []int{2, 0}, api.ErrArg) // the second event of 0 lies behind the length
	wantError(t, 3, l, numbers[:2], api.ErrArg)
}

// spoil overwrites a list, also behind its length as far as its memory goes.
func spoil(l []int) {
	l = l[:cap(l)]
	for i := range l {
		l[i] = -1
	}
}
