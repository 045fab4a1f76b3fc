package clocks

import (
	"fmt"
	"math"
	"reflect"
	"slices"
	"testing"

	"folkmoot/api"
)

func step(who int) api.Event     { return api.Event{Kind: api.EStep, Who: who} }
func send(who int) api.Event     { return api.Event{Kind: api.ESend, Who: who} }
func take(who, of int) api.Event { return api.Event{Kind: api.ETake, Who: who, Of: of} }

// steps: k events of process 0.
func steps(k int) []api.Event {
	return slices.Repeat([]api.Event{step(0)}, k)
}

// The definitions of the chapter, word by word and slowly, to hold the program against.

// slowBefore: which is before which, closed by going on as long as anything is added.
func slowBefore(l []api.Event) [][]bool {
	is := make([][]bool, len(l))
	for i := range l {
		is[i] = make([]bool, len(l))
		for j := range l {
			sameProcess := l[i].Who == l[j].Who && i < j
			taken := l[j].Kind == api.ETake && l[j].Of == i
			is[i][j] = sameProcess || taken
		}
	}
	for more := true; more; {
		more = false
		for i := range l {
			for k := range l {
				for j := range l {
					if is[i][k] && is[k][j] && !is[i][j] {
						is[i][j], more = true, true
					}
				}
			}
		}
	}
	return is
}

// slowScalars: of each event, by looking back for its process's last one.
func slowScalars(l []api.Event) []int {
	out := make([]int, len(l))
	for i := range l {
		greatest := 0
		for k := i - 1; k >= 0; k-- {
			if l[k].Who == l[i].Who {
				greatest = out[k]
				break
			}
		}
		if l[i].Kind == api.ETake && out[l[i].Of] > greatest {
			greatest = out[l[i].Of]
		}
		out[i] = greatest + 1
	}
	return out
}

// slowVector: how many of each process's events are before the one at i, or are itself.
func slowVector(n int, l []api.Event, before [][]bool, i int) []int {
	out := make([]int, n)
	for k := range l {
		if k == i || before[k][i] {
			out[l[k].Who]++
		}
	}
	return out
}

// compare holds all four calls on events without errors against the slow definitions.
func compare(t *testing.T, n int, l []api.Event) {
	t.Helper()
	if e := Check(n, l); e != api.OK {
		t.Fatalf("Check(%d, %v) = %d", n, l, e)
	}
	before := slowBefore(l)
	s, e := Scalars(n, l)
	if want := slowScalars(l); e != api.OK || !slices.Equal(s, want) {
		t.Fatalf("Scalars(%d, %v) = %v, %d; want %v", n, l, s, e, want)
	}
	v, e := Vectors(n, l)
	if e != api.OK || len(v) != len(l) {
		t.Fatalf("Vectors(%d, %v) = %v, %d", n, l, v, e)
	}
	for i := range l {
		if want := slowVector(n, l, before, i); !slices.Equal(v[i], want) {
			t.Errorf("Vectors(%d, %v) at %d = %v; want %v", n, l, i, v[i], want)
		}
		for j := range l {
			if is, e := Before(n, l, i, j); e != api.OK || is != before[i][j] {
				t.Errorf("Before(%d, %v, %d, %d) = %v, %d; want %v", n, l, i, j, is, e, before[i][j])
			}
			if before[i][j] && s[i] >= s[j] {
				t.Errorf("Scalars(%d, %v): %d at %d, which is before %d, has %d", n, l, s[i], i, j, s[j])
			}
		}
	}
}

// TestAllShortLists: each list of at most 4 events of at most 3 processes.
func TestAllShortLists(t *testing.T) {
	var grow func(n int, l []api.Event)
	grow = func(n int, l []api.Event) {
		compare(t, n, l)
		if len(l) == 4 {
			return
		}
		for who := range n {
			grow(n, append(slices.Clip(l), step(who)))
			grow(n, append(slices.Clip(l), send(who)))
			for of := range l {
				if l[of].Kind == api.ESend {
					grow(n, append(slices.Clip(l), take(who, of)))
				}
			}
		}
	}
	for n := 1; n <= 3; n++ {
		grow(n, nil)
	}
}

// TestMixedLists: longer ones, up to the limits.
func TestMixedLists(t *testing.T) {
	state := uint64(1)
	below := func(n int) int {
		state = state*6364136223846793005 + 1442695040888963407
		return int(state>>33) % n
	}
	for n := 1; n <= api.MaxProcs; n++ {
		for _, size := range []int{8, 12, 12, 12, 30, api.MaxEvents} {
			var l []api.Event
			for len(l) < size {
				event := api.Event{Kind: api.EStep + below(3), Who: below(n), Of: below(len(l) + 1)}
				if event.Kind != api.ETake || event.Of < len(l) && l[event.Of].Kind == api.ESend {
					l = append(l, event)
				}
			}
			compare(t, n, l)
		}
	}
}

// wantError: what each call tells; Before also where a place is wrong too, which is named behind Check's errors. And P2: all else is zero.
func wantError(t *testing.T, n int, l []api.Event, want api.Errno) {
	t.Helper()
	if e := Check(n, l); e != want {
		t.Error("Check", e)
	}
	for _, place := range []int{0, -1, len(l)} {
		if is, e := Before(n, l, 0, place); e != want || is {
			t.Error("Before", place, is, e)
		}
		if is, e := Before(n, l, place, 1); e != want || is {
			t.Error("Before", place, is, e)
		}
	}
	if s, e := Scalars(n, l); e != want || len(s) != 0 {
		t.Error("Scalars", s, e)
	}
	if v, e := Vectors(n, l); e != want || len(v) != 0 {
		t.Error("Vectors", v, e)
	}
}

func TestB1Errors(t *testing.T) {
	kind := func(k int) api.Event { return api.Event{Kind: k} }
	cases := []struct {
		n    int
		l    []api.Event
		want api.Errno
	}{
		{0, nil, api.ErrLarge},
		{-1, steps(2), api.ErrLarge},
		{math.MinInt, steps(2), api.ErrLarge},
		{api.MaxProcs + 1, steps(2), api.ErrLarge},
		{math.MaxInt, nil, api.ErrLarge},
		{1, steps(api.MaxEvents + 1), api.ErrLarge},
		{1, steps(1 << 20), api.ErrLarge},
		{2, []api.Event{kind(0)}, api.ErrKind},
		{2, []api.Event{step(0), kind(api.ETake + 1)}, api.ErrKind},
		{2, []api.Event{step(0), kind(-1)}, api.ErrKind},
		{2, []api.Event{kind(math.MinInt)}, api.ErrKind},
		{2, []api.Event{kind(math.MaxInt)}, api.ErrKind},
		{2, []api.Event{step(2)}, api.ErrArg},
		{2, []api.Event{send(-1)}, api.ErrArg},
		{2, []api.Event{send(0), take(2, 0)}, api.ErrArg},
		{2, []api.Event{send(0), take(-1, 0)}, api.ErrArg},
		{2, []api.Event{step(math.MinInt)}, api.ErrArg},
		{2, []api.Event{step(math.MaxInt)}, api.ErrArg},
		{api.MaxProcs, []api.Event{step(api.MaxProcs)}, api.ErrArg},
		// No ESend stands there ahead of it.
		{2, []api.Event{take(0, 0)}, api.ErrArg},
		{2, []api.Event{send(0), take(1, 1)}, api.ErrArg},
		{2, []api.Event{take(1, 1), send(0)}, api.ErrArg},
		{2, []api.Event{send(0), take(1, 2), send(0)}, api.ErrArg},
		{2, []api.Event{send(0), take(1, -1)}, api.ErrArg},
		{2, []api.Event{send(0), take(1, math.MinInt)}, api.ErrArg},
		{2, []api.Event{send(0), take(1, math.MaxInt)}, api.ErrArg},
		{2, []api.Event{step(0), take(1, 0)}, api.ErrArg},
		{2, []api.Event{send(0), take(1, 0), take(0, 1)}, api.ErrArg},
		// Several wrong at once: what is too large ahead of the events; then the first event; of that one its kind.
		{0, []api.Event{kind(0)}, api.ErrLarge},
		{7, []api.Event{step(9)}, api.ErrLarge},
		{1, append(steps(api.MaxEvents), kind(0)), api.ErrLarge},
		{2, []api.Event{{Kind: 4, Who: 2}}, api.ErrKind},
		{2, []api.Event{{Kind: 0, Who: -1, Of: -1}}, api.ErrKind},
		{2, []api.Event{step(2), kind(0)}, api.ErrArg},
		{2, []api.Event{take(0, 5), kind(0)}, api.ErrArg},
		{2, []api.Event{kind(0), step(2)}, api.ErrKind},
		{1, append(steps(api.MaxEvents-1), kind(4)), api.ErrKind},
	}
	for k, c := range cases {
		t.Run(fmt.Sprintf("%d,n=%d,events=%d,%d", k, c.n, len(c.l), c.want), func(t *testing.T) {
			wantError(t, c.n, c.l, c.want)
		})
	}
}

func TestB1Good(t *testing.T) {
	cases := []struct {
		n int
		l []api.Event
	}{
		{1, nil},
		{api.MaxProcs, []api.Event{}},
		{1, steps(api.MaxEvents)},
		{api.MaxProcs, []api.Event{step(api.MaxProcs - 1)}},
		{2, []api.Event{send(0), take(0, 0)}},             // one takes what it sent itself
		{3, []api.Event{send(0), take(1, 0), take(2, 0)}}, // two take the same
		{2, []api.Event{send(0), take(1, 0), take(1, 0)}}, // one takes it twice
		{2, []api.Event{send(0), send(0), take(1, 1), take(1, 0)}},
		// Only ETake needs Of.
		{1, []api.Event{{Kind: api.EStep, Of: -1}, {Kind: api.ESend, Of: math.MaxInt}, {Kind: api.ESend, Of: 0}}},
	}
	for _, c := range cases {
		compare(t, c.n, c.l)
	}
}

func TestB2Before(t *testing.T) {
	// 0 sends, 1 takes it and sends on, 2 takes that; 0 and 3 go on by themselves.
	l := []api.Event{send(0), step(3), take(1, 0), step(0), send(1), take(2, 4)}
	want := [][2]int{{0, 2}, {0, 3}, {0, 4}, {0, 5}, {2, 4}, {2, 5}, {4, 5}}
	for i := range l {
		for j := range l {
			is, e := Before(4, l, i, j)
			if e != api.OK || is != slices.Contains(want, [2]int{i, j}) {
				t.Error(i, j, is, e)
			}
		}
	}
}

// TestB2OfIsNotRead: Of is looked at in ETake alone, so nothing is taken by others.
func TestB2OfIsNotRead(t *testing.T) {
	l := []api.Event{send(0), {Kind: api.EStep, Who: 1, Of: 0}, {Kind: api.ESend, Who: 2, Of: 0}}
	for j := 1; j < 3; j++ {
		if is, e := Before(3, l, 0, j); e != api.OK || is {
			t.Error(j, is, e)
		}
	}
	if s, _ := Scalars(3, l); !slices.Equal(s, []int{1, 1, 1}) {
		t.Error(s)
	}
}

func TestB2WrongPlace(t *testing.T) {
	l := []api.Event{send(0), take(1, 0)}
	for _, wrong := range []int{-1, 2, math.MinInt, math.MaxInt} {
		for _, p := range [][2]int{{0, wrong}, {wrong, 1}, {wrong, wrong}} {
			if is, e := Before(2, l, p[0], p[1]); e != api.ErrArg || is {
				t.Error(p, is, e)
			}
		}
	}
	if is, e := Before(2, nil, 0, 0); e != api.ErrArg || is {
		t.Error("no event at all", is, e)
	}
}

func TestB3Clocks(t *testing.T) {
	cases := []struct {
		n       int
		l       []api.Event
		scalars []int
		vectors [][]int
	}{
		{2, []api.Event{send(0), take(1, 0)}, []int{1, 2}, [][]int{{1, 0}, {1, 1}}},
		{1, []api.Event{step(0), step(0)}, []int{1, 2}, [][]int{{1}, {2}}},
		{3, []api.Event{step(2)}, []int{1}, [][]int{{0, 0, 1}}},
		{2, nil, nil, nil},
		// The one that takes is further on than the one that sent.
		{2, []api.Event{send(0), step(1), step(1), take(1, 0)}, []int{1, 1, 2, 3}, [][]int{{1, 0}, {0, 1}, {0, 2}, {1, 3}}},
		// What was sent first comes last: it knows less.
		{2, []api.Event{send(0), step(0), send(0), take(1, 2), take(1, 0)}, []int{1, 2, 3, 4, 5}, [][]int{{1, 0}, {2, 0}, {3, 0}, {3, 1}, {3, 2}}},
		// There and back.
		{2, []api.Event{send(0), take(1, 0), send(1), step(0), take(0, 2)}, []int{1, 2, 3, 2, 4}, [][]int{{1, 0}, {1, 1}, {1, 2}, {2, 0}, {3, 2}}},
	}
	for _, c := range cases {
		if s, e := Scalars(c.n, c.l); e != api.OK || !slices.Equal(s, c.scalars) {
			t.Error(c.l, s, e)
		}
		if v, e := Vectors(c.n, c.l); e != api.OK || !slices.EqualFunc(v, c.vectors, slices.Equal[[]int]) {
			t.Error(c.l, v, e)
		}
	}
}

// TestNearest: what is before each event at first hand; who goes through the events may stop early.
func TestNearest(t *testing.T) {
	l := []api.Event{send(0), step(1), take(1, 0), take(0, 0)}
	want := [][]int{nil, nil, {1, 0}, {0, 0}}
	seen := 0
	for i, near := range nearest(l) {
		if i != seen || !slices.Equal(near, want[i]) {
			t.Error(i, near)
		}
		seen++
	}
	if seen != len(l) {
		t.Error(seen)
	}
	for i := range nearest(l) {
		if i == 1 {
			break
		}
	}
}

// TestNothingIsSharedOrChanged: P3.
func TestNothingIsSharedOrChanged(t *testing.T) {
	room := []api.Event{send(0), step(1), take(1, 0), step(1), send(0), {Kind: 9}} // the last two lie behind the length
	before := slices.Clone(room)
	l := room[:4]
	firstScalars, _ := Scalars(2, l)
	firstVectors, _ := Vectors(2, l)
	for range 2 {
		s, e := Scalars(2, l)
		if e != api.OK || !slices.Equal(s, firstScalars) {
			t.Fatal(s, e)
		}
		v, e := Vectors(2, l)
		if e != api.OK || !reflect.DeepEqual(v, firstVectors) {
			t.Fatal(v, e)
		}
		if is, e := Before(2, l, 0, 3); e != api.OK || !is {
			t.Fatal(is, e)
		}
		if !slices.Equal(room, before) {
			t.Fatal("changed", room)
		}
		spoil(s)
		for i, row := range v {
			spoil(row)
			for _, other := range v[i+1:] {
				if other[0] < 0 {
					t.Fatal("two lists share memory", i)
				}
			}
		}
	}
	if e := Check(2, room[:5]); e != api.OK {
		t.Error(e)
	}
	if is, e := Before(2, l, 0, 4); e != api.ErrArg || is {
		t.Error("what lies behind the length was read", is, e)
	}
}

// spoil overwrites a list, also behind its length as far as its memory goes.
func spoil(l []int) {
	l = l[:cap(l)]
	for i := range l {
		l[i] = -1
	}
}
