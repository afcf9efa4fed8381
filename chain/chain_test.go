package chain_test

import (
	"math"
	"slices"
	"testing"

	"corebell/api"
	"corebell/chain"
)

// outcome is all that Serve and Play return.
type outcome struct {
	handlers []api.Handler
	wakes    []int
	tally    api.Tally
	e        api.Errno
}

func served(l []api.Handler, t api.Tally) outcome {
	handlers, wakes, tally, e := chain.Serve(l, t)
	return outcome{handlers, wakes, tally, e}
}

func played(l []api.Handler, times int) outcome {
	handlers, wakes, tally, e := chain.Play(l, times)
	return outcome{handlers, wakes, tally, e}
}

func same(a, b outcome) bool {
	return slices.Equal(a.handlers, b.handlers) && slices.Equal(a.wakes, b.wakes) && a.tally == b.tally && a.e == b.e
}

func copied(o outcome) outcome {
	return outcome{slices.Clone(o.handlers), slices.Clone(o.wakes), o.tally, o.e}
}

// foretold is what n interrupts leave, told at once from the largest Left: as long as that, each of them is wanted, and none is behind it. The tally is valid, and the line is not off.
func foretold(l []api.Handler, t api.Tally, n int) outcome {
	longest := 0
	for _, h := range l {
		longest = max(longest, h.Left)
	}
	alone := 5
	if longest == 0 {
		alone -= t.Nobody
	}
	n = min(n, longest+alone)
	wanted := min(n, longest)
	nobody := n - wanted
	if wanted == 0 {
		nobody += t.Nobody
	}
	out := outcome{tally: api.Tally{Came: t.Came + n, Nobody: nobody, Off: nobody == 5}}
	for _, h := range l {
		out.handlers = append(out.handlers, api.Handler{Says: h.Says, Left: max(0, h.Left-n)})
	}
	for turn := range n {
		for i, h := range l {
			if h.Says == 2 && turn < h.Left {
				out.wakes = append(out.wakes, i)
			}
		}
	}
	return out
}

// right says again, clause by clause, what the chapter asks of handlers.
func right(l []api.Handler) bool {
	for _, h := range l {
		if h.Says < 1 || h.Says > 2 {
			return false
		}
		if h.Left < 0 {
			return false
		}
		if h.Left > 1<<40 {
			return false
		}
	}
	return len(l) < 17
}

func rightTally(t api.Tally) bool {
	if t.Came < 0 || t.Came > 1<<40 {
		return false
	}
	if t.Off {
		return t.Nobody == 5
	}
	return t.Nobody >= 0 && t.Nobody < 5
}

func expectServe(t *testing.T, l []api.Handler, tally api.Tally) {
	t.Helper()
	want := outcome{}
	switch {
	case !right(l) || !rightTally(tally):
		want.e = 1
	case tally.Off:
		want.e = 7
	case tally.Came == 1<<40:
		want.e = 4
	default:
		want = foretold(l, tally, 1)
	}
	if got := served(l, tally); !same(got, want) {
		t.Errorf("Serve(%v, %v) = %v, not %v", l, tally, got, want)
	}
}

func expectPlay(t *testing.T, l []api.Handler, times int) {
	t.Helper()
	want := outcome{}
	switch {
	case !right(l):
		want.e = 1
	case times < 0 || times > 400:
		want.e = 2
	default:
		want = foretold(l, api.Tally{}, times)
	}
	if got := played(l, times); !same(got, want) {
		t.Errorf("Play(%v, %d) = %v, not %v", l, times, got, want)
	}
}

// expectForm: handlers that are not valid come first of all errors.
func expectForm(t *testing.T, l []api.Handler) {
	t.Helper()
	want := outcome{e: api.ErrForm}
	for _, tally := range []api.Tally{{}, {Nobody: 5, Off: true}, {Came: 1 << 40}, {Came: -1}} {
		if got := served(l, tally); !same(got, want) {
			t.Errorf("Serve(%v, %v) = %v", l, tally, got)
		}
	}
	for _, times := range []int{0, 1, 400, -1, 401} {
		if got := played(l, times); !same(got, want) {
			t.Errorf("Play(%v, %d) = %v", l, times, got)
		}
	}
}

// scatter returns a function whose results are below its argument, and the same in each run.
func scatter(seed uint32) func(n int) int {
	return func(n int) int {
		seed = seed*1664525 + 1013904223
		return int(seed>>8) % n
	}
}

// scattered are n valid handlers with at most most left.
func scattered(roll func(int) int, n, most int) []api.Handler {
	l := make([]api.Handler, n)
	for i := range l {
		l[i] = api.Handler{Says: 1 + roll(2), Left: roll(most + 1)}
	}
	return l
}

// numbers are the ends of all ranges, what is beside them, and what a narrower integer would take for something within.
func numbers() []int {
	return []int{
		0, 1, 2, 3, 4, 5, 6, 7, 15, 16, 17, 399, 400, 401, 402, -1, -2, -5, -6, -256, 255, 256, 257, 258, 261, 1 << 16, 1<<16 + 1,
		1<<32 - 1, 1 << 32, 1<<32 + 1, 1<<32 + 2, 1<<32 + 5, 1<<32 + 400, -1 << 32, -1<<32 + 1, -1<<32 + 5, 1<<40 - 1, 1 << 40, 1<<40 + 1,
		1 << 41, -1 << 40, 1<<62 + 1, math.MaxInt - 1, math.MaxInt, math.MinInt, math.MinInt + 1, math.MinInt + 2, math.MinInt + 5,
	}
}

// eachList calls f with all lists of up to most handlers out of kinds, in memory that it uses again.
func eachList(kinds []api.Handler, most int, f func([]api.Handler)) {
	l := make([]api.Handler, 0, most)
	var longer func()
	longer = func() {
		f(l)
		if len(l) == most {
			return
		}
		for _, h := range kinds {
			l = append(l, h)
			longer()
			l = l[:len(l)-1]
		}
	}
	longer()
}

// I1

func TestRightByHand(t *testing.T) {
	for _, c := range []struct {
		l    []api.Handler
		want bool
	}{
		{nil, true},
		{[]api.Handler{}, true},
		{[]api.Handler{{Says: api.Mine}}, true},
		{[]api.Handler{{Says: api.Wake}}, true},
		{[]api.Handler{{Says: api.NotMine}}, false},
		{[]api.Handler{{Says: api.NotMine, Left: 1}}, false},
		{[]api.Handler{{Says: 3, Left: 1}}, false},
		{[]api.Handler{{Says: -1, Left: 1}}, false},
		{[]api.Handler{{Says: api.Mine, Left: -1}}, false},
		{[]api.Handler{{Says: api.Wake, Left: api.MaxTime}}, true},
		{[]api.Handler{{Says: api.Wake, Left: api.MaxTime + 1}}, false},
		{[]api.Handler{{Says: api.Mine, Left: 4}, {Says: api.Mine, Left: 4}}, true},
		{[]api.Handler{{Says: api.Mine, Left: 4}, {Says: api.NotMine}}, false},
		{[]api.Handler{{Left: 4}, {Says: api.Mine, Left: 4}}, false},
		{slices.Repeat([]api.Handler{{Says: api.Mine}}, 16), true},
		{slices.Repeat([]api.Handler{{Says: api.Mine}}, 17), false},
	} {
		if chain.Right(c.l) != c.want || right(c.l) != c.want {
			t.Errorf("Right(%v) = %v", c.l, chain.Right(c.l))
		}
		if !c.want {
			expectForm(t, c.l)
		}
	}
}

func TestRightOfAllLengths(t *testing.T) {
	lengths := []int{255, 256, 257, 272, 65536, 65537, 65552}
	for n := range 70 {
		lengths = append(lengths, n)
	}
	for _, n := range lengths {
		l := slices.Repeat([]api.Handler{{Says: api.Wake, Left: 1}}, n)
		if chain.Right(l) != (n <= 16) {
			t.Errorf("Right of %d handlers is %v", n, chain.Right(l))
		}
		if n > 16 && n < 300 {
			expectForm(t, l)
		}
	}
}

// TestRightOfOneHandlerAmongOthers: each of them is looked at, whatever the others are.
func TestRightOfOneHandlerAmongOthers(t *testing.T) {
	for _, n := range []int{1, 2, 7, 16} {
		for at := range n {
			for _, number := range numbers() {
				for _, h := range []api.Handler{{Says: number, Left: 3}, {Says: number}, {Says: api.Mine, Left: number}, {Says: api.Wake, Left: number}} {
					l := scattered(scatter(uint32(at)), n, 5)
					l[at] = h
					if chain.Right(l) != right(l) {
						t.Errorf("Right(%v) = %v", l, chain.Right(l))
					}
					if !right(l) {
						expectForm(t, l)
					}
				}
			}
		}
	}
}

func TestServeByHand(t *testing.T) {
	type handlers = []api.Handler
	for _, c := range []struct {
		l    handlers
		from api.Tally
		want outcome
	}{
		{nil, api.Tally{}, outcome{tally: api.Tally{Came: 1, Nobody: 1}}},
		{nil, api.Tally{Came: 4, Nobody: 3}, outcome{tally: api.Tally{Came: 5, Nobody: 4}}},
		{nil, api.Tally{Came: 4, Nobody: 4}, outcome{tally: api.Tally{Came: 5, Nobody: 5, Off: true}}},
		// Nobody is not held against Came.
		{nil, api.Tally{Nobody: 4}, outcome{tally: api.Tally{Came: 1, Nobody: 5, Off: true}}},
		{nil, api.Tally{Nobody: 5, Off: true}, outcome{e: api.ErrAgain}},
		{handlers{{Says: 1, Left: 1}}, api.Tally{}, outcome{handlers: handlers{{Says: 1}}, tally: api.Tally{Came: 1}}},
		{handlers{{Says: 2, Left: 1}}, api.Tally{}, outcome{handlers: handlers{{Says: 2}}, wakes: []int{0}, tally: api.Tally{Came: 1}}},
		{handlers{{Says: 2}}, api.Tally{}, outcome{handlers: handlers{{Says: 2}}, tally: api.Tally{Came: 1, Nobody: 1}}},
		{handlers{{Says: 1}, {Says: 2}}, api.Tally{Came: 9, Nobody: 4}, outcome{handlers: handlers{{Says: 1}, {Says: 2}}, tally: api.Tally{Came: 10, Nobody: 5, Off: true}}},
		// One that wants it keeps the line on, and all others are called nevertheless.
		{handlers{{Says: 1, Left: 3}, {Says: 2}, {Says: 2, Left: 9}}, api.Tally{Came: 9, Nobody: 4}, outcome{handlers: handlers{{Says: 1, Left: 2}, {Says: 2}, {Says: 2, Left: 8}}, wakes: []int{2}, tally: api.Tally{Came: 10}}},
		{handlers{{Says: 2, Left: 1}, {Says: 1, Left: 1}, {Says: 2, Left: 2}, {Says: 2, Left: 3}}, api.Tally{Came: 1}, outcome{handlers: handlers{{Says: 2}, {Says: 1}, {Says: 2, Left: 1}, {Says: 2, Left: 2}}, wakes: []int{0, 2, 3}, tally: api.Tally{Came: 2}}},
		{handlers{{Says: 2, Left: 1}}, api.Tally{Came: api.MaxTime - 1}, outcome{handlers: handlers{{Says: 2}}, wakes: []int{0}, tally: api.Tally{Came: api.MaxTime}}},
		{handlers{{Says: 2, Left: 1}}, api.Tally{Came: api.MaxTime}, outcome{e: api.ErrFull}},
		{handlers{{Says: 2, Left: 1}}, api.Tally{Came: 5, Nobody: 5, Off: true}, outcome{e: api.ErrAgain}},
		{handlers{{Says: 2, Left: 1}}, api.Tally{Came: api.MaxTime + 1}, outcome{e: api.ErrForm}},
		{handlers{{Says: 2, Left: 1}}, api.Tally{Came: -1}, outcome{e: api.ErrForm}},
		{handlers{{Says: 2, Left: 1}}, api.Tally{Nobody: -1}, outcome{e: api.ErrForm}},
		{handlers{{Says: 2, Left: 1}}, api.Tally{Nobody: 6}, outcome{e: api.ErrForm}},
		{handlers{{Says: 2, Left: 1}}, api.Tally{Nobody: 6, Off: true}, outcome{e: api.ErrForm}},
		{handlers{{Says: 2, Left: 1}}, api.Tally{Nobody: 5}, outcome{e: api.ErrForm}},
		{handlers{{Says: 2, Left: 1}}, api.Tally{Nobody: 4, Off: true}, outcome{e: api.ErrForm}},
		{handlers{{Says: 2, Left: 1}}, api.Tally{Off: true}, outcome{e: api.ErrForm}},
	} {
		if got := served(c.l, c.from); !same(got, c.want) {
			t.Errorf("Serve(%v, %v) = %v, not %v", c.l, c.from, got, c.want)
		}
		expectServe(t, c.l, c.from)
	}
}

// TestServeOfAllSmall looks at all lists of up to three handlers, and all small tallies.
func TestServeOfAllSmall(t *testing.T) {
	var kinds []api.Handler
	for says := -1; says <= 3; says++ {
		for left := -1; left <= 2; left++ {
			kinds = append(kinds, api.Handler{Says: says, Left: left})
		}
	}
	var tallies []api.Tally
	for _, came := range []int{-1, 0, 1, 1<<40 - 1, 1 << 40, 1<<40 + 1} {
		for nobody := -1; nobody <= 6; nobody++ {
			tallies = append(tallies, api.Tally{Came: came, Nobody: nobody}, api.Tally{Came: came, Nobody: nobody, Off: true})
		}
	}
	eachList(kinds, 3, func(l []api.Handler) {
		if chain.Right(l) != right(l) {
			t.Errorf("Right(%v) = %v", l, chain.Right(l))
		}
		for _, tally := range tallies {
			if len(l) < 3 || right(l) && rightTally(tally) {
				expectServe(t, l, tally)
			}
		}
	})
}

func TestServeOfFarNumbers(t *testing.T) {
	lists := [][]api.Handler{nil, {{Says: 1}}, {{Says: 2, Left: 3}}, {{Says: 2, Left: 1 << 40}, {Says: 1, Left: 1<<40 - 1}}, {{Says: 2, Left: 1 << 32}}, {{Says: 0}}}
	for _, n := range numbers() {
		for _, l := range lists {
			for _, m := range []int{0, 4, 5, n} {
				expectServe(t, l, api.Tally{Came: n, Nobody: m})
				expectServe(t, l, api.Tally{Came: m, Nobody: n})
				expectServe(t, l, api.Tally{Came: n, Nobody: m, Off: true})
				expectServe(t, l, api.Tally{Came: m, Nobody: n, Off: true})
			}
		}
		expectServe(t, []api.Handler{{Says: 2, Left: n}, {Says: 1}}, api.Tally{Came: 3})
		expectServe(t, []api.Handler{{Says: n, Left: 1}, {Says: 1}}, api.Tally{Came: 3})
	}
}

func TestServeOfManyHandlers(t *testing.T) {
	for seed := range uint32(2000) {
		roll := scatter(seed)
		l := scattered(roll, roll(17), roll(4))
		expectServe(t, l, api.Tally{Came: roll(1000), Nobody: roll(5)})
	}
}

// TestOneHandlerOfMany: each one is heard, at whatever place, and has its own number.
func TestOneHandlerOfMany(t *testing.T) {
	for n := 1; n <= 16; n++ {
		for at := range n {
			for says := api.Mine; says <= api.Wake; says++ {
				l := slices.Repeat([]api.Handler{{Says: api.Wake}}, n)
				l[at] = api.Handler{Says: says, Left: 1}
				want := outcome{handlers: slices.Clone(l), tally: api.Tally{Came: 8}}
				want.handlers[at].Left = 0
				if says == api.Wake {
					want.wakes = []int{at}
				}
				if got := served(l, api.Tally{Came: 7, Nobody: 4}); !same(got, want) {
					t.Errorf("Serve(%v) = %v, not %v", l, got, want)
				}
			}
		}
	}
}

// TestOrderOfErrorsOfServe: each row has two errors or three, of which the first in the chapter's order is told.
func TestOrderOfErrorsOfServe(t *testing.T) {
	wrong, fine := []api.Handler{{Says: 3}}, []api.Handler{{Says: 1, Left: 2}}
	for _, c := range []struct {
		l     []api.Handler
		tally api.Tally
		want  api.Errno
	}{
		{wrong, api.Tally{Nobody: 5, Off: true}, api.ErrForm},
		{wrong, api.Tally{Came: api.MaxTime}, api.ErrForm},
		{wrong, api.Tally{Came: api.MaxTime, Nobody: 5, Off: true}, api.ErrForm},
		{fine, api.Tally{Came: -1, Nobody: 5, Off: true}, api.ErrForm},
		{fine, api.Tally{Came: api.MaxTime + 1, Nobody: 5, Off: true}, api.ErrForm},
		{fine, api.Tally{Came: api.MaxTime, Nobody: 5}, api.ErrForm},
		{fine, api.Tally{Came: api.MaxTime, Off: true}, api.ErrForm},
		{fine, api.Tally{Came: api.MaxTime, Nobody: -1}, api.ErrForm},
		{fine, api.Tally{Nobody: 6, Off: true}, api.ErrForm},
		{fine, api.Tally{Came: api.MaxTime, Nobody: 5, Off: true}, api.ErrAgain},
		{nil, api.Tally{Came: api.MaxTime, Nobody: 5, Off: true}, api.ErrAgain},
	} {
		if got := served(c.l, c.tally); !same(got, outcome{e: c.want}) {
			t.Errorf("Serve(%v, %v) = %v, not only %d", c.l, c.tally, got, c.want)
		}
	}
}

// I2

func TestPlayByHand(t *testing.T) {
	type handlers = []api.Handler
	for _, c := range []struct {
		l     handlers
		times int
		want  outcome
	}{
		{nil, 0, outcome{}},
		{nil, 4, outcome{tally: api.Tally{Came: 4, Nobody: 4}}},
		// The chapter's example: behind MaxNobody interrupts that nobody wants the line is off.
		{nil, api.MaxNobody, outcome{tally: api.Tally{Came: 5, Nobody: 5, Off: true}}},
		{nil, api.MaxNobody + 1, outcome{tally: api.Tally{Came: 5, Nobody: 5, Off: true}}},
		{nil, api.MaxOps, outcome{tally: api.Tally{Came: 5, Nobody: 5, Off: true}}},
		{handlers{{Says: 2}}, 9, outcome{handlers: handlers{{Says: 2}}, tally: api.Tally{Came: 5, Nobody: 5, Off: true}}},
		{handlers{{Says: 2, Left: 3}}, 0, outcome{handlers: handlers{{Says: 2, Left: 3}}}},
		{handlers{{Says: 2, Left: 3}}, 2, outcome{handlers: handlers{{Says: 2, Left: 1}}, wakes: []int{0, 0}, tally: api.Tally{Came: 2}}},
		{handlers{{Says: 2, Left: 3}}, 7, outcome{handlers: handlers{{Says: 2}}, wakes: []int{0, 0, 0}, tally: api.Tally{Came: 7, Nobody: 4}}},
		{handlers{{Says: 2, Left: 3}}, 8, outcome{handlers: handlers{{Says: 2}}, wakes: []int{0, 0, 0}, tally: api.Tally{Came: 8, Nobody: 5, Off: true}}},
		{handlers{{Says: 2, Left: 3}}, 9, outcome{handlers: handlers{{Says: 2}}, wakes: []int{0, 0, 0}, tally: api.Tally{Came: 8, Nobody: 5, Off: true}}},
		{handlers{{Says: 1, Left: 2}, {Says: 2, Left: 1}, {Says: 2, Left: 4}}, 4, outcome{handlers: handlers{{Says: 1}, {Says: 2}, {Says: 2}}, wakes: []int{1, 2, 2, 2, 2}, tally: api.Tally{Came: 4}}},
		{handlers{{Says: 1, Left: 2}}, -1, outcome{e: api.ErrRange}},
		{handlers{{Says: 1, Left: 2}}, 401, outcome{e: api.ErrRange}},
		{handlers{{Says: 3, Left: 2}}, 401, outcome{e: api.ErrForm}},
		{handlers{{Says: 3, Left: 2}}, 0, outcome{e: api.ErrForm}},
	} {
		if got := played(c.l, c.times); !same(got, c.want) {
			t.Errorf("Play(%v, %d) = %v, not %v", c.l, c.times, got, c.want)
		}
		expectPlay(t, c.l, c.times)
	}
}

// TestPlayOfAllSmall looks at all lists of up to three handlers, among them some that are not valid.
func TestPlayOfAllSmall(t *testing.T) {
	kinds := []api.Handler{{Says: 0, Left: 1}, {Says: 3}, {Says: 1, Left: -1}}
	for left := range 6 {
		kinds = append(kinds, api.Handler{Says: 1, Left: left}, api.Handler{Says: 2, Left: left})
	}
	eachList(kinds, 3, func(l []api.Handler) {
		for times := -1; times <= 12; times++ {
			expectPlay(t, l, times)
		}
	})
}

func TestPlayOfFarTimes(t *testing.T) {
	for _, l := range [][]api.Handler{nil, {{Says: 1}}, {{Says: 2, Left: 9}}, {{Says: 1, Left: 1 << 40}, {Says: 2, Left: 396}}, {{Says: 2, Left: -1}}} {
		for _, times := range numbers() {
			expectPlay(t, l, times)
		}
	}
}

func TestPlayOfAllTimes(t *testing.T) {
	for seed := range uint32(5) {
		roll := scatter(seed)
		l := scattered(roll, 16, 500)
		for times := range 401 {
			expectPlay(t, l, times)
		}
	}
	for _, left := range []int{393, 394, 395, 396, 399, 400, 401} {
		expectPlay(t, []api.Handler{{Says: 2}, {Says: 1, Left: left}}, 400)
	}
}

// TestPlayInSequence: what Play does is what Serve does, so many times, or until an error.
func TestPlayInSequence(t *testing.T) {
	for seed := range uint32(60) {
		roll := scatter(seed)
		l := scattered(roll, int(seed)%17, 1+roll(60))
		now := outcome{handlers: l}
		for times := range 80 {
			if got := played(l, times); !same(got, now) {
				t.Fatalf("Play(%v, %d) = %v, and Serve leads to %v", l, times, got, now)
			}
			next := served(now.handlers, now.tally)
			if next.e != api.OK {
				if next.e != api.ErrAgain || !now.tally.Off {
					t.Fatalf("Serve of %v: %d", now, next.e)
				}
				continue
			}
			if !chain.Right(next.handlers) {
				t.Fatalf("Serve(%v, %v) = %v", now.handlers, now.tally, next)
			}
			now = outcome{next.handlers, slices.Concat(now.wakes, next.wakes), next.tally, api.OK}
		}
	}
}

// TestEveryReportIsHeard: until the line is off, each handler has reported as often as it could.
func TestEveryReportIsHeard(t *testing.T) {
	for seed := range uint32(200) {
		roll := scatter(seed)
		l := scattered(roll, roll(17), 300)
		got := played(l, 400)
		if !got.tally.Off {
			t.Fatalf("Play(%v) ends with %v", l, got.tally)
		}
		count := make([]int, len(l))
		for _, i := range got.wakes {
			count[i]++
		}
		for i, h := range l {
			if h.Says == api.Mine {
				h.Left = 0
			}
			if count[i] != h.Left || got.handlers[i].Left != 0 {
				t.Errorf("handler %d of %v woke %d times, and has %d left", i, l, count[i], got.handlers[i].Left)
			}
		}
	}
}

// Z1

func TestNothingIsKept(t *testing.T) {
	l := scattered(scatter(3), 16, 40)
	play, serve := played(l, 60), served(l, api.Tally{Came: 2, Nobody: 4})
	played(scattered(scatter(4), 9, 3), 400)
	served(nil, api.Tally{Nobody: 4})
	if again := played(l, 60); !same(play, again) {
		t.Errorf("Play = %v, and then %v", play, again)
	}
	if again := served(l, api.Tally{Came: 2, Nobody: 4}); !same(serve, again) {
		t.Errorf("Serve = %v, and then %v", serve, again)
	}
}

// Z2

// expectApart: call changes neither the handlers nor what is behind them, its result does not depend on the latter, and it shares no memory with them or with another result.
func expectApart(t *testing.T, call func([]api.Handler) outcome) {
	t.Helper()
	for n := range 17 {
		room := scattered(scatter(uint32(n)), n+3, 5)
		whole := slices.Clone(room)
		got := call(room[:n])
		kept := copied(got)
		if !slices.Equal(room, whole) {
			t.Fatalf("%d handlers, or what is behind them, have changed", n)
		}
		clear(room[n:])
		again := call(room[:n])
		if !same(got, again) {
			t.Fatalf("what is behind %d handlers matters", n)
		}
		clear(room)
		clear(again.handlers[:cap(again.handlers)])
		clear(again.wakes[:cap(again.wakes)])
		if !same(got, kept) {
			t.Fatalf("the result for %d handlers is in other memory, too", n)
		}
		copy(room, whole)
		clear(got.handlers[:cap(got.handlers)])
		clear(got.wakes[:cap(got.wakes)])
		if !slices.Equal(room, whole) {
			t.Fatalf("the %d handlers are in the result", n)
		}
	}
}

func TestRightLeavesItsArgument(t *testing.T) {
	room := append(scattered(scatter(1), 16, 5), api.Handler{Says: 9}, api.Handler{Left: -1})
	whole := slices.Clone(room)
	for n := range 17 {
		if !chain.Right(room[:n]) || !slices.Equal(room, whole) {
			t.Errorf("Right of %d handlers is false, or changes them", n)
		}
	}
}

func TestServeLeavesItsArgument(t *testing.T) {
	for nobody := range 5 {
		expectApart(t, func(l []api.Handler) outcome { return served(l, api.Tally{Came: 6, Nobody: nobody}) })
	}
}

func TestPlayLeavesItsArgument(t *testing.T) {
	for _, times := range []int{0, 1, 2, 5, 9, 30} {
		expectApart(t, func(l []api.Handler) outcome { return played(l, times) })
	}
}

// Z3

func TestNilAndEmpty(t *testing.T) {
	if !chain.Right(nil) || !chain.Right([]api.Handler{}) {
		t.Errorf("no handlers are not valid")
	}
	for _, n := range numbers() {
		for _, tally := range []api.Tally{{Came: n}, {Nobody: n}, {Nobody: n, Off: true}} {
			if a, b := served(nil, tally), served([]api.Handler{}, tally); !same(a, b) {
				t.Errorf("Serve of nobody, %v: %v, or %v", tally, a, b)
			}
		}
		if a, b := played(nil, n), played([]api.Handler{}, n); !same(a, b) {
			t.Errorf("Play of nobody, %d times: %v, or %v", n, a, b)
		}
	}
}
