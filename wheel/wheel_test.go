package wheel_test

import (
	"cmp"
	"math"
	"slices"
	"testing"

	"corebell/api"
	"corebell/wheel"
)

// outcome is all that Play returns.
type outcome struct {
	errs  []api.Errno
	fired []api.Fired
	set   int
	e     api.Errno
}

func played(ops []api.TimerOp) outcome {
	errs, fired, set, e := wheel.Play(ops)
	return outcome{errs, fired, set, e}
}

func same(a, b outcome) bool {
	return slices.Equal(a.errs, b.errs) && slices.Equal(a.fired, b.fired) && a.set == b.set && a.e == b.e
}

func add(id, ticks int) api.TimerOp { return api.TimerOp{Kind: api.TimerAdd, Id: id, Ticks: ticks} }

func cancel(id int) api.TimerOp { return api.TimerOp{Kind: api.TimerCancel, Id: id} }

func tick(ticks int) api.TimerOp { return api.TimerOp{Kind: api.TimerTick, Ticks: ticks} }

// foretold has no timers: what each operation finds, and what comes of it, is told from the operations before it and behind it.
func foretold(ops []api.TimerOp) outcome {
	if len(ops) > 400 {
		return outcome{e: 2}
	}
	var o outcome
	var clocks []int // of each operation, ahead of it
	now := 0
	for i, op := range ops {
		clocks = append(clocks, now)
		o.errs = append(o.errs, wrong(op, isSet(ops[:i], o.errs, clocks, op.Id)))
		if op.Kind == 3 && o.errs[i] == 0 {
			now += op.Ticks
		}
	}
	for i, op := range ops {
		if op.Kind != 1 || o.errs[i] != 0 || isCancelled(ops, o.errs, i) {
			continue
		}
		if at := clocks[i] + op.Ticks; at <= now {
			o.fired = append(o.fired, api.Fired{At: at, Id: op.Id})
		} else {
			o.set++
		}
	}
	slices.SortFunc(o.fired, func(a, b api.Fired) int { return cmp.Or(cmp.Compare(a.At, b.At), cmp.Compare(a.Id, b.Id)) })
	return o
}

// isSet looks back, at what was done about the timer last.
func isSet(before []api.TimerOp, errs []api.Errno, clocks []int, id int) bool {
	for i := len(before) - 1; i >= 0; i-- {
		if errs[i] != 0 || before[i].Id != id || before[i].Kind == 3 {
			continue
		}
		return before[i].Kind == 1 && clocks[i]+before[i].Ticks > clocks[len(before)]
	}
	return false
}

// isCancelled looks ahead, at what is done next about the timer that operation i sets.
func isCancelled(ops []api.TimerOp, errs []api.Errno, i int) bool {
	for j := i + 1; j < len(ops); j++ {
		if errs[j] == 0 && ops[j].Id == ops[i].Id && ops[j].Kind != 3 {
			return ops[j].Kind == 2
		}
	}
	return false
}

func wrong(op api.TimerOp, set bool) api.Errno {
	switch {
	case op.Kind < 1 || op.Kind > 3:
		return 5
	case op.Kind == 1 && (op.Ticks < 1 || op.Ticks > 511):
		return 2
	case op.Kind == 1 && set:
		return 6
	case op.Kind == 2 && !set:
		return 3
	case op.Kind == 3 && (op.Ticks < 0 || op.Ticks > 2000):
		return 2
	}
	return 0
}

func expect(t *testing.T, ops []api.TimerOp) {
	t.Helper()
	want := foretold(ops)
	if got := played(ops); !same(got, want) {
		t.Errorf("Play(%v) = %v, not %v", ops, got, want)
	}
}

// scatter returns a function whose results are below its argument, and the same in each run.
func scatter(seed uint32) func(n int) int {
	return func(n int) int {
		seed = seed*1664525 + 1013904223
		return int(seed>>8) % n
	}
}

// scattered are n operations about timers 0 to ids - 1, few of them with an error; the clock goes on by at most stride at once.
func scattered(roll func(int) int, n, ids, stride int) []api.TimerOp {
	ops := make([]api.TimerOp, n)
	for i := range ops {
		id := roll(ids)
		switch roll(8) {
		case 0, 1, 2, 3:
			ops[i] = add(id, 1+roll(511))
		case 4:
			ops[i] = cancel(id)
		case 5, 6:
			ops[i] = tick(roll(stride + 1))
		default:
			ops[i] = api.TimerOp{Kind: roll(5), Id: id, Ticks: roll(2100) - 40}
		}
	}
	return ops
}

// numbers are the ends of all ranges, what is beside them, and what a narrower integer would take for something within.
func numbers() []int {
	return []int{
		0, 1, 2, 3, 4, 5, 7, 8, 9, 63, 64, 65, 255, 256, 257, 259, 399, 400, 401, 510, 511, 512, 513, 1999, 2000, 2001, 2002,
		-1, -2, -3, -8, -64, -255, -256, -511, -512, -2000, 1 << 16, 1<<16 + 1, 1<<16 + 2, 1<<16 + 3, 1<<16 + 511,
		1<<32 - 1, 1 << 32, 1<<32 + 1, 1<<32 + 2, 1<<32 + 3, 1<<32 + 9, 1<<32 + 511, 1<<32 + 2000, -1 << 32, -1<<32 + 1, -1<<32 + 2, -1<<32 + 3, -1<<32 + 9,
		1 << 40, 1<<40 + 1, -1 << 40, 1<<62 + 1, math.MaxInt - 1, math.MaxInt, math.MinInt, math.MinInt + 1, math.MinInt + 2, math.MinInt + 3, math.MinInt + 9,
	}
}

// eachList calls f with all lists of up to most elements out of kinds, in memory that it uses again.
func eachList[T any](kinds []T, most int, f func([]T)) {
	l := make([]T, 0, most)
	var longer func()
	longer = func() {
		f(l)
		if len(l) == most {
			return
		}
		for _, k := range kinds {
			l = append(l, k)
			longer()
			l = l[:len(l)-1]
		}
	}
	longer()
}

// K1

func TestPlayByHand(t *testing.T) {
	type ops = []api.TimerOp
	type errs = []api.Errno
	type fired = []api.Fired
	for _, c := range []struct {
		ops  ops
		want outcome
	}{
		{nil, outcome{}},
		{ops{add(7, 5)}, outcome{errs: errs{0}, set: 1}},
		{ops{add(7, 5), tick(4)}, outcome{errs: errs{0, 0}, set: 1}},
		{ops{add(7, 5), tick(5)}, outcome{errs: errs{0, 0}, fired: fired{{At: 5, Id: 7}}}},
		{ops{add(7, 5), tick(6)}, outcome{errs: errs{0, 0}, fired: fired{{At: 5, Id: 7}}}},
		{ops{add(7, 5), tick(4), tick(0), tick(1), tick(1)}, outcome{errs: errs{0, 0, 0, 0, 0}, fired: fired{{At: 5, Id: 7}}}},
		{ops{tick(3), add(7, 5), tick(5)}, outcome{errs: errs{0, 0, 0}, fired: fired{{At: 8, Id: 7}}}},
		{ops{tick(2000), tick(2000), add(7, 511), tick(2000)}, outcome{errs: errs{0, 0, 0, 0}, fired: fired{{At: 4511, Id: 7}}}},
		// By ticks, and then by Ids, in whatever order they were set.
		{ops{add(1, 9), add(2, 3), tick(9)}, outcome{errs: errs{0, 0, 0}, fired: fired{{At: 3, Id: 2}, {At: 9, Id: 1}}}},
		{ops{add(2, 3), add(1, 3), add(-1, 3), tick(9)}, outcome{errs: errs{0, 0, 0, 0}, fired: fired{{At: 3, Id: -1}, {At: 3, Id: 1}, {At: 3, Id: 2}}}},
		{ops{add(2, 8), tick(5), add(1, 3), tick(3)}, outcome{errs: errs{0, 0, 0, 0}, fired: fired{{At: 8, Id: 1}, {At: 8, Id: 2}}}},
		{ops{add(1, 8), tick(5), add(2, 3), tick(3)}, outcome{errs: errs{0, 0, 0, 0}, fired: fired{{At: 8, Id: 1}, {At: 8, Id: 2}}}},
		// A timer is set until it fires or is removed; then it may be set again.
		{ops{add(7, 5), add(7, 2), tick(5)}, outcome{errs: errs{0, 6, 0}, fired: fired{{At: 5, Id: 7}}}},
		{ops{add(7, 5), tick(4), add(7, 2), tick(1), add(7, 2)}, outcome{errs: errs{0, 0, 6, 0, 0}, fired: fired{{At: 5, Id: 7}}, set: 1}},
		{ops{add(7, 5), tick(5), add(7, 5), tick(5)}, outcome{errs: errs{0, 0, 0, 0}, fired: fired{{At: 5, Id: 7}, {At: 10, Id: 7}}}},
		{ops{cancel(7)}, outcome{errs: errs{3}}},
		{ops{add(7, 5), cancel(7), tick(5)}, outcome{errs: errs{0, 0, 0}}},
		{ops{add(7, 5), cancel(7), cancel(7)}, outcome{errs: errs{0, 0, 3}}},
		{ops{add(7, 5), cancel(6), tick(4), cancel(7), tick(9)}, outcome{errs: errs{0, 3, 0, 0, 0}}},
		{ops{add(7, 5), tick(5), cancel(7)}, outcome{errs: errs{0, 0, 3}, fired: fired{{At: 5, Id: 7}}}},
		{ops{add(7, 5), cancel(7), add(7, 2), tick(5)}, outcome{errs: errs{0, 0, 0, 0}, fired: fired{{At: 2, Id: 7}}}},
		{ops{add(6, 5), add(7, 5), add(8, 5), cancel(7), tick(5)}, outcome{errs: errs{0, 0, 0, 0, 0}, fired: fired{{At: 5, Id: 6}, {At: 5, Id: 8}}}},
		{ops{add(7, 1), add(8, 511), tick(0)}, outcome{errs: errs{0, 0, 0}, set: 2}},
		{ops{add(7, 0), add(7, -1), add(7, 512), tick(-1), tick(2001), tick(2000)}, outcome{errs: errs{2, 2, 2, 2, 2, 0}}},
		{ops{{}, {Kind: 4}, {Kind: -1}, {Kind: 4, Id: 7, Ticks: 5}, tick(5)}, outcome{errs: errs{5, 5, 5, 5, 0}}},
		// What a kind does not use is ignored.
		{ops{add(7, 5), {Kind: 2, Id: 7, Ticks: -1}, tick(5)}, outcome{errs: errs{0, 0, 0}}},
		{ops{add(7, 5), {Kind: 3, Id: 7, Ticks: 4}, {Kind: 3, Id: 8, Ticks: 1}}, outcome{errs: errs{0, 0, 0}, fired: fired{{At: 5, Id: 7}}}},
	} {
		if got := played(c.ops); !same(got, c.want) {
			t.Errorf("Play(%v) = %v, not %v", c.ops, got, c.want)
		}
		expect(t, c.ops)
	}
}

// TestPlayOfAllSmall looks at all short runs about two timers.
func TestPlayOfAllSmall(t *testing.T) {
	kinds := []api.TimerOp{add(1, 1), add(1, 2), add(2, 1), add(2, 3), cancel(1), cancel(2), tick(0), tick(1), tick(2)}
	eachList(kinds, 5, func(ops []api.TimerOp) { expect(t, ops) })
}

// TestEveryDistance: from wherever the clock is, a timer fires exactly as many ticks later as it says.
func TestEveryDistance(t *testing.T) {
	for _, start := range []int{0, 1, 7, 8, 63, 64, 65, 255, 256, 448, 510, 511, 512, 513, 1023, 1024, 1535, 1999, 2000} {
		for ticks := 1; ticks <= 511; ticks++ {
			early := played([]api.TimerOp{tick(start), add(9, ticks), tick(ticks - 1)})
			if len(early.fired) != 0 || early.set != 1 {
				t.Fatalf("of %d ticks from %d on, one is missing: %v", ticks, start, early)
			}
			want := outcome{errs: make([]api.Errno, 4), fired: []api.Fired{{At: start + ticks, Id: 9}}}
			if got := played([]api.TimerOp{tick(start), add(9, ticks), tick(ticks - 1), tick(1)}); !same(got, want) {
				t.Fatalf("%d ticks from %d on: %v, not %v", ticks, start, got, want)
			}
			if got := played([]api.TimerOp{tick(start), add(9, ticks), tick(2000), tick(0)}); !same(got, want) {
				t.Fatalf("%d ticks from %d on, with 2000 at once: %v, not %v", ticks, start, got, want)
			}
		}
	}
}

// TestTicksAtBothEnds: all numbers of ticks around both ends of their ranges.
func TestTicksAtBothEnds(t *testing.T) {
	for ticks := -600; ticks <= 2600; ticks++ {
		expect(t, []api.TimerOp{add(3, ticks), tick(2000)})
		expect(t, []api.TimerOp{add(3, 200), add(4, 511), tick(ticks), tick(1)})
	}
}

// TestEveryTickHasItsTimer: timers for 390 ticks in a row, of which each fires by itself.
func TestEveryTickHasItsTimer(t *testing.T) {
	for _, first := range []int{1, 60, 122} {
		var ops []api.TimerOp
		var want []api.Fired
		for i := range 390 {
			ops = append(ops, add(1000-i, first+i))
			want = append(want, api.Fired{At: first + i, Id: 1000 - i})
		}
		expect(t, append(ops, tick(first-1), tick(1), tick(188), tick(1)))
		if got := played(append(ops, tick(600))); !slices.Equal(got.fired, want) || got.set != 0 {
			t.Errorf("from %d on: %v, not %v", first, got, want)
		}
	}
}

// TestEachIdOfAll: all Ids are allowed, none is another one, and they are sorted as the numbers that they are.
func TestEachIdOfAll(t *testing.T) {
	ids := numbers()
	var ops []api.TimerOp
	for _, id := range ids {
		expect(t, []api.TimerOp{add(id, 3), cancel(id), add(id, 4), tick(3), add(id, 1), tick(1), cancel(id)})
		ops = append(ops, add(id, 30))
		for _, other := range ids {
			expect(t, []api.TimerOp{add(id, 3), add(other, 3), tick(2), cancel(other), tick(1)})
			expect(t, []api.TimerOp{add(id, 3), cancel(other), add(other, 5), tick(3), cancel(id), tick(4)})
		}
	}
	got := played(append(ops, tick(30)))
	slices.Sort(ids)
	for i, id := range ids {
		if got.fired[i] != (api.Fired{At: 30, Id: id}) {
			t.Errorf("%v fires as number %d, not %d", got.fired[i], i, id)
		}
	}
}

// TestFarNumbers: kinds, Ids and ticks far away from all ranges.
func TestFarNumbers(t *testing.T) {
	for _, a := range numbers() {
		for kind := -1; kind <= 5; kind++ {
			expect(t, []api.TimerOp{add(9, 5), {Kind: kind, Id: 9, Ticks: a}, {Kind: kind, Id: 3, Ticks: a}, tick(6)})
		}
		for _, b := range numbers() {
			expect(t, []api.TimerOp{{Kind: a, Id: 9, Ticks: b}, add(9, 5), {Kind: a, Id: 9, Ticks: b}, {Kind: a, Id: b, Ticks: 9}, tick(20)})
		}
	}
}

// TestEqualTicks: timers of one tick fire in the order of their Ids, whatever order they are set in, and whichever one is removed.
func TestEqualTicks(t *testing.T) {
	ids := []int{-4, 0, 2, 1 << 33, 7}
	eachList(ids, 5, func(order []int) {
		if len(order) < 5 {
			return
		}
		var ops []api.TimerOp
		for i, id := range order {
			ops = append(ops, add(id, 20-i), tick(1))
		}
		expect(t, append(ops, tick(20)))
		expect(t, append(ops, cancel(order[2]), tick(20)))
	})
}

// TestOneTickForAll: as many timers as there may be, all of them at one tick.
func TestOneTickForAll(t *testing.T) {
	for _, step := range []int{1, 8, 100, 398} {
		var ops []api.TimerOp
		var want []api.Fired
		for i := range 399 {
			ops = append(ops, add(i*step%399, 511))
			want = append(want, api.Fired{At: 511, Id: i})
		}
		if got := played(append(ops, tick(511))); !slices.Equal(got.fired, want) || got.set != 0 || got.e != api.OK {
			t.Errorf("step %d: %v", step, got)
		}
		if got := played(append(ops, tick(510))); len(got.fired) != 0 || got.set != 399 {
			t.Errorf("step %d, a tick too early: %v", step, got)
		}
		expect(t, append(ops, add(-1, 511)))
	}
}

// TestSetAgainAtOnce: one timer that is always set, and fires at each tick that it says, up to the last one that can be reached.
func TestSetAgainAtOnce(t *testing.T) {
	for _, ticks := range []int{1, 2, 8, 64, 510, 511} {
		for _, more := range []int{0, 1, 511, 2000 - ticks} {
			var ops []api.TimerOp
			var want []api.Fired
			for i := range 200 {
				ops = append(ops, add(5, ticks), tick(ticks+more))
				want = append(want, api.Fired{At: i*(ticks+more) + ticks, Id: 5})
			}
			if got := played(ops); !slices.Equal(got.fired, want) || got.set != 0 {
				t.Errorf("%d ticks, and %d more: %v, not %v", ticks, more, got, want)
			}
		}
	}
}

// TestLastTick: no timer fires later than one that is set as late as may be, for as far as may be.
func TestLastTick(t *testing.T) {
	ops := append(slices.Repeat([]api.TimerOp{tick(2000)}, 398), add(1, 511))
	want := outcome{errs: make([]api.Errno, 400), fired: []api.Fired{{At: 398*2000 + 511, Id: 1}}}
	if got := played(append(ops, tick(2000))); !same(got, want) {
		t.Errorf("at the last tick: %v, not %v", got, want)
	}
}

func TestLongRuns(t *testing.T) {
	for seed := range uint32(1000) {
		roll := scatter(seed)
		for _, stride := range []int{3, 40, 700, 2000} {
			expect(t, scattered(roll, 1+roll(400), 1+roll(300), stride))
		}
	}
}

// TestTicksByOne: a clock that goes on by one tick at a time ends as one that goes on at once.
func TestTicksByOne(t *testing.T) {
	for seed := range uint32(500) {
		roll := scatter(seed)
		ops := scattered(roll, 60, 20, 5)
		var single []api.TimerOp
		for _, o := range ops {
			if o.Kind == api.TimerTick && o.Ticks >= 0 && o.Ticks <= 5 {
				single = append(single, slices.Repeat([]api.TimerOp{tick(1)}, o.Ticks)...)
			} else {
				single = append(single, o)
			}
		}
		a, b := played(ops), played(single)
		if !slices.Equal(a.fired, b.fired) || a.set != b.set || a.e != api.OK || b.e != api.OK {
			t.Errorf("Play(%v) = %v, and by one tick %v", ops, a, b)
		}
	}
}

// TestErrorsHaveNoEffect: without the operations that have an error, all is the same.
func TestErrorsHaveNoEffect(t *testing.T) {
	for seed := range uint32(500) {
		roll := scatter(seed)
		ops := scattered(roll, 200, 9, 50)
		got := played(ops)
		var kept []api.TimerOp
		for i, e := range got.errs {
			if e == api.OK {
				kept = append(kept, ops[i])
			}
		}
		want := outcome{errs: make([]api.Errno, len(kept)), fired: got.fired, set: got.set}
		if again := played(kept); !same(again, want) || len(kept) == len(ops) {
			t.Errorf("Play(%v) = %v, not %v", kept, again, want)
		}
	}
}

// TestNoTimerIsLost: each timer that was set has fired, was removed, or is still set.
func TestNoTimerIsLost(t *testing.T) {
	for seed := range uint32(500) {
		roll := scatter(seed)
		ops := scattered(roll, 400, 50, 60)
		got := played(ops)
		left := 0
		for i, o := range ops {
			if got.errs[i] == api.OK && o.Kind == api.TimerAdd {
				left++
			}
			if got.errs[i] == api.OK && o.Kind == api.TimerCancel {
				left--
			}
		}
		if left != len(got.fired)+got.set {
			t.Errorf("Play(%v) = %v: %d were set and not removed", ops, got, left)
		}
	}
}

func TestNumberOfOperations(t *testing.T) {
	for _, n := range []int{399, 400, 401, 402, 512, 656, 65536, 65537, 65936} {
		for _, o := range []api.TimerOp{{}, add(1, 1), add(1, -1), cancel(1), tick(0), tick(2000), tick(2001)} {
			ops := slices.Repeat([]api.TimerOp{o}, n)
			expect(t, ops)
			if got := played(ops); (got.e == api.OK) != (n <= 400) || n > 400 && !same(got, outcome{e: api.ErrRange}) {
				t.Errorf("%d operations: %v", n, got)
			}
		}
	}
}

// TestOrderOfErrors: each operation has two errors or three, of which the first in the chapter's order is told.
func TestOrderOfErrors(t *testing.T) {
	for _, c := range []struct {
		op   api.TimerOp
		want api.Errno
	}{
		{api.TimerOp{Kind: 0, Id: 7, Ticks: -1}, api.ErrKind},
		{api.TimerOp{Kind: 4, Id: 7, Ticks: 2001}, api.ErrKind},
		{api.TimerOp{Kind: -1, Id: 8, Ticks: 2001}, api.ErrKind},
		{add(7, 0), api.ErrRange},
		{add(7, 512), api.ErrRange},
		{add(7, -1), api.ErrRange},
		{add(7, 5), api.ErrHeld},
		{add(8, 0), api.ErrRange},
		{api.TimerOp{Kind: api.TimerCancel, Id: 8, Ticks: -1}, api.ErrNone},
		{api.TimerOp{Kind: api.TimerCancel, Id: 8, Ticks: 2001}, api.ErrNone},
		{api.TimerOp{Kind: api.TimerTick, Id: 7, Ticks: -1}, api.ErrRange},
		{api.TimerOp{Kind: api.TimerTick, Id: 8, Ticks: 2001}, api.ErrRange},
	} {
		want := outcome{errs: []api.Errno{0, c.want, 0}, fired: []api.Fired{{At: 9, Id: 7}}}
		if got := played([]api.TimerOp{add(7, 9), c.op, tick(9)}); !same(got, want) {
			t.Errorf("%v: %v, not %v", c.op, got, want)
		}
	}
}

// Z1

func TestNothingIsKept(t *testing.T) {
	ops := scattered(scatter(5), 300, 40, 90)
	once := played(ops)
	played([]api.TimerOp{add(1, 5), add(2, 5), tick(3)})
	played(make([]api.TimerOp, 401))
	if again := played(ops); !same(once, again) {
		t.Errorf("Play = %v, and then %v", once, again)
	}
	if got := played([]api.TimerOp{cancel(1), tick(2)}); !same(got, outcome{errs: []api.Errno{3, 0}}) {
		t.Errorf("a timer of an earlier call is there: %v", got)
	}
}

// Z2

// TestPlayLeavesItsArgument: it does not change, what is behind it does not matter, and the results are in memory of their own.
func TestPlayLeavesItsArgument(t *testing.T) {
	for n := range 60 {
		roll := scatter(uint32(n))
		room := scattered(roll, n+9, 5, 300)
		room[n] = tick(2000)
		whole := slices.Clone(room)
		got := played(room[:n])
		if want := foretold(slices.Clone(room[:n])); !same(got, want) {
			t.Fatalf("what is behind %d operations matters: %v, not %v", n, got, want)
		}
		kept := outcome{slices.Clone(got.errs), slices.Clone(got.fired), got.set, got.e}
		if !slices.Equal(room, whole) {
			t.Fatalf("%d operations, or what is behind them, have changed", n)
		}
		again := played(room[:n])
		clear(again.errs[:cap(again.errs)])
		clear(again.fired[:cap(again.fired)])
		clear(room)
		if !same(got, kept) {
			t.Fatalf("the results for %d operations are in other memory, too", n)
		}
	}
}

// Z3

func TestNilAndEmpty(t *testing.T) {
	if a, b := played(nil), played([]api.TimerOp{}); !same(a, outcome{}) || !same(b, outcome{}) {
		t.Errorf("Play of nothing = %v, or %v", a, b)
	}
}
