package work_test

import (
	"math"
	"slices"
	"testing"

	"corebell/api"
	"corebell/work"
)

// outcome is all that Play returns.
type outcome struct {
	errs          []api.Errno
	done, waiting []int
	begun         int
	e             api.Errno
}

func played(ops []api.WorkOp) outcome {
	errs, done, waiting, begun, e := work.Play(ops)
	return outcome{errs, done, waiting, begun, e}
}

func same(a, b outcome) bool {
	return slices.Equal(a.errs, b.errs) && slices.Equal(a.done, b.done) && slices.Equal(a.waiting, b.waiting) && a.begun == b.begun && a.e == b.e
}

func queue(item int) api.WorkOp { return api.WorkOp{Kind: api.WorkQueue, Item: item} }

func cancel(item int) api.WorkOp { return api.WorkOp{Kind: api.WorkCancel, Item: item} }

func flush(item int) api.WorkOp { return api.WorkOp{Kind: api.WorkFlush, Item: item} }

// The kinds that have no item have one here, which is to be ignored.
var (
	begin = api.WorkOp{Kind: api.WorkBegin, Item: -7}
	end   = api.WorkOp{Kind: api.WorkEnd, Item: 700}
)

// How far a job has come.
const (
	waits = iota
	begun
	done
	gone
)

// job is what one queueing brought about. Jobs stay where they are, in the order in which they were queued: as that is the order of all that is done to them, it is the order of each of their lists, too.
type job struct{ item, state int }

type jobs []job

// first is the place of the first job in that state (with that item, if it is not below 0), or -1.
func (l jobs) first(state, item int) int {
	return slices.IndexFunc(l, func(j job) bool { return j.state == state && (item < 0 || j.item == item) })
}

// items are those of the jobs in that state.
func (l jobs) items(state int) []int {
	var items []int
	for _, j := range l {
		if j.state == state {
			items = append(items, j.item)
		}
	}
	return items
}

func (l jobs) wrong(o api.WorkOp) api.Errno {
	named := o.Kind == 1 || o.Kind == 4 || o.Kind == 5
	switch {
	case o.Kind < 1 || o.Kind > 5:
		return 5
	case named && (o.Item < 0 || o.Item > 99):
		return 2
	case o.Kind == 1 && l.first(waits, o.Item) >= 0:
		return 6
	case o.Kind == 2 && l.first(begun, -1) >= 0:
		return 6
	case o.Kind == 2 && l.first(waits, -1) < 0:
		return 3
	case o.Kind == 3 && l.first(begun, -1) < 0:
		return 3
	case o.Kind == 4 && l.first(waits, o.Item) < 0:
		return 3
	}
	return 0
}

// flushed: all are done up to the last one of the item that was neither done nor gone.
func (l jobs) flushed(item int) {
	last := max(l.first(begun, item), l.first(waits, item))
	for i := range last + 1 {
		if l[i].state != gone {
			l[i].state = done
		}
	}
}

func foretold(ops []api.WorkOp) outcome {
	if len(ops) > 400 {
		return outcome{e: 2}
	}
	var l jobs
	errs := make([]api.Errno, len(ops))
	for i, o := range ops {
		errs[i] = l.wrong(o)
		switch {
		case errs[i] != 0:
		case o.Kind == 1:
			l = append(l, job{o.Item, waits})
		case o.Kind == 2:
			l[l.first(waits, -1)].state = begun
		case o.Kind == 3:
			l[l.first(begun, -1)].state = done
		case o.Kind == 4:
			l[l.first(waits, o.Item)].state = gone
		case o.Kind == 5:
			l.flushed(o.Item)
		}
	}
	now := append(l.items(begun), -1)
	return outcome{errs: errs, done: l.items(done), waiting: l.items(waits), begun: now[0]}
}

func expect(t *testing.T, ops []api.WorkOp) {
	t.Helper()
	want := foretold(ops)
	if got := played(ops); !same(got, want) {
		t.Errorf("Play(%v) = %v, not %v", ops, got, want)
	}
}

// scatter returns a function whose results are below its argument, and the same in each run.
func scatter(seed uint32) func(n int) int {
	return func(n int) int {
		seed = seed*1664525 + 1013904223
		return int(seed>>8) % n
	}
}

// scattered are n operations about items 0 to items - 1, few of them with a kind or an item that there is not.
func scattered(roll func(int) int, n, items int) []api.WorkOp {
	ops := make([]api.WorkOp, n)
	for i := range ops {
		item := roll(items)
		switch roll(20) {
		case 0, 1, 2, 3, 4, 5, 6, 7, 8:
			ops[i] = queue(item)
		case 9, 10, 11:
			ops[i] = begin
		case 12, 13, 14:
			ops[i] = end
		case 15, 16:
			ops[i] = cancel(item)
		case 17:
			ops[i] = flush(item)
		case 18:
			ops[i] = api.WorkOp{Kind: 1 + roll(5), Item: item - 3}
		default:
			ops[i] = api.WorkOp{Kind: roll(8) - 1, Item: roll(120) - 10}
		}
	}
	return ops
}

// numbers are the ends of all ranges, what is beside them, and what a narrower integer would take for something within.
func numbers() []int {
	return []int{
		0, 1, 2, 3, 4, 5, 6, 7, 9, 10, 50, 63, 64, 65, 98, 99, 100, 101, 127, 128, 255, 256, 257, 259, 261, 355, 400,
		-1, -2, -3, -4, -5, -6, -99, -100, -128, -156, -157, -256, 1 << 16, 1<<16 + 1, 1<<16 + 5, 1<<16 + 99,
		1<<32 - 1, 1 << 32, 1<<32 + 1, 1<<32 + 2, 1<<32 + 3, 1<<32 + 4, 1<<32 + 5, 1<<32 + 9, 1<<32 + 99, -1 << 32, -1<<32 + 1, -1<<32 + 5, -1<<32 + 9,
		1 << 40, 1<<62 + 1, math.MaxInt - 1, math.MaxInt, math.MinInt, math.MinInt + 1, math.MinInt + 5, math.MinInt + 9,
	}
}

// eachList calls f with all lists of up to most elements out of kinds, in memory that it uses again.
func eachList[T any](kinds []T, most int, f func([]T)) {
	l := make([]T, 0, most)
	var longer func()
	longer = func() {
		f(l)
		if len(l) == most {
			return
		}
		for _, k := range kinds {
			l = append(l, k)
			longer()
			l = l[:len(l)-1]
		}
	}
	longer()
}

// L1 and L2

func TestPlayByHand(t *testing.T) {
	type ops = []api.WorkOp
	type errs = []api.Errno
	type ints = []int
	for _, c := range []struct {
		ops  ops
		want outcome
	}{
		{nil, outcome{begun: -1}},
		{ops{queue(4)}, outcome{errs: errs{0}, waiting: ints{4}, begun: -1}},
		{ops{queue(0), begin}, outcome{errs: errs{0, 0}, begun: 0}},
		{ops{queue(4), begin}, outcome{errs: errs{0, 0}, begun: 4}},
		{ops{queue(4), begin, end}, outcome{errs: errs{0, 0, 0}, done: ints{4}, begun: -1}},
		{ops{queue(7), queue(2), queue(5), begin, end, begin}, outcome{errs: errs{0, 0, 0, 0, 0, 0}, done: ints{7}, waiting: ints{5}, begun: 2}},
		// An item that waits is not queued once more; one that is in progress, or over, is.
		{ops{queue(4), queue(4)}, outcome{errs: errs{0, 6}, waiting: ints{4}, begun: -1}},
		{ops{queue(4), begin, queue(4)}, outcome{errs: errs{0, 0, 0}, waiting: ints{4}, begun: 4}},
		{ops{queue(4), begin, queue(4), queue(4)}, outcome{errs: errs{0, 0, 0, 6}, waiting: ints{4}, begun: 4}},
		{ops{queue(4), begin, queue(4), end, begin, end}, outcome{errs: errs{0, 0, 0, 0, 0, 0}, done: ints{4, 4}, begun: -1}},
		{ops{queue(4), begin, end, queue(4)}, outcome{errs: errs{0, 0, 0, 0}, done: ints{4}, waiting: ints{4}, begun: -1}},
		{ops{queue(4), cancel(4), queue(4)}, outcome{errs: errs{0, 0, 0}, waiting: ints{4}, begun: -1}},
		// Beginning and ending.
		{ops{begin}, outcome{errs: errs{3}, begun: -1}},
		{ops{end}, outcome{errs: errs{3}, begun: -1}},
		{ops{queue(4), end}, outcome{errs: errs{0, 3}, waiting: ints{4}, begun: -1}},
		{ops{queue(4), begin, begin}, outcome{errs: errs{0, 0, 6}, begun: 4}},
		{ops{queue(4), queue(5), begin, begin}, outcome{errs: errs{0, 0, 0, 6}, waiting: ints{5}, begun: 4}},
		{ops{queue(4), begin, end, end}, outcome{errs: errs{0, 0, 0, 3}, done: ints{4}, begun: -1}},
		// Cancelling: only what waits.
		{ops{cancel(4)}, outcome{errs: errs{3}, begun: -1}},
		{ops{queue(4), cancel(4), begin}, outcome{errs: errs{0, 0, 3}, begun: -1}},
		{ops{queue(4), cancel(4), cancel(4)}, outcome{errs: errs{0, 0, 3}, begun: -1}},
		{ops{queue(4), begin, cancel(4)}, outcome{errs: errs{0, 0, 3}, begun: 4}},
		{ops{queue(4), begin, queue(4), cancel(4)}, outcome{errs: errs{0, 0, 0, 0}, begun: 4}},
		{ops{queue(4), begin, end, cancel(4)}, outcome{errs: errs{0, 0, 0, 3}, done: ints{4}, begun: -1}},
		{ops{queue(7), queue(2), queue(5), cancel(2)}, outcome{errs: errs{0, 0, 0, 0}, waiting: ints{7, 5}, begun: -1}},
		{ops{queue(7), queue(2), queue(5), cancel(7)}, outcome{errs: errs{0, 0, 0, 0}, waiting: ints{2, 5}, begun: -1}},
		{ops{queue(7), queue(2), queue(5), cancel(5)}, outcome{errs: errs{0, 0, 0, 0}, waiting: ints{7, 2}, begun: -1}},
		{ops{queue(7), queue(2), cancel(7), queue(7)}, outcome{errs: errs{0, 0, 0, 0}, waiting: ints{2, 7}, begun: -1}},
		// Flushing: up to the item, and no further.
		{ops{flush(4)}, outcome{errs: errs{0}, begun: -1}},
		{ops{queue(4), flush(4)}, outcome{errs: errs{0, 0}, done: ints{4}, begun: -1}},
		{ops{queue(4), begin, flush(4)}, outcome{errs: errs{0, 0, 0}, done: ints{4}, begun: -1}},
		{ops{queue(4), begin, flush(5)}, outcome{errs: errs{0, 0, 0}, begun: 4}},
		{ops{queue(4), flush(5)}, outcome{errs: errs{0, 0}, waiting: ints{4}, begun: -1}},
		{ops{queue(7), queue(2), queue(5), flush(2)}, outcome{errs: errs{0, 0, 0, 0}, done: ints{7, 2}, waiting: ints{5}, begun: -1}},
		{ops{queue(7), begin, queue(2), queue(5), flush(2)}, outcome{errs: errs{0, 0, 0, 0, 0}, done: ints{7, 2}, waiting: ints{5}, begun: -1}},
		{ops{queue(7), begin, queue(2), queue(5), flush(7)}, outcome{errs: errs{0, 0, 0, 0, 0}, done: ints{7}, waiting: ints{2, 5}, begun: -1}},
		{ops{queue(7), begin, queue(2), queue(7), queue(5), flush(7)}, outcome{errs: errs{0, 0, 0, 0, 0, 0}, done: ints{7, 2, 7}, waiting: ints{5}, begun: -1}},
		{ops{queue(4), flush(4), flush(4)}, outcome{errs: errs{0, 0, 0}, done: ints{4}, begun: -1}},
		// What there is not.
		{ops{queue(-1), queue(100), queue(0), queue(99)}, outcome{errs: errs{2, 2, 0, 0}, waiting: ints{0, 99}, begun: -1}},
		{ops{cancel(-1), cancel(100), cancel(0), cancel(99)}, outcome{errs: errs{2, 2, 3, 3}, begun: -1}},
		{ops{queue(4), begin, flush(-1), flush(100), flush(0), flush(99)}, outcome{errs: errs{0, 0, 2, 2, 0, 0}, begun: 4}},
		{ops{queue(4), flush(-1)}, outcome{errs: errs{0, 2}, waiting: ints{4}, begun: -1}},
		{ops{{}, {Kind: 6}, {Kind: -1}, {Kind: 6, Item: 4}, queue(4)}, outcome{errs: errs{5, 5, 5, 5, 0}, waiting: ints{4}, begun: -1}},
	} {
		if got := played(c.ops); !same(got, c.want) {
			t.Errorf("Play(%v) = %v, not %v", c.ops, got, c.want)
		}
		expect(t, c.ops)
	}
}

// TestPlayOfAllSmall looks at all short runs about two items, and at shorter ones about three.
func TestPlayOfAllSmall(t *testing.T) {
	two := []api.WorkOp{queue(0), queue(1), begin, end, cancel(0), cancel(1), flush(0), flush(1)}
	eachList(two, 6, func(ops []api.WorkOp) { expect(t, ops) })
	three := append(two, queue(2), cancel(2), flush(2), queue(-1), flush(100))
	eachList(three, 5, func(ops []api.WorkOp) { expect(t, ops) })
}

// TestAllWaitingLists: up to five items in each order, the first of them in progress or not, and each of them queued once more, cancelled, or flushed.
func TestAllWaitingLists(t *testing.T) {
	eachList([]int{0, 3, 50, 98, 99}, 5, func(order []int) {
		var ops []api.WorkOp
		for _, item := range order {
			ops = append(ops, queue(item))
		}
		for _, start := range [][]api.WorkOp{ops, slices.Concat(ops, []api.WorkOp{begin})} {
			for _, item := range order {
				expect(t, slices.Concat(start, []api.WorkOp{queue(item)}))
				expect(t, slices.Concat(start, []api.WorkOp{cancel(item), begin, queue(item)}))
				expect(t, slices.Concat(start, []api.WorkOp{flush(item)}))
				expect(t, slices.Concat(start, []api.WorkOp{queue(item), flush(item), begin}))
			}
		}
	})
}

// TestEachItem: all items from below the range to above it, and no item is another one.
func TestEachItem(t *testing.T) {
	for a := -130; a <= 300; a++ {
		got := played([]api.WorkOp{queue(a), begin, end})
		if right := a >= 0 && a <= 99; right != (got.errs[0] == api.OK) || right != slices.Equal(got.done, []int{a}) {
			t.Errorf("item %d: %v", a, got)
		}
		for b := -2; b <= 101; b++ {
			expect(t, []api.WorkOp{queue(a), queue(b), cancel(a), begin, cancel(b)})
			expect(t, []api.WorkOp{queue(a), begin, queue(b), flush(b), queue(a), cancel(b)})
			expect(t, []api.WorkOp{queue(a), begin, flush(b), queue(b), queue(a), flush(a)})
		}
	}
}

// TestFarNumbers: kinds and items far away from all ranges.
func TestFarNumbers(t *testing.T) {
	for _, kind := range numbers() {
		for _, item := range numbers() {
			odd := api.WorkOp{Kind: kind, Item: item}
			expect(t, []api.WorkOp{odd, queue(9), odd, begin, odd, queue(5), odd, end, odd})
			expect(t, []api.WorkOp{odd, odd, begin, odd, odd, end, odd})
		}
	}
}

// TestItemIsIgnored: whatever item comes with a kind that has none.
func TestItemIsIgnored(t *testing.T) {
	want := outcome{errs: []api.Errno{3, 3, 0, 0, 0, 6, 0, 3, 0}, done: []int{8}, begun: 3}
	for _, item := range append(numbers(), 8) {
		b, e := api.WorkOp{Kind: api.WorkBegin, Item: item}, api.WorkOp{Kind: api.WorkEnd, Item: item}
		if got := played([]api.WorkOp{b, e, queue(8), queue(3), b, b, e, e, b}); !same(got, want) {
			t.Errorf("with item %d: %v, not %v", item, got, want)
		}
	}
}

// TestFullQueue: all items wait, in whatever order, and another one is in progress.
func TestFullQueue(t *testing.T) {
	for _, step := range []int{1, 3, 37, 99} {
		var items []int
		ops := []api.WorkOp{queue(42), begin}
		for i := range 100 {
			items = append(items, i*step%100)
			ops = append(ops, queue(items[i]))
		}
		for i, item := range items {
			expect(t, slices.Concat(ops, []api.WorkOp{queue(item), cancel(item), queue(item)}))
			got := played(slices.Concat(ops, []api.WorkOp{flush(item)}))
			want := outcome{errs: make([]api.Errno, 103), done: slices.Concat([]int{42}, items[:i+1]), waiting: items[i+1:], begun: -1}
			if !same(got, want) {
				t.Errorf("step %d, flush of %d: %v, not %v", step, item, got, want)
			}
		}
	}
}

// TestLongestRuns: as many operations as there may be, with as much completed, or waiting, as they allow.
func TestLongestRuns(t *testing.T) {
	var one, all []api.WorkOp
	for i := range 200 {
		one = append(one, queue(5), flush(5))
		all = append(all, queue(i%100))
	}
	want := outcome{errs: make([]api.Errno, 400), done: slices.Repeat([]int{5}, 200), begun: -1}
	if got := played(one); !same(got, want) {
		t.Errorf("200 times the same item: %v", got)
	}
	expect(t, slices.Concat(all, slices.Repeat([]api.WorkOp{begin, end}, 100)))
	expect(t, slices.Concat(all[:100], slices.Repeat([]api.WorkOp{flush(99), queue(7), flush(7)}, 100)))
	expect(t, slices.Concat(all[:100], []api.WorkOp{flush(99)}, all[:100], []api.WorkOp{flush(99)}, all[:100], []api.WorkOp{flush(99)}, all[:97]))
}

func TestLongRuns(t *testing.T) {
	for seed := range uint32(3000) {
		roll := scatter(seed)
		for _, items := range []int{2, 6, 30, 100} {
			expect(t, scattered(roll, 1+roll(400), items))
		}
	}
}

// TestFlushByHand: a flush ends as the beginnings and endings of which it is made.
func TestFlushByHand(t *testing.T) {
	for seed := range uint32(500) {
		roll := scatter(seed)
		ops := scattered(roll, 60, 5)
		item := roll(5)
		single := slices.Clone(ops)
		for at := played(single); at.begun == item || slices.Contains(at.waiting, item); at = played(single) {
			if at.begun >= 0 {
				single = append(single, end)
			} else {
				single = append(single, begin)
			}
		}
		a, b := played(append(ops, flush(item))), played(single)
		b.errs = append(b.errs[:60:60], api.OK)
		if !same(a, b) {
			t.Errorf("Play(%v) = %v, and by hand %v", append(ops, flush(item)), a, b)
		}
	}
}

// TestErrorsHaveNoEffect: without the operations that have an error, all is the same.
func TestErrorsHaveNoEffect(t *testing.T) {
	for seed := range uint32(500) {
		ops := scattered(scatter(seed), 200, 9)
		got := played(ops)
		var kept []api.WorkOp
		for i, e := range got.errs {
			if e == api.OK {
				kept = append(kept, ops[i])
			}
		}
		want := outcome{errs: make([]api.Errno, len(kept)), done: got.done, waiting: got.waiting, begun: got.begun}
		if again := played(kept); !same(again, want) || len(kept) == len(ops) {
			t.Errorf("Play(%v) = %v, not %v", kept, again, want)
		}
	}
}

// TestEachIsProcessedOnce: how often an item was queued and not cancelled is how often it is completed, in progress, or waiting.
func TestEachIsProcessedOnce(t *testing.T) {
	for seed := range uint32(500) {
		ops := scattered(scatter(seed), 400, 20)
		got := played(ops)
		var left [100]int
		for i, o := range ops {
			if got.errs[i] == api.OK && o.Kind == api.WorkQueue {
				left[o.Item]++
			}
			if got.errs[i] == api.OK && o.Kind == api.WorkCancel {
				left[o.Item]--
			}
		}
		for _, item := range slices.Concat(got.done, got.waiting) {
			left[item]--
		}
		if got.begun >= 0 {
			left[got.begun]--
		}
		if left != [100]int{} {
			t.Errorf("Play(%v) = %v: these are left: %v", ops, got, left)
		}
	}
}

func TestNumberOfOperations(t *testing.T) {
	for _, n := range []int{399, 400, 401, 402, 512, 656, 65536, 65537, 65936} {
		for _, o := range []api.WorkOp{{}, queue(1), queue(-1), begin, end, cancel(1), flush(1), flush(100)} {
			ops := slices.Repeat([]api.WorkOp{o}, n)
			expect(t, ops)
			if got := played(ops); (got.e == api.OK) != (n <= 400) || n > 400 && !same(got, outcome{e: api.ErrRange}) {
				t.Errorf("%d operations: %v", n, got)
			}
		}
	}
}

// TestOrderOfErrors: each operation has two errors, of which the first in the chapter's order is told.
func TestOrderOfErrors(t *testing.T) {
	for _, c := range []struct {
		before []api.WorkOp
		op     api.WorkOp
		want   api.Errno
	}{
		{nil, api.WorkOp{Kind: 0, Item: -1}, api.ErrKind},
		{nil, api.WorkOp{Kind: 6, Item: 100}, api.ErrKind},
		{nil, api.WorkOp{Kind: -1, Item: 100}, api.ErrKind},
		{[]api.WorkOp{queue(7)}, api.WorkOp{Kind: 6, Item: 7}, api.ErrKind},
		{nil, cancel(-1), api.ErrRange},
		{nil, cancel(100), api.ErrRange},
		{[]api.WorkOp{queue(99)}, cancel(100), api.ErrRange},
		{[]api.WorkOp{queue(0)}, cancel(-1), api.ErrRange},
		{[]api.WorkOp{queue(7), begin}, begin, api.ErrHeld},
		{[]api.WorkOp{queue(7), begin, queue(8), cancel(8)}, begin, api.ErrHeld},
		{[]api.WorkOp{queue(7), begin, end}, begin, api.ErrNone},
	} {
		ops := append(c.before, c.op)
		want := played(c.before)
		want.errs = append(want.errs, c.want)
		if got := played(ops); !same(got, want) {
			t.Errorf("Play(%v) = %v, not %v", ops, got, want)
		}
	}
}

// Z1

func TestNothingIsKept(t *testing.T) {
	ops := scattered(scatter(5), 300, 40)
	once := played(ops)
	played([]api.WorkOp{queue(1), begin, queue(1), queue(2)})
	played(make([]api.WorkOp, 401))
	if again := played(ops); !same(once, again) {
		t.Errorf("Play = %v, and then %v", once, again)
	}
	if got := played([]api.WorkOp{end, cancel(1), begin}); !same(got, outcome{errs: []api.Errno{3, 3, 3}, begun: -1}) {
		t.Errorf("an item of an earlier call is there: %v", got)
	}
}

// Z2

// TestPlayLeavesItsArgument: it does not change, what is behind it does not matter, and the results are in memory of their own.
func TestPlayLeavesItsArgument(t *testing.T) {
	for n := range 90 {
		roll := scatter(uint32(n))
		room := scattered(roll, n+9, 8)
		room[n] = queue(77)
		whole := slices.Clone(room)
		got := played(room[:n])
		if want := foretold(slices.Clone(room[:n])); !same(got, want) {
			t.Fatalf("what is behind %d operations matters: %v, not %v", n, got, want)
		}
		kept := outcome{slices.Clone(got.errs), slices.Clone(got.done), slices.Clone(got.waiting), got.begun, got.e}
		if !slices.Equal(room, whole) {
			t.Fatalf("%d operations, or what is behind them, have changed", n)
		}
		a, b := played(room[:n]), played(room[:n])
		clear(a.errs[:cap(a.errs)])
		clear(a.done[:cap(a.done)])
		clear(b.waiting[:cap(b.waiting)])
		if !slices.Equal(a.waiting, kept.waiting) || !slices.Equal(b.done, kept.done) {
			t.Fatalf("%d operations: two results are in the same memory", n)
		}
		clear(room)
		if !same(got, kept) {
			t.Fatalf("the results for %d operations are in other memory, too", n)
		}
	}
}

// Z3

func TestNilAndEmpty(t *testing.T) {
	if a, b := played(nil), played([]api.WorkOp{}); !same(a, outcome{begun: -1}) || !same(b, outcome{begun: -1}) {
		t.Errorf("Play of nothing = %v, or %v", a, b)
	}
}
