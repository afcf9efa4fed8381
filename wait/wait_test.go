package wait_test

import (
	"math"
	"slices"
	"testing"

	"corebell/api"
	"corebell/wait"
)

// outcome is all that Play returns.
type outcome struct {
	errs             []api.Errno
	obtained, asleep []int
	items            int
}

func played(ops []api.WaitOp) outcome {
	errs, obtained, asleep, items := wait.Play(ops)
	return outcome{errs, obtained, asleep, items}
}

func same(a, b outcome) bool {
	return slices.Equal(a.errs, b.errs) && slices.Equal(a.obtained, b.obtained) && slices.Equal(a.asleep, b.asleep) && a.items == b.items
}

func prepare(thread int) api.WaitOp { return api.WaitOp{Kind: api.WaitPrepare, Thread: thread} }

func look(thread int) api.WaitOp { return api.WaitOp{Kind: api.WaitLook, Thread: thread} }

func sleep(thread int) api.WaitOp { return api.WaitOp{Kind: api.WaitSleep, Thread: thread} }

// These are done by a thread, too, but by whichever of them.
var (
	give = api.WaitOp{Kind: api.WaitGive, Thread: 40}
	all  = api.WaitOp{Kind: api.WaitAll, Thread: 41}
)

// times repeats operations.
func times(n int, ops ...api.WaitOp) []api.WaitOp { return slices.Repeat(ops, n) }

// What a thread is, if it waits.
const (
	neither = iota
	woken
	asleep
)

// model has no queue: each thread has a place, 0 if it does not wait, and a later place is a larger number.
type model struct {
	place, is   [64]int
	last, given int
	obtained    []int
}

func (m *model) items() int { return m.given - len(m.obtained) }

// inOrder are the waiting threads that are one of these.
func (m *model) inOrder(those ...int) []int {
	var l []int
	for n, place := range m.place {
		if place > 0 && slices.Contains(those, m.is[n]) {
			l = append(l, n)
		}
	}
	slices.SortFunc(l, func(a, b int) int { return m.place[a] - m.place[b] })
	return l
}

func (m *model) wrong(o api.WaitOp) api.Errno {
	switch {
	case o.Kind < 1 || o.Kind > 5:
		return 5
	case o.Thread < 0 || o.Thread > 63:
		return 2
	case o.Kind <= 3 && m.place[o.Thread] > 0 && m.is[o.Thread] == asleep:
		return 7
	case (o.Kind == 2 || o.Kind == 3) && m.place[o.Thread] == 0:
		return 3
	case o.Kind == 2 && m.items() == 0:
		return 6
	case o.Kind == 4 && m.items() == 400:
		return 4
	}
	return 0
}

// wake wakes the first threads that are not woken, n at most.
func (m *model) wake(n int) {
	l := m.inOrder(neither, asleep)
	for _, t := range l[:min(n, len(l))] {
		m.is[t] = woken
	}
}

func (m *model) do(o api.WaitOp) {
	switch o.Kind {
	case 1:
		m.is[o.Thread] = neither
		if m.place[o.Thread] == 0 {
			m.last++
			m.place[o.Thread] = m.last
		}
	case 2:
		m.place[o.Thread] = 0
		m.obtained = append(m.obtained, o.Thread)
		m.wake(min(1, m.items()))
	case 3:
		if m.is[o.Thread] == neither && m.items() == 0 {
			m.is[o.Thread] = asleep
		}
	case 4:
		m.given++
		m.wake(1)
	case 5:
		m.wake(64)
	}
}

func foretold(ops []api.WaitOp) outcome {
	var m model
	errs := make([]api.Errno, len(ops))
	for i, o := range ops {
		errs[i] = m.wrong(o)
		if errs[i] == 0 {
			m.do(o)
		}
	}
	return outcome{errs, m.obtained, m.inOrder(asleep), m.items()}
}

func expect(t *testing.T, ops []api.WaitOp) {
	t.Helper()
	want := foretold(ops)
	if got := played(ops); !same(got, want) {
		t.Errorf("Play(%v) = %v, not %v", ops, got, want)
	}
}

// scatter returns a function whose results are below its argument, and the same in each run.
func scatter(seed uint32) func(n int) int {
	return func(n int) int {
		seed = seed*1664525 + 1013904223
		return int(seed>>8) % n
	}
}

// scattered are n operations about threads 0 to threads - 1, few of them with a kind or a thread that there is not.
func scattered(roll func(int) int, n, threads int) []api.WaitOp {
	ops := make([]api.WaitOp, n)
	for i := range ops {
		thread := roll(threads)
		switch roll(40) {
		case 0:
			ops[i] = all
		case 1:
			ops[i] = api.WaitOp{Kind: roll(8) - 1, Thread: roll(80) - 8}
		case 2, 3, 4, 5, 6, 7, 8:
			ops[i] = give
		case 9, 10, 11, 12, 13, 14, 15, 16, 17, 18:
			ops[i] = look(thread)
		case 19, 20, 21, 22, 23, 24, 25, 26, 27, 28:
			ops[i] = prepare(thread)
		default:
			ops[i] = sleep(thread)
		}
	}
	return ops
}

// numbers are the ends of all ranges, what is beside them, and what a narrower integer would take for something within.
func numbers() []int {
	return []int{
		0, 1, 2, 3, 4, 5, 6, 7, 9, 31, 32, 33, 62, 63, 64, 65, 127, 128, 255, 256, 257, 261, 265, 319, 320, 400,
		-1, -2, -3, -4, -5, -9, -63, -64, -128, -193, -251, -255, -256, 1 << 16, 1<<16 + 1, 1<<16 + 5, 1<<16 + 63,
		1<<32 - 1, 1 << 32, 1<<32 + 1, 1<<32 + 2, 1<<32 + 3, 1<<32 + 4, 1<<32 + 5, 1<<32 + 9, 1<<32 + 63, -1 << 32, -1<<32 + 1, -1<<32 + 5, -1<<32 + 9,
		1 << 40, 1<<62 + 1, math.MaxInt - 1, math.MaxInt, math.MinInt, math.MinInt + 1, math.MinInt + 5, math.MinInt + 9,
	}
}

// eachList calls f with all lists of up to most elements out of kinds, in memory that it uses again.
func eachList[T any](kinds []T, most int, f func([]T)) {
	l := make([]T, 0, most)
	var longer func()
	longer = func() {
		f(l)
		if len(l) == most {
			return
		}
		for _, k := range kinds {
			l = append(l, k)
			longer()
			l = l[:len(l)-1]
		}
	}
	longer()
}

// arranged are operations behind which threads 0, 1, .. wait in this order and are as they are said to be, without an item.
func arranged(conditions []int) []api.WaitOp {
	var ops []api.WaitOp
	for n := range conditions {
		ops = append(ops, prepare(n))
	}
	ops = append(ops, all)
	for n, is := range conditions {
		if is != woken {
			ops = append(ops, prepare(n))
		}
		if is == asleep {
			ops = append(ops, sleep(n))
		}
	}
	return ops
}

// O1 and O2

func TestPlayByHand(t *testing.T) {
	type ops = []api.WaitOp
	type errs = []api.Errno
	type ints = []int
	for _, c := range []struct {
		ops  ops
		want outcome
	}{
		{nil, outcome{}},
		{ops{give}, outcome{errs{0}, nil, nil, 1}},
		{ops{all}, outcome{errs{0}, nil, nil, 0}},
		{ops{prepare(3)}, outcome{errs{0}, nil, nil, 0}},
		{ops{prepare(3), sleep(3)}, outcome{errs{0, 0}, nil, ints{3}, 0}},
		{ops{prepare(3), give, look(3)}, outcome{errs{0, 0, 0}, ints{3}, nil, 0}},
		{ops{give, give, prepare(3), look(3)}, outcome{errs{0, 0, 0, 0}, ints{3}, nil, 1}},
		// An item that arrives before the thread calls WaitSleep: it does not fall asleep.
		{ops{prepare(3), look(3), give, sleep(3)}, outcome{errs{0, 6, 0, 0}, nil, nil, 1}},
		{ops{prepare(3), look(3), give, sleep(3), look(3)}, outcome{errs{0, 6, 0, 0, 0}, ints{3}, nil, 0}},
		{ops{give, prepare(3), sleep(3)}, outcome{errs{0, 0, 0}, nil, nil, 1}},
		// It does not either if another thread has obtained the item meanwhile; but it does when it has prepared again.
		{ops{prepare(3), prepare(4), give, look(4), sleep(3)}, outcome{errs{0, 0, 0, 0, 0}, ints{4}, nil, 0}},
		{ops{prepare(3), prepare(4), give, look(4), sleep(3), sleep(3), look(3)}, outcome{errs{0, 0, 0, 0, 0, 0, 6}, ints{4}, nil, 0}},
		{ops{prepare(3), prepare(4), give, look(4), prepare(3), sleep(3)}, outcome{errs{0, 0, 0, 0, 0, 0}, ints{4}, ints{3}, 0}},
		{ops{prepare(3), all, sleep(3)}, outcome{errs{0, 0, 0}, nil, nil, 0}},
		{ops{prepare(3), all, prepare(3), sleep(3)}, outcome{errs{0, 0, 0, 0}, nil, ints{3}, 0}},
		{ops{all, prepare(3), sleep(3)}, outcome{errs{0, 0, 0}, nil, ints{3}, 0}},
		// Who was woken stays in the queue, awake.
		{ops{prepare(3), sleep(3), give}, outcome{errs{0, 0, 0}, nil, nil, 1}},
		{ops{prepare(3), sleep(3), give, look(3)}, outcome{errs{0, 0, 0, 0}, ints{3}, nil, 0}},
		{ops{prepare(3), sleep(3), all, look(3), sleep(3)}, outcome{errs{0, 0, 0, 6, 0}, nil, nil, 0}},
		{ops{prepare(3), sleep(3), all, prepare(3), sleep(3)}, outcome{errs{0, 0, 0, 0, 0}, nil, ints{3}, 0}},
		// Who is asleep does nothing of its own.
		{ops{prepare(3), sleep(3), prepare(3), look(3), sleep(3)}, outcome{errs{0, 0, 7, 7, 7}, nil, ints{3}, 0}},
		{ops{prepare(3), sleep(3), {Kind: api.WaitGive, Thread: 3}}, outcome{errs{0, 0, 0}, nil, nil, 1}},
		{ops{prepare(3), sleep(3), {Kind: api.WaitAll, Thread: 3}}, outcome{errs{0, 0, 0}, nil, nil, 0}},
		// Who does not wait.
		{ops{look(3), sleep(3), give, look(3), sleep(3)}, outcome{errs{3, 3, 0, 3, 3}, nil, nil, 1}},
		{ops{give, give, prepare(3), look(3), look(3), sleep(3)}, outcome{errs{0, 0, 0, 0, 3, 3}, ints{3}, nil, 1}},
		{ops{give, give, prepare(3), look(3), prepare(3), look(3)}, outcome{errs{0, 0, 0, 0, 0, 0}, ints{3, 3}, nil, 0}},
		// A thread that was woken before it left is not woken when it waits again.
		{ops{prepare(3), give, look(3), prepare(3), sleep(3)}, outcome{errs{0, 0, 0, 0, 0}, ints{3}, ints{3}, 0}},
		// In the order of the queue, which is not that of sleeping, and not that of the numbers.
		{ops{prepare(5), prepare(3), prepare(4), sleep(4), sleep(3), sleep(5)}, outcome{errs{0, 0, 0, 0, 0, 0}, nil, ints{5, 3, 4}, 0}},
		{ops{prepare(5), prepare(3), prepare(4), sleep(4), sleep(3), sleep(5), give}, outcome{errs{0, 0, 0, 0, 0, 0, 0}, nil, ints{3, 4}, 1}},
		{ops{prepare(5), prepare(3), prepare(4), sleep(4), sleep(3), sleep(5), give, give}, outcome{errs{0, 0, 0, 0, 0, 0, 0, 0}, nil, ints{4}, 2}},
		{ops{prepare(5), prepare(3), prepare(4), sleep(4), sleep(3), sleep(5), all}, outcome{errs{0, 0, 0, 0, 0, 0, 0}, nil, nil, 0}},
		// The first one that is not woken is woken, asleep or not.
		{ops{prepare(5), prepare(3), sleep(3), give}, outcome{errs{0, 0, 0, 0}, nil, ints{3}, 1}},
		{ops{prepare(5), prepare(3), sleep(3), give, give}, outcome{errs{0, 0, 0, 0, 0}, nil, nil, 2}},
		// Preparing again keeps the place in the queue.
		{ops{prepare(5), prepare(3), prepare(5), sleep(3), sleep(5)}, outcome{errs{0, 0, 0, 0, 0}, nil, ints{5, 3}, 0}},
		{ops{prepare(5), prepare(3), all, prepare(3), prepare(5), sleep(3), sleep(5), give}, outcome{errs{0, 0, 0, 0, 0, 0, 0, 0}, nil, ints{3}, 1}},
		// Leaving and preparing leads to the end of the queue.
		{ops{prepare(5), prepare(3), give, look(5), prepare(5), sleep(5), sleep(3)}, outcome{errs{0, 0, 0, 0, 0, 0, 0}, ints{5}, ints{3, 5}, 0}},
		// Who obtains an item wakes the next thread if there is another one, else not.
		{ops{prepare(5), prepare(3), sleep(3), give, prepare(5), give, look(5)}, outcome{errs{0, 0, 0, 0, 0, 0, 0}, ints{5}, nil, 1}},
		{ops{prepare(5), prepare(3), sleep(3), give, look(5)}, outcome{errs{0, 0, 0, 0, 0}, ints{5}, ints{3}, 0}},
		{ops{prepare(5), prepare(3), prepare(4), sleep(4), give, prepare(5), give, look(5)}, outcome{errs{0, 0, 0, 0, 0, 0, 0, 0}, ints{5}, ints{4}, 1}},
		// What there is not.
		{ops{{}, {Kind: 6}, {Kind: -1}, {Kind: 6, Thread: 3}}, outcome{errs{5, 5, 5, 5}, nil, nil, 0}},
		{ops{prepare(-1), prepare(64), prepare(0), prepare(63)}, outcome{errs{2, 2, 0, 0}, nil, nil, 0}},
		{ops{{Kind: 4, Thread: -1}, {Kind: 4, Thread: 64}, {Kind: 4}, {Kind: 4, Thread: 63}}, outcome{errs{2, 2, 0, 0}, nil, nil, 2}},
		{ops{prepare(7), sleep(7), {Kind: 5, Thread: -1}, {Kind: 5, Thread: 64}}, outcome{errs{0, 0, 2, 2}, nil, ints{7}, 0}},
		{ops{prepare(7), sleep(7), {Kind: 5, Thread: 63}}, outcome{errs{0, 0, 0}, nil, nil, 0}},
		{ops{look(-1), look(64), sleep(-1), sleep(64)}, outcome{errs{2, 2, 2, 2}, nil, nil, 0}},
	} {
		if got := played(c.ops); !same(got, c.want) {
			t.Errorf("Play(%v) = %v, not %v", c.ops, got, c.want)
		}
		expect(t, c.ops)
	}
}

// TestPlayOfAllSmall looks at all short runs of the outermost threads, and of three threads.
func TestPlayOfAllSmall(t *testing.T) {
	two := []api.WaitOp{prepare(0), look(0), sleep(0), prepare(63), look(63), sleep(63), give, all}
	eachList(two, 6, func(ops []api.WaitOp) { expect(t, ops) })
	three := append(two, prepare(7), look(7), sleep(7))
	eachList(three, 5, func(ops []api.WaitOp) { expect(t, ops) })
}

// TestEachQueue: up to four threads in whatever condition, up to three items, each operation, and then who is woken next, and how often.
func TestEachQueue(t *testing.T) {
	next := []api.WaitOp{give, all}
	for n := range 5 {
		next = append(next, prepare(n), look(n), sleep(n))
	}
	eachList([]int{neither, woken, asleep}, 4, func(conditions []int) {
		for items := range 4 {
			for _, again := range [][]api.WaitOp{nil, {prepare(0)}, {prepare(3), prepare(1), prepare(0)}} {
				start := slices.Concat(arranged(conditions), times(items, give), again)
				expect(t, start)
				for _, o := range next {
					for wakes := range 5 {
						expect(t, slices.Concat(start, []api.WaitOp{o}, times(wakes, give)))
					}
					// When all items are gone, whoever is not woken falls asleep.
					expect(t, slices.Concat(start, []api.WaitOp{o, prepare(9)}, times(4, look(9), prepare(9)), []api.WaitOp{sleep(0), sleep(1), sleep(2), sleep(3), sleep(4)}))
				}
			}
		}
	})
}

// TestEachThread: all threads from below the range to above it, and no thread is another one.
func TestEachThread(t *testing.T) {
	for a := -130; a <= 300; a++ {
		right := a >= 0 && a <= 63
		got := played([]api.WaitOp{prepare(a), sleep(a)})
		if right != slices.Equal(got.asleep, []int{a}) || right != (got.errs[0] == api.OK) || right != (got.errs[1] == api.OK) {
			t.Errorf("thread %d: %v", a, got)
		}
		by := played([]api.WaitOp{prepare(5), sleep(5), {Kind: api.WaitGive, Thread: a}, {Kind: api.WaitAll, Thread: a}})
		if right != (len(by.asleep) == 0) || right != (by.items == 1) || right != (by.errs[2] == api.OK) || right != (by.errs[3] == api.OK) {
			t.Errorf("by thread %d: %v", a, by)
		}
		for b := -2; b <= 66; b++ {
			expect(t, []api.WaitOp{prepare(a), prepare(b), sleep(b), sleep(a), look(a), give, look(b)})
			expect(t, []api.WaitOp{prepare(b), give, look(a), prepare(a), look(b), sleep(a), sleep(b)})
		}
	}
}

// TestFarNumbers: kinds and threads far away from all ranges.
func TestFarNumbers(t *testing.T) {
	for _, kind := range numbers() {
		for _, thread := range numbers() {
			odd := api.WaitOp{Kind: kind, Thread: thread}
			expect(t, []api.WaitOp{odd, prepare(9), odd, sleep(9), odd, prepare(5), odd, give, odd, look(5), odd})
			expect(t, []api.WaitOp{odd, odd, give, odd, odd, sleep(9), odd})
		}
	}
}

// TestWhoGivesDoesNotMatter: whichever thread gives, or wakes all, waiting or not.
func TestWhoGivesDoesNotMatter(t *testing.T) {
	for n := range 64 {
		g, w := api.WaitOp{Kind: api.WaitGive, Thread: n}, api.WaitOp{Kind: api.WaitAll, Thread: n}
		got := played([]api.WaitOp{prepare(8), sleep(8), prepare(3), sleep(3), g, look(8), g, g, prepare(9), look(9), w, look(9)})
		want := outcome{make([]api.Errno, 12), []int{8, 9}, nil, 1}
		want.errs[11] = api.ErrNone
		if !same(got, want) {
			t.Errorf("thread %d: %v, not %v", n, got, want)
		}
		expect(t, []api.WaitOp{prepare(8), prepare(3), sleep(3), sleep(8), w, sleep(3), sleep(8), prepare(3), sleep(3), g, g})
	}
}

// TestAllThreads: all threads wait, in whatever order, and are asleep: they are woken in that order, each by one item, or all at once.
func TestAllThreads(t *testing.T) {
	for _, step := range []int{1, 3, 37, 63} {
		var order []int
		var start []api.WaitOp
		for i := range 64 {
			order = append(order, i*step%64)
			start = append(start, prepare(order[i]))
		}
		for n := range 64 {
			start = append(start, sleep(n))
		}
		for n := range 65 {
			got := played(slices.Concat(start, times(n, give)))
			if want := (outcome{make([]api.Errno, 128+n), nil, order[n:], n}); !same(got, want) {
				t.Errorf("step %d, %d items: %v, not %v", step, n, got, want)
			}
			var looks []api.WaitOp
			for _, thread := range order[:n] {
				looks = append(looks, give, look(thread))
			}
			got = played(slices.Concat(start, looks))
			if want := (outcome{make([]api.Errno, 128+2*n), order[:n], order[n:], 0}); !same(got, want) {
				t.Errorf("step %d, %d threads have looked: %v, not %v", step, n, got, want)
			}
			expect(t, slices.Concat(start, times(n, give), []api.WaitOp{all}, start))
		}
	}
}

// TestMostItems: there are at most 400, however long it takes until they are there.
func TestMostItems(t *testing.T) {
	for n := range 430 {
		want := outcome{make([]api.Errno, n), nil, nil, min(n, 400)}
		for i := 400; i < n; i++ {
			want.errs[i] = api.ErrFull
		}
		if got := played(times(n, give)); !same(got, want) {
			t.Errorf("%d are given: %v", n, got)
		}
		expect(t, slices.Concat(times(n, give), times(3, prepare(1), look(1), give, give)))
	}
	for _, n := range []int{656, 1000, 65536, 65936} {
		if got := played(times(n, give)); got.items != 400 {
			t.Errorf("%d are given: %d items", n, got.items)
		}
	}
}

// TestFullWakesNobody: an item for which there is no room does not wake the thread that a further one is to wake.
func TestFullWakesNobody(t *testing.T) {
	full := slices.Concat([]api.WaitOp{prepare(1), prepare(2), sleep(2), prepare(3), sleep(3)}, times(400, give, prepare(1)))
	for n := range 4 {
		got := played(slices.Concat(full, times(n, give)))
		if !slices.Equal(got.asleep, []int{2, 3}) || got.items != 400 {
			t.Errorf("%d too many are given: %v are asleep, %d items", n, got.asleep, got.items)
		}
		got = played(slices.Concat(full, times(n, give), []api.WaitOp{prepare(9), look(9)}))
		if !slices.Equal(got.asleep, []int{2, 3}) || got.items != 399 {
			t.Errorf("%d too many were given before the next thread is woken: %v are asleep, %d items", n, got.asleep, got.items)
		}
		expect(t, slices.Concat(full, times(n, give), times(4, prepare(9), look(9), give, give), []api.WaitOp{all}))
	}
}

// TestManyOperations: MaxOps is no limit for operations, nor for how often an item is obtained.
func TestManyOperations(t *testing.T) {
	const many = 100_000
	got := played(times(many, prepare(6), sleep(6), give, look(6)))
	if want := (outcome{make([]api.Errno, 4*many), slices.Repeat([]int{6}, many), nil, 0}); !same(got, want) {
		t.Errorf("%d times asleep and woken: %d obtained, %v are asleep, %d items", many, len(got.obtained), got.asleep, got.items)
	}
	for _, n := range []int{399, 400, 401, 402, 512, 65536, 65537} {
		for _, o := range []api.WaitOp{{}, prepare(1), prepare(-1), look(1), sleep(1), give, all} {
			expect(t, times(n, o))
			expect(t, slices.Concat([]api.WaitOp{prepare(1)}, times(n, o)))
		}
	}
}

func TestLongRuns(t *testing.T) {
	for seed := range uint32(2000) {
		roll := scatter(seed)
		for _, threads := range []int{1, 2, 5, 20, 64} {
			expect(t, scattered(roll, 1+roll(400), threads))
		}
	}
	for seed := range uint32(20) {
		expect(t, scattered(scatter(seed), 20000, 64))
	}
}

// TestOrderOfErrors: each operation has two errors, of which the first in the chapter's order is told.
func TestOrderOfErrors(t *testing.T) {
	sleeping := []api.WaitOp{prepare(7), sleep(7)}
	// Thread 7 is asleep, though there are items.
	full := slices.Concat([]api.WaitOp{prepare(6)}, sleeping, times(400, give, prepare(6)))
	for _, c := range []struct {
		before []api.WaitOp
		op     api.WaitOp
		want   api.Errno
	}{
		{nil, api.WaitOp{Kind: 0, Thread: -1}, api.ErrKind},
		{nil, api.WaitOp{Kind: 6, Thread: 64}, api.ErrKind},
		{nil, api.WaitOp{Kind: -1, Thread: 64}, api.ErrKind},
		{sleeping, api.WaitOp{Kind: 6, Thread: 7}, api.ErrKind},
		{full, api.WaitOp{Kind: 6, Thread: 64}, api.ErrKind},
		{nil, look(64), api.ErrRange},
		{nil, sleep(-1), api.ErrRange},
		{full, api.WaitOp{Kind: api.WaitGive, Thread: 64}, api.ErrRange},
		{full, api.WaitOp{Kind: api.WaitGive, Thread: -1}, api.ErrRange},
		{sleeping, look(7), api.ErrAgain}, // there is no item, either
		{full, look(7), api.ErrAgain},
		{full, sleep(7), api.ErrAgain},
		{full, prepare(7), api.ErrAgain},
		{nil, look(7), api.ErrNone}, // there is no item, either
		{sleeping, look(8), api.ErrNone},
		{full, api.WaitOp{Kind: api.WaitGive, Thread: 7}, api.ErrFull},
	} {
		want := played(c.before)
		want.errs = append(want.errs, c.want)
		if got := played(slices.Concat(c.before, []api.WaitOp{c.op})); !same(got, want) {
			t.Errorf("%v behind %d operations: %v, not %v", c.op, len(c.before), got, want)
		}
	}
}

// TestErrorsHaveNoEffect: without the operations that have an error, all is the same.
func TestErrorsHaveNoEffect(t *testing.T) {
	for seed := range uint32(500) {
		ops := scattered(scatter(seed), 200, 6)
		got := played(ops)
		var kept []api.WaitOp
		for i, e := range got.errs {
			if e == api.OK {
				kept = append(kept, ops[i])
			}
		}
		want := outcome{make([]api.Errno, len(kept)), got.obtained, got.asleep, got.items}
		if again := played(kept); !same(again, want) || len(kept) == len(ops) {
			t.Errorf("Play(%v) = %v, not %v", kept, again, want)
		}
	}
}

// TestNoItemIsLost: what was given was obtained, or is left.
func TestNoItemIsLost(t *testing.T) {
	for seed := range uint32(500) {
		ops := scattered(scatter(seed), 400, 10)
		got := played(ops)
		given, looked := 0, []int(nil)
		for i, o := range ops {
			switch {
			case got.errs[i] != api.OK:
			case o.Kind == api.WaitGive:
				given++
			case o.Kind == api.WaitLook:
				looked = append(looked, o.Thread)
			}
		}
		if given != len(got.obtained)+got.items || !slices.Equal(looked, got.obtained) {
			t.Errorf("Play(%v) = %v: %d were given, %v looked", ops, got, given, looked)
		}
	}
}

// waiting are the threads that have prepared, and have not obtained an item since.
func waiting(ops []api.WaitOp, errs []api.Errno) []int {
	var waits [64]bool
	for i, o := range ops {
		if errs[i] == api.OK && o.Kind <= api.WaitLook {
			waits[o.Thread] = o.Kind == api.WaitPrepare
		}
	}
	var l []int
	for n, is := range waits {
		if is {
			l = append(l, n)
		}
	}
	return l
}

// TestNoWakeupIsMissed: while there are items, not all who wait are asleep; and if those that are awake look, nobody stays there, or no item.
func TestNoWakeupIsMissed(t *testing.T) {
	for seed := range uint32(1500) {
		roll := scatter(seed)
		ops := scattered(roll, roll(120), 1+roll(12))
		for {
			got := played(ops)
			l := waiting(ops, got.errs)
			if got.items == 0 || len(l) == 0 {
				break
			}
			awake := slices.DeleteFunc(l, func(n int) bool { return slices.Contains(got.asleep, n) })
			if len(awake) == 0 {
				t.Errorf("Play(%v) = %v: all are asleep", ops, got)
				break
			}
			ops = append(ops, look(awake[roll(len(awake))]))
			if e := played(ops).errs[len(ops)-1]; e != api.OK {
				t.Errorf("Play(%v): %d at the end", ops, e)
				break
			}
		}
	}
}

// TestWhoFallsAsleepAndWhoIsWoken: nobody else falls asleep than who sleeps without an item, and nobody else is woken than the first one for an item, or all.
func TestWhoFallsAsleepAndWhoIsWoken(t *testing.T) {
	for seed := range uint32(300) {
		roll := scatter(seed)
		ops := scattered(roll, 80, 2+roll(8))
		before := played(nil)
		for n, o := range ops {
			now := played(ops[:n+1])
			slept := slices.DeleteFunc(slices.Clone(now.asleep), func(t int) bool { return slices.Contains(before.asleep, t) })
			woke := slices.DeleteFunc(slices.Clone(before.asleep), func(t int) bool { return slices.Contains(now.asleep, t) })
			ok := now.errs[n] == api.OK
			mayWakeOne := ok && (o.Kind == api.WaitGive || o.Kind == api.WaitLook && now.items > 0)
			switch {
			case len(slept) > 0 && !(ok && o.Kind == api.WaitSleep && now.items == 0 && slices.Equal(slept, []int{o.Thread})):
				t.Errorf("Play(%v): %v fell asleep", ops[:n+1], slept)
			case ok && o.Kind == api.WaitAll && len(now.asleep) > 0:
				t.Errorf("Play(%v): %v are still asleep", ops[:n+1], now.asleep)
			case mayWakeOne && (len(woke) > 1 || len(woke) == 1 && woke[0] != before.asleep[0]):
				t.Errorf("Play(%v): %v were woken, of %v", ops[:n+1], woke, before.asleep)
			case !mayWakeOne && len(woke) > 0 && !(ok && o.Kind == api.WaitAll):
				t.Errorf("Play(%v): %v were woken", ops[:n+1], woke)
			}
			before = now
		}
	}
}

// TestThreadsAreAlike: with other numbers the same happens, to the others.
func TestThreadsAreAlike(t *testing.T) {
	for seed := range uint32(300) {
		ops := scattered(scatter(seed), 200, 64)
		for _, other := range []func(n int) int{
			func(n int) int { return 63 - n },
			func(n int) int { return n ^ 21 },
			func(n int) int { return (n*29 + 7) & 63 },
		} {
			rename := func(l []int) []int {
				l = slices.Clone(l)
				for i := range l {
					l[i] = other(l[i])
				}
				return l
			}
			renamed := slices.Clone(ops)
			for i, o := range ops {
				if o.Thread >= 0 && o.Thread <= 63 {
					renamed[i].Thread = other(o.Thread)
				}
			}
			got := played(ops)
			want := outcome{got.errs, rename(got.obtained), rename(got.asleep), got.items}
			if again := played(renamed); !same(again, want) {
				t.Errorf("Play(%v) = %v, not %v", renamed, again, want)
			}
		}
	}
}

// Z1

func TestNothingIsKept(t *testing.T) {
	ops := scattered(scatter(5), 300, 10)
	once := played(ops)
	played([]api.WaitOp{prepare(1), sleep(1), prepare(2), prepare(3), give, give})
	if again := played(ops); !same(once, again) {
		t.Errorf("Play = %v, and then %v", once, again)
	}
	if got := played([]api.WaitOp{look(1), look(2), sleep(3), prepare(2), look(2)}); !same(got, outcome{errs: []api.Errno{3, 3, 3, 0, 6}}) {
		t.Errorf("a thread or an item of an earlier call is there: %v", got)
	}
}

// Z2

// TestPlayLeavesItsArgument: it does not change, what is behind it does not matter, and the results are in memory of their own.
func TestPlayLeavesItsArgument(t *testing.T) {
	for n := range 90 {
		room := scattered(scatter(uint32(n)), n+9, 8)
		room[n] = all
		whole := slices.Clone(room)
		got := played(room[:n])
		if want := foretold(slices.Clone(room[:n])); !same(got, want) {
			t.Fatalf("what is behind %d operations matters: %v, not %v", n, got, want)
		}
		if !slices.Equal(room, whole) {
			t.Fatalf("%d operations, or what is behind them, have changed", n)
		}
		kept := outcome{slices.Clone(got.errs), slices.Clone(got.obtained), slices.Clone(got.asleep), got.items}
		a, b := played(room[:n]), played(room[:n])
		clear(a.obtained[:cap(a.obtained)])
		clear(b.asleep[:cap(b.asleep)])
		if !slices.Equal(a.asleep, kept.asleep) || !slices.Equal(b.obtained, kept.obtained) {
			t.Fatalf("%d operations: two results are in the same memory", n)
		}
		clear(room)
		if !same(got, kept) {
			t.Fatalf("the results for %d operations are in other memory, too", n)
		}
	}
}

// Z3

func TestNilAndEmpty(t *testing.T) {
	if a, b := played(nil), played([]api.WaitOp{}); !same(a, outcome{}) || !same(b, outcome{}) {
		t.Errorf("Play of nothing = %v, or %v", a, b)
	}
}
