package rank_test

import (
	"math"
	"slices"
	"testing"

	"corebell/api"
	"corebell/rank"
)

// thread is the state told in another way: each thread knows what it holds and what it waits for.
type thread struct {
	holds map[int]bool
	waits []int // at most one
}

type model struct {
	threads []thread
	locks   int
	ranked  bool
}

func newModel(threads, locks int, ranked bool) *model {
	m := &model{threads: make([]thread, threads), locks: locks, ranked: ranked}
	for i := range m.threads {
		m.threads[i].holds = map[int]bool{}
	}
	return m
}

func (m *model) free(lock int) bool {
	for _, t := range m.threads {
		if t.holds[lock] {
			return false
		}
	}
	return true
}

func (m *model) step(op api.RankOp) api.Errno {
	if op.Kind != 1 && op.Kind != 2 {
		return api.ErrKind
	}
	if op.Thread < 0 || op.Thread >= len(m.threads) || op.Lock < 0 || op.Lock >= m.locks {
		return api.ErrRange
	}
	t := &m.threads[op.Thread]
	if op.Kind == 2 {
		if len(t.waits) > 0 || !t.holds[op.Lock] {
			return api.ErrNone
		}
		delete(t.holds, op.Lock)
		return api.OK
	}
	if t.holds[op.Lock] {
		return api.ErrHeld
	}
	if m.ranked {
		for lock := range t.holds {
			if lock > op.Lock {
				return api.ErrRank
			}
		}
	}
	if len(t.waits) > 0 && t.waits[0] != op.Lock {
		return api.ErrNone
	}
	if !m.free(op.Lock) {
		t.waits = []int{op.Lock}
		return api.ErrAgain
	}
	t.waits = nil
	t.holds[op.Lock] = true
	return api.OK
}

func (m *model) told() (holder, waits []int) {
	holder = slices.Repeat([]int{-1}, m.locks)
	waits = slices.Repeat([]int{-1}, len(m.threads))
	for i, t := range m.threads {
		for lock := range t.holds {
			holder[lock] = i
		}
		for _, lock := range t.waits {
			waits[i] = lock
		}
	}
	return holder, waits
}

// circle follows the successors of each thread as many times as there are threads.
func circle(holder, waits []int) []int {
	for first := range waits {
		path, at := []int{first}, first
		for range waits {
			lock := waits[at]
			if lock < 0 || lock >= len(holder) || holder[lock] < 0 || holder[lock] >= len(waits) {
				break
			}
			if at = holder[lock]; at == first {
				return path
			}
			path = append(path, at)
		}
	}
	return nil
}

// scatter returns a function whose results are below its argument, and the same in each run.
func scatter(seed uint32) func(n int) int {
	return func(n int) int {
		seed = seed*1664525 + 1013904223
		return int(seed>>8) % n
	}
}

// numbers are the ends of the ranges, what is beside them, and what a narrower integer would take for a small one.
func numbers() []int {
	return []int{
		math.MinInt, math.MinInt + 1, -1 << 32, -1<<32 + 1, -1<<31 - 1, -1 << 16, -257, -256, -255, -17, -16, -2, -1,
		0, 1, 2, 3, 15, 16, 17, 64, 127, 128, 255, 256, 257, 258, 1 << 16, 1<<16 + 1, 1<<32 - 1, 1 << 32, 1<<32 + 1, 1<<32 + 2, 1 << 62, math.MaxInt - 1, math.MaxInt,
	}
}

func take(thread, lock int) api.RankOp {
	return api.RankOp{Kind: api.RankTake, Thread: thread, Lock: lock}
}

func give(thread, lock int) api.RankOp {
	return api.RankOp{Kind: api.RankGive, Thread: thread, Lock: lock}
}

func expectPlay(t *testing.T, threads, locks int, ranked bool, ops []api.RankOp) (holder, waits []int) {
	t.Helper()
	m := newModel(threads, locks, ranked)
	want := make([]api.Errno, len(ops))
	for i, op := range ops {
		want[i] = m.step(op)
	}
	wantHolder, wantWaits := m.told()
	errs, holder, waits, e := rank.Play(threads, locks, ranked, ops)
	if !slices.Equal(errs, want) || !slices.Equal(holder, wantHolder) || !slices.Equal(waits, wantWaits) || e != api.OK {
		t.Fatalf("Play(%d, %d, %v, %v) = %v, %v, %v, %d, not %v, %v, %v", threads, locks, ranked, ops, errs, holder, waits, e, want, wantHolder, wantWaits)
	}
	return holder, waits
}

func expectCircle(t *testing.T, holder, waits []int) []int {
	t.Helper()
	got, want := rank.Circle(holder, waits), circle(holder, waits)
	if !slices.Equal(got, want) {
		t.Fatalf("Circle(%v, %v) = %v, not %v", holder, waits, got, want)
	}
	return got
}

// scatteredOps are operations of which most are about threads and locks that there are.
func scatteredOps(roll func(int) int, threads, locks, n int) []api.RankOp {
	ops := make([]api.RankOp, n)
	for i := range ops {
		ops[i] = api.RankOp{Kind: 1 + roll(2), Thread: roll(threads), Lock: roll(locks)}
		far := numbers()[roll(len(numbers()))]
		switch roll(30) {
		case 0:
			ops[i].Kind = far
		case 1:
			ops[i].Thread = far
		case 2:
			ops[i].Lock = far
		}
	}
	return ops
}

// H1

func TestPlayByHand(t *testing.T) {
	for _, c := range []struct {
		name          string
		ranked        bool
		ops           []api.RankOp
		errs          []api.Errno
		holder, waits []int
	}{
		{"nothing", false, nil, nil, []int{-1, -1, -1}, []int{-1, -1}},
		{"nothing, ranked", true, []api.RankOp{}, nil, []int{-1, -1, -1}, []int{-1, -1}},
		{"taken", true, []api.RankOp{take(1, 2)}, []api.Errno{0}, []int{-1, -1, 1}, []int{-1, -1}},
		{"taken and given", true, []api.RankOp{take(1, 2), give(1, 2)}, []api.Errno{0, 0}, []int{-1, -1, -1}, []int{-1, -1}},
		{"taken twice", true, []api.RankOp{take(1, 2), take(1, 2)}, []api.Errno{0, 6}, []int{-1, -1, 1}, []int{-1, -1}},
		{"given without having it", false, []api.RankOp{give(0, 0), take(1, 0), give(0, 0)}, []api.Errno{3, 0, 3}, []int{1, -1, -1}, []int{-1, -1}},
		{"waiting", true, []api.RankOp{take(0, 1), take(1, 1)}, []api.Errno{0, 7}, []int{-1, 0, -1}, []int{-1, 1}},
		{"waiting still", true, []api.RankOp{take(0, 1), take(1, 1), take(1, 1)}, []api.Errno{0, 7, 7}, []int{-1, 0, -1}, []int{-1, 1}},
		// To be given back is not enough: the thread that waits must ask again.
		{"given to nobody", true, []api.RankOp{take(0, 1), take(1, 1), give(0, 1)}, []api.Errno{0, 7, 0}, []int{-1, -1, -1}, []int{-1, 1}},
		{"the end of waiting", true, []api.RankOp{take(0, 1), take(1, 1), give(0, 1), take(1, 1)}, []api.Errno{0, 7, 0, 0}, []int{-1, 1, -1}, []int{-1, -1}},
		{"taken from before the one that waits", true, []api.RankOp{take(0, 1), take(1, 1), give(0, 1), take(0, 1), take(1, 1)}, []api.Errno{0, 7, 0, 0, 7}, []int{-1, 0, -1}, []int{-1, 1}},
		{"another lock while waiting", false, []api.RankOp{take(0, 1), take(1, 1), take(1, 2), take(1, 0)}, []api.Errno{0, 7, 3, 3}, []int{-1, 0, -1}, []int{-1, 1}},
		{"another's lock while waiting", false, []api.RankOp{take(0, 1), take(0, 2), take(1, 1), take(1, 2)}, []api.Errno{0, 0, 7, 3}, []int{-1, 0, 0}, []int{-1, 1}},
		{"giving while waiting", true, []api.RankOp{take(1, 0), take(0, 1), take(1, 1), give(1, 0), give(1, 1)}, []api.Errno{0, 0, 7, 3, 3}, []int{1, 0, -1}, []int{-1, 1}},
		{"giving after waiting", true, []api.RankOp{take(1, 0), take(0, 1), take(1, 1), give(0, 1), give(1, 0), take(1, 1), give(1, 0)}, []api.Errno{0, 0, 7, 0, 3, 0, 0}, []int{-1, 1, -1}, []int{-1, -1}},
		{"upwards", true, []api.RankOp{take(0, 0), take(0, 1), take(0, 2)}, []api.Errno{0, 0, 0}, []int{0, 0, 0}, []int{-1, -1}},
		{"downwards", true, []api.RankOp{take(0, 2), take(0, 1), take(0, 0)}, []api.Errno{0, 8, 8}, []int{-1, -1, 0}, []int{-1, -1}},
		{"downwards, not ranked", false, []api.RankOp{take(0, 2), take(0, 1), take(0, 0)}, []api.Errno{0, 0, 0}, []int{0, 0, 0}, []int{-1, -1}},
		{"another's larger lock", true, []api.RankOp{take(1, 2), take(0, 1), take(0, 0)}, []api.Errno{0, 0, 8}, []int{-1, 0, 1}, []int{-1, -1}},
		{"in between", true, []api.RankOp{take(0, 0), take(0, 2), take(0, 1), give(0, 2), take(0, 1)}, []api.Errno{0, 0, 8, 0, 0}, []int{0, 0, -1}, []int{-1, -1}},
		// Out of order is not waited for, either.
		{"another's smaller lock", true, []api.RankOp{take(0, 0), take(1, 1), take(1, 0)}, []api.Errno{0, 0, 8}, []int{0, 1, -1}, []int{-1, -1}},
		{"one for the other", false, []api.RankOp{take(0, 0), take(1, 1), take(0, 1), take(1, 0)}, []api.Errno{0, 0, 7, 7}, []int{0, 1, -1}, []int{1, 0}},
		{"one for the other, ranked", true, []api.RankOp{take(0, 0), take(1, 1), take(0, 1), take(1, 0)}, []api.Errno{0, 0, 7, 8}, []int{0, 1, -1}, []int{1, -1}},
		{"none such", false, []api.RankOp{{}, {Kind: 3}, {Kind: -1}, take(2, 0), take(0, 3), give(-1, 0), give(0, -1), give(2, 3)}, []api.Errno{5, 5, 5, 2, 2, 2, 2, 2}, []int{-1, -1, -1}, []int{-1, -1}},
	} {
		errs, holder, waits, e := rank.Play(2, 3, c.ranked, c.ops)
		if !slices.Equal(errs, c.errs) || !slices.Equal(holder, c.holder) || !slices.Equal(waits, c.waits) || e != api.OK {
			t.Errorf("%s: %v, %v, %v, %d, not %v, %v, %v", c.name, errs, holder, waits, e, c.errs, c.holder, c.waits)
		}
		expectPlay(t, 2, 3, c.ranked, c.ops)
	}
}

// TestOrderOfErrors: each last operation has two errors or more, of which the first in the chapter's order is told.
func TestOrderOfErrors(t *testing.T) {
	for _, c := range []struct {
		name   string
		before []api.RankOp
		op     api.RankOp
		want   api.Errno
	}{
		{"kind and thread", nil, api.RankOp{Kind: 3, Thread: 9}, api.ErrKind},
		{"kind and lock", nil, api.RankOp{Kind: 0, Lock: -1}, api.ErrKind},
		{"thread and not held", nil, give(-1, 0), api.ErrRange},
		{"lock and not held", nil, give(0, 16), api.ErrRange},
		{"lock and waiting", []api.RankOp{take(1, 1), take(0, 1)}, give(0, 3), api.ErrRange},
		{"lock and rank", []api.RankOp{take(0, 2)}, take(0, -1), api.ErrRange},
		{"lock and waiting for another one", []api.RankOp{take(1, 1), take(0, 1)}, take(0, 3), api.ErrRange},
		{"held and rank", []api.RankOp{take(0, 0), take(0, 2)}, take(0, 0), api.ErrHeld},
		{"held and waiting for another one", []api.RankOp{take(0, 0), take(1, 1), take(0, 1)}, take(0, 0), api.ErrHeld},
		{"rank and waiting for another one", []api.RankOp{take(0, 1), take(1, 2), take(0, 2)}, take(0, 0), api.ErrRank},
		{"rank and another's", []api.RankOp{take(1, 0), take(0, 1)}, take(0, 0), api.ErrRank},
		{"rank, waiting for another one, and another's", []api.RankOp{take(1, 0), take(0, 1), take(1, 2), take(0, 2)}, take(0, 0), api.ErrRank},
		{"waiting for another one and another's", []api.RankOp{take(1, 1), take(1, 2), take(0, 1)}, take(0, 2), api.ErrNone},
	} {
		_, holder, waits, _ := rank.Play(2, 3, true, c.before)
		errs, holderAfter, waitsAfter, e := rank.Play(2, 3, true, append(slices.Clone(c.before), c.op))
		if e != api.OK || errs[len(c.before)] != c.want || !slices.Equal(holderAfter, holder) || !slices.Equal(waitsAfter, waits) {
			t.Errorf("%s: %v, %v, %v, not %d behind %v, %v", c.name, errs, holderAfter, waitsAfter, c.want, holder, waits)
		}
	}
}

func TestRangeOfPlay(t *testing.T) {
	ops := []api.RankOp{take(0, 0), {}, take(99, 0)}
	for _, threads := range numbers() {
		for _, locks := range numbers() {
			for _, ranked := range []bool{false, true} {
				if threads >= 1 && threads <= 16 && locks >= 1 && locks <= 16 {
					expectPlay(t, threads, locks, ranked, ops)
					continue
				}
				for _, l := range [][]api.RankOp{nil, ops} {
					errs, holder, waits, e := rank.Play(threads, locks, ranked, l)
					if len(errs) != 0 || len(holder) != 0 || len(waits) != 0 || e != api.ErrRange {
						t.Errorf("Play(%d, %d, %v, %v) = %v, %v, %v, %d", threads, locks, ranked, l, errs, holder, waits, e)
					}
				}
			}
		}
	}
}

// TestPlayOfAllSizes: each thread and each lock that there is can be used, and those beside them cannot.
func TestPlayOfAllSizes(t *testing.T) {
	for threads := 1; threads <= 16; threads++ {
		for locks := 1; locks <= 16; locks++ {
			var ops []api.RankOp
			for thread := -1; thread <= 17; thread++ {
				for lock := -1; lock <= 17; lock++ {
					ops = append(ops, take(thread, lock), give(thread, lock), take(thread, lock), take((thread+5)%threads, lock))
				}
			}
			expectPlay(t, threads, locks, false, ops)
			expectPlay(t, threads, locks, true, ops)
		}
	}
}

func TestPlayOfFarNumbers(t *testing.T) {
	before := []api.RankOp{take(0, 0), take(1, 1), take(2, 2), take(0, 1)}
	for _, n := range numbers() {
		for _, ranked := range []bool{false, true} {
			for kind := 1; kind <= 2; kind++ {
				expectPlay(t, 3, 3, ranked, append(slices.Clone(before), api.RankOp{Kind: kind, Thread: n, Lock: 1}))
				expectPlay(t, 3, 3, ranked, append(slices.Clone(before), api.RankOp{Kind: kind, Thread: 1, Lock: n}))
				expectPlay(t, 3, 3, ranked, append(slices.Clone(before), api.RankOp{Kind: kind, Thread: n, Lock: n}))
			}
			expectPlay(t, 3, 3, ranked, append(slices.Clone(before), api.RankOp{Kind: n, Thread: 1, Lock: 1}, api.RankOp{Kind: n, Thread: n, Lock: n}))
		}
	}
}

// TestPlayOfAllShort looks at all runs of up to five operations of two threads with two locks.
func TestPlayOfAllShort(t *testing.T) {
	for length := range 6 {
		count := 1
		for range length {
			count *= 8
		}
		for n := range count {
			ops := make([]api.RankOp, length)
			for i := range ops {
				ops[i] = api.RankOp{Kind: 1 + n%2, Thread: n / 2 % 2, Lock: n / 4 % 2}
				n /= 8
			}
			for _, ranked := range []bool{false, true} {
				holder, waits := expectPlay(t, 2, 2, ranked, ops)
				expectCircle(t, holder, waits)
			}
		}
	}
}

func TestPlayInSequence(t *testing.T) {
	for seed := range uint32(600) {
		roll := scatter(seed)
		threads, locks := 1+roll(16), 1+roll(16)
		if seed%2 == 0 {
			threads, locks = 2+roll(3), 2+roll(3)
		}
		ops := scatteredOps(roll, threads, locks, roll(300))
		for _, ranked := range []bool{false, true} {
			holder, waits := expectPlay(t, threads, locks, ranked, ops)
			expectCircle(t, holder, waits)
		}
	}
}

func TestPlayOfPrefixes(t *testing.T) {
	for seed := range uint32(20) {
		ops := scatteredOps(scatter(seed), 4, 5, 120)
		whole, _, _, _ := rank.Play(4, 5, seed%2 == 0, ops)
		for n := range len(ops) + 1 {
			errs, _, _, _ := rank.Play(4, 5, seed%2 == 0, ops[:n])
			if !slices.Equal(errs, whole[:n]) {
				t.Fatalf("%d operations: %v, not %v", n, errs, whole[:n])
			}
			expectPlay(t, 4, 5, seed%2 == 0, ops[:n])
		}
	}
}

// TestRanksExcludeDeadlocks: with ranks there is never a circle; without them such runs have one in the end.
func TestRanksExcludeDeadlocks(t *testing.T) {
	circles := 0
	for seed := range uint32(60) {
		roll := scatter(seed)
		threads, locks := 2+roll(15), 2+roll(15)
		ops := scatteredOps(roll, threads, locks, 400)
		for n := range len(ops) + 1 {
			_, holder, waits, _ := rank.Play(threads, locks, true, ops[:n])
			if c := rank.Circle(holder, waits); len(c) > 0 {
				t.Fatalf("seed %d, %d operations: %v, %v have the circle %v", seed, n, holder, waits, c)
			}
		}
		_, holder, waits, _ := rank.Play(threads, locks, false, ops)
		if len(rank.Circle(holder, waits)) > 0 {
			circles++
		}
	}
	if circles < 30 {
		t.Errorf("only %d of 60 runs without ranks have a circle", circles)
	}
}

// TestRoundTable: each thread takes its lock and then the next one's; only without ranks all of them wait.
func TestRoundTable(t *testing.T) {
	for n := 2; n <= 16; n++ {
		var ops []api.RankOp
		var all []int
		for i := range n {
			ops = append(ops, take(i, i))
			all = append(all, i)
		}
		for i := range n {
			ops = append(ops, take(i, (i+1)%n))
		}
		holder, waits := expectPlay(t, n, n, false, ops)
		if c := expectCircle(t, holder, waits); !slices.Equal(c, all) {
			t.Errorf("%d threads: the circle is %v", n, c)
		}
		holder, waits = expectPlay(t, n, n, true, ops)
		if c := expectCircle(t, holder, waits); len(c) != 0 || waits[n-1] != -1 {
			t.Errorf("%d threads, ranked: %v, %v", n, c, waits)
		}
	}
}

// H2

func TestCircleByHand(t *testing.T) {
	for _, c := range []struct {
		name          string
		holder, waits []int
		want          []int
	}{
		{"nothing", nil, nil, nil},
		{"no threads", []int{0, 1, -1}, nil, nil},
		{"no locks", nil, []int{0, 1, -1}, nil},
		{"nobody waits", []int{0, 1}, []int{-1, -1}, nil},
		{"a free lock", []int{-1}, []int{0, 0}, nil},
		{"the chapter's example", []int{0, 1}, []int{1, 0}, []int{0, 1}},
		{"for itself", []int{0}, []int{0}, []int{0}},
		{"a chain", []int{0, 1, 2}, []int{1, 2, -1}, nil},
		{"a chain to a free lock", []int{0, 1, -1}, []int{1, 2}, nil},
		{"three of them", []int{1, 2, 0}, []int{0, 1, 2}, []int{0, 1, 2}},
		{"three of them, the other way round", []int{2, 0, 1}, []int{0, 1, 2}, []int{0, 2, 1}},
		{"a way into it", []int{0, 1, 2}, []int{1, 2, 1}, []int{1, 2}},
		{"a way into it from behind", []int{0, 1, 2, 3}, []int{1, 0, 0, 2}, []int{0, 1}},
		{"the way in at its largest thread", []int{0, 1, 2, 3}, []int{3, 2, 3, 1}, []int{1, 2, 3}},
		{"two of them", []int{0, 1, 2, 3}, []int{1, 0, 3, 2}, []int{0, 1}},
		// Thread 0 leads to the circle of 2 and 3; that of 1 and 4 has the smaller thread.
		{"two of them, the other one found first", []int{0, 1, 2, 3, 4}, []int{3, 4, 3, 2, 1}, []int{1, 4}},
		{"two of them, one for itself", []int{0, 1, 2, 3}, []int{3, 2, 1, 3}, []int{1, 2}},
		{"by the last lock", []int{-1, -1, 0}, []int{2}, []int{0}},
		{"no such lock", []int{0, 1}, []int{2, -2}, nil},
		{"no such thread", []int{2, -2}, []int{0, 1}, nil},
		{"one lock for two", []int{1, 1}, []int{0, 1}, []int{1}},
	} {
		if got := rank.Circle(c.holder, c.waits); !slices.Equal(got, c.want) {
			t.Errorf("%s: Circle(%v, %v) = %v, not %v", c.name, c.holder, c.waits, got, c.want)
		}
		expectCircle(t, c.holder, c.waits)
	}
}

// counted calls f with all lists of n numbers from -1 to most.
func counted(n, most int, f func(list []int)) {
	list := slices.Repeat([]int{-1}, n)
	for {
		f(list)
		at := 0
		for at < n && list[at] == most {
			list[at] = -1
			at++
		}
		if at == n {
			return
		}
		list[at]++
	}
}

func TestCircleOfAllSmall(t *testing.T) {
	for locks := range 4 {
		for threads := range 4 {
			counted(locks, threads, func(holder []int) {
				counted(threads, locks, func(waits []int) {
					expectCircle(t, holder, waits)
				})
			})
		}
	}
}

// TestCircleOfAllSuccessors: thread n holds lock n, so that each thread can have any successor.
func TestCircleOfAllSuccessors(t *testing.T) {
	for n := range 7 {
		holder := make([]int, n)
		for i := range holder {
			holder[i] = i
		}
		counted(n, n-1, func(waits []int) { expectCircle(t, holder, waits) })
	}
}

func TestCircleOfFarNumbers(t *testing.T) {
	for _, n := range numbers() {
		for _, m := range numbers() {
			expectCircle(t, []int{n, m}, []int{0, 1})
			expectCircle(t, []int{0, 1}, []int{n, m})
			expectCircle(t, []int{n, 0, 1}, []int{m, 1})
			expectCircle(t, []int{0, n, 1}, []int{2, m})
		}
	}
}

func TestCircleOfMany(t *testing.T) {
	found := 0
	for seed := range uint32(400) {
		roll := scatter(seed)
		holder, waits := make([]int, 1+roll(60)), make([]int, 1+roll(60))
		for i := range holder {
			holder[i] = roll(len(waits)+2) - 1
		}
		for i := range waits {
			waits[i] = roll(len(holder)+2) - 1
		}
		if len(expectCircle(t, holder, waits)) > 0 {
			found++
		}
	}
	if found < 100 || found > 350 {
		t.Errorf("%d of 400 have a circle", found)
	}
}

// shifted are n threads of which each waits for the next one, and the last one for thread to.
func shifted(n, to int) (holder, waits []int) {
	for i := range n {
		holder = append(holder, i)
		waits = append(waits, i+1)
	}
	waits[n-1] = to
	return holder, waits
}

func TestLargeCircles(t *testing.T) {
	const n = 1 << 18
	for _, to := range []int{0, 1, n / 2, n - 2, n - 1, n, -1} {
		want := 0
		if to >= 0 {
			want = n - to
		}
		holder, waits := shifted(n, to)
		c := rank.Circle(holder, waits)
		if len(c) != want {
			t.Errorf("back to %d: %d threads, not %d", to, len(c), want)
		}
		for i, at := range c {
			if at != to+i {
				t.Fatalf("back to %d: thread %d of the circle is %d", to, i, at)
			}
		}
	}
	// The other way round: each thread waits for the one before it.
	holder, waits := shifted(n, -1)
	for i := range waits {
		waits[i] = i - 1
	}
	if c := rank.Circle(holder, waits); len(c) != 0 {
		t.Errorf("a chain backwards: %d threads", len(c))
	}
	waits[0] = n - 1
	if c := rank.Circle(holder, waits); len(c) != n || c[0] != 0 || c[1] != n-1 || c[n-1] != 1 {
		t.Errorf("a circle backwards: %d threads", len(c))
	}
}

// Z1

func TestManyOperations(t *testing.T) {
	const rounds = 50000
	ops := slices.Repeat([]api.RankOp{take(0, 3), take(1, 3), give(0, 3), take(1, 3), give(1, 3)}, rounds)
	errs, holder, waits, e := rank.Play(16, 16, true, ops)
	if len(errs) != len(ops) || slices.Max(holder) != -1 || slices.Max(waits) != -1 || e != api.OK {
		t.Errorf("%d codes, %v, %v, %d", len(errs), holder, waits, e)
	}
	for i, e := range errs {
		if want := []api.Errno{0, 7, 0, 0, 0}[i%5]; e != want {
			t.Fatalf("operation %d: %d, not %d", i, e, want)
		}
	}
}

func TestNothingIsKept(t *testing.T) {
	ops := scatteredOps(scatter(3), 5, 5, 90)
	errs, holder, waits, _ := rank.Play(5, 5, false, ops)
	c := rank.Circle(holder, waits)
	rank.Play(16, 16, true, scatteredOps(scatter(4), 16, 16, 90))
	rank.Circle([]int{1, 0}, []int{0, 1})
	again, holderAgain, waitsAgain, _ := rank.Play(5, 5, false, ops)
	if !slices.Equal(errs, again) || !slices.Equal(holder, holderAgain) || !slices.Equal(waits, waitsAgain) {
		t.Errorf("Play = %v, %v, %v, and then %v, %v, %v", errs, holder, waits, again, holderAgain, waitsAgain)
	}
	if d := rank.Circle(holder, waits); !slices.Equal(c, d) {
		t.Errorf("Circle = %v, and then %v", c, d)
	}
}

// Z2

func TestPlayLeavesItsArgument(t *testing.T) {
	room := scatteredOps(scatter(5), 6, 6, 80)
	whole := slices.Clone(room)
	errs, holder, waits, _ := rank.Play(6, 6, true, room[:50])
	if !slices.Equal(room, whole) {
		t.Errorf("the operations, or what is behind them, have changed")
	}
	clear(room[50:])
	again, holderAgain, waitsAgain, _ := rank.Play(6, 6, true, room[:50])
	if !slices.Equal(errs, again) || !slices.Equal(holder, holderAgain) || !slices.Equal(waits, waitsAgain) {
		t.Errorf("what is behind the operations matters")
	}
	clear(room)
	overwrite(again)
	overwrite(holderAgain)
	overwrite(waitsAgain)
	third, holderThird, waitsThird, _ := rank.Play(6, 6, true, whole[:50])
	if !slices.Equal(errs, third) || !slices.Equal(holder, holderThird) || !slices.Equal(waits, waitsThird) {
		t.Errorf("results share memory")
	}
}

// TestResultsOfPlayAreApart: holder and waits have the same type, and no memory in common.
func TestResultsOfPlayAreApart(t *testing.T) {
	for n := 1; n <= 16; n++ {
		_, holder, waits, _ := rank.Play(n, n, false, nil)
		overwrite(holder)
		if !slices.Equal(waits, slices.Repeat([]int{-1}, n)) {
			t.Errorf("holder reaches into waits: %v", waits)
		}
		_, holder, waits, _ = rank.Play(n, n, false, nil)
		overwrite(waits)
		if !slices.Equal(holder, slices.Repeat([]int{-1}, n)) {
			t.Errorf("waits reaches into holder: %v", holder)
		}
	}
}

func TestCircleLeavesItsArguments(t *testing.T) {
	holder := []int{1, 2, 0, 3, 3, 0}
	waits := []int{0, 1, 2, 4, 2, 4}
	holderWhole, waitsWhole := slices.Clone(holder), slices.Clone(waits)
	c := rank.Circle(holder[:3], waits[:3])
	if !slices.Equal(holder, holderWhole) || !slices.Equal(waits, waitsWhole) || !slices.Equal(c, []int{0, 1, 2}) {
		t.Errorf("%v, %v, %v", holder, waits, c)
	}
	// Behind its end, waits[:2] has a third thread that would close the circle.
	if c := rank.Circle(holder[:3], waits[:2]); len(c) != 0 {
		t.Errorf("what is behind waits matters: %v", c)
	}
	if c := rank.Circle(holder[:2], waits[:3]); len(c) != 0 {
		t.Errorf("what is behind holder matters: %v", c)
	}
	overwrite(c)
	if !slices.Equal(holder, holderWhole) || !slices.Equal(waits, waitsWhole) {
		t.Errorf("the result is the caller's memory")
	}
	d := rank.Circle(holder[:3], waits[:3])
	clear(holder)
	clear(waits)
	if !slices.Equal(d, []int{0, 1, 2}) {
		t.Errorf("the caller's changes reach the result: %v", d)
	}
}

func overwrite[E ~int](list []E) {
	list = list[:cap(list)]
	for i := range list {
		list[i] = 77
	}
}

// Z3

func TestNilAndEmpty(t *testing.T) {
	for _, ranked := range []bool{false, true} {
		_, holder, waits, e := rank.Play(3, 4, ranked, nil)
		errs, holderEmpty, waitsEmpty, f := rank.Play(3, 4, ranked, []api.RankOp{})
		if len(errs) != 0 || !slices.Equal(holder, holderEmpty) || !slices.Equal(waits, waitsEmpty) || e != f {
			t.Errorf("%v, %v, %d, or %v, %v, %d", holder, waits, e, holderEmpty, waitsEmpty, f)
		}
	}
	for _, none := range [][]int{nil, {}} {
		for _, list := range [][]int{nil, {}, {0}, {-1, 0, 1}} {
			if c, d := rank.Circle(none, list), rank.Circle(list, none); len(c) != 0 || len(d) != 0 {
				t.Errorf("with %v: %v, %v", list, c, d)
			}
		}
	}
}
