package cores_test

import (
	"math"
	"slices"
	"testing"

	"corebell/api"
	"corebell/cores"
)

// setting is all that Run takes.
type setting struct {
	cores, slice int
	l            []api.Thread
	ticks        int
}

func (s setting) run() ([][]int, api.Errno) { return cores.Run(s.cores, s.slice, s.l, s.ticks) }

func same(a, b [][]int) bool { return slices.EqualFunc(a, b, slices.Equal) }

// foretold needs no queue: each thread has a place, and a later place is a larger number. Whoever was moved each time that its slice was over has run for a multiple of the slice whenever it is to be moved.
func (s setting) foretold() [][]int {
	var place, ran [64]int
	last := 0
	want := make([][]int, s.ticks)
	for tick := range want {
		for n, t := range s.l {
			if t.Come == tick {
				last++
				place[n] = last
			}
		}
		first := s.first(place, ran)
		for _, n := range first {
			ran[n]++
		}
		slices.SortFunc(first, func(a, b int) int { return place[a] - place[b] })
		for _, n := range first {
			if ran[n]%s.slice == 0 {
				last++
				place[n] = last
			}
		}
		want[tick] = slices.Sorted(slices.Values(first))
	}
	return want
}

// first are the threads that are to run next; place 0 is that of those that have not come.
func (s setting) first(place, ran [64]int) []int {
	var first []int
	for range s.cores {
		best := -1
		for n, t := range s.l {
			if place[n] == 0 || ran[n] == t.Work || slices.Contains(first, n) {
				continue
			}
			if best < 0 || t.Level > s.l[best].Level || t.Level == s.l[best].Level && place[n] < place[best] {
				best = n
			}
		}
		if best >= 0 {
			first = append(first, best)
		}
	}
	return first
}

func (s setting) expect(t *testing.T) {
	t.Helper()
	want := s.foretold()
	if got, e := s.run(); e != api.OK || !same(got, want) {
		t.Errorf("Run(%v) = %v, %d, not %v", s, got, e, want)
	}
	if e := cores.Wrong(s.cores, s.slice, s.l); e != api.OK {
		t.Errorf("Wrong(%d, %d, %v) = %d", s.cores, s.slice, s.l, e)
	}
}

// expectWrong: Wrong and Run tell the error if there is to be one, and nothing beside it.
func (s setting) expectWrong(t *testing.T, wrong bool) {
	t.Helper()
	want := api.OK
	if wrong {
		want = api.ErrRange
	}
	if e := cores.Wrong(s.cores, s.slice, s.l); e != want {
		t.Errorf("Wrong(%d, %d, %d threads: %.200v) = %d, not %d", s.cores, s.slice, len(s.l), s.l, e, want)
	}
	got, e := s.run()
	if e != want || wrong && len(got) > 0 || !wrong && len(got) != s.ticks {
		t.Errorf("Run(%d, %d, %d threads: %.200v, %d) = %v, %d, not %d", s.cores, s.slice, len(s.l), s.l, s.ticks, got, e, want)
	}
}

// scatter returns a function whose results are below its argument, and the same in each run.
func scatter(seed uint32) func(n int) int {
	return func(n int) int {
		seed = seed*1664525 + 1013904223
		return int(seed>>8) % n
	}
}

// scattered are n threads of as many levels that come in the first ticks, and have less than work to do.
func scattered(roll func(int) int, n, levels, comes, work int) []api.Thread {
	l := make([]api.Thread, n)
	for i := range l {
		l[i] = api.Thread{Come: roll(comes), Level: roll(levels), Work: roll(work)}
	}
	return l
}

// scatteredSetting is of many threads or of few, that often wait for each other.
func scatteredSetting(seed uint32) setting {
	roll := scatter(seed)
	slice := []int{1, 2, 3, 4, 7, 30, 100}[roll(7)]
	levels := []int{1, 2, 3, 32}[roll(4)]
	comes := []int{1, 5, 40, 300}[roll(4)]
	work := []int{3, 10, 60, 10001}[roll(4)]
	return setting{1 + roll(8), slice, scattered(roll, roll(65), levels, comes, work), 300}
}

// numbers are the ends of all ranges, what is beside them, and what a narrower integer would take for something within.
func numbers() []int {
	return []int{
		0, 1, 2, 7, 8, 9, 10, 30, 31, 32, 33, 63, 64, 65, 99, 100, 101, 127, 128, 255, 256, 257, 264, 287, 288,
		1999, 2000, 2001, 9999, 10000, 10001, 32767, 32768, 1<<16 - 1, 1 << 16, 1<<16 + 1, 1<<16 + 31, 1<<16 + 2000,
		-1, -2, -8, -31, -32, -100, -128, -255, -256, -2000, -10000, -10001, -1 << 15, -1 << 16,
		1<<31 - 1, 1 << 31, 1<<32 - 1, 1 << 32, 1<<32 + 1, 1<<32 + 8, 1<<32 + 31, 1<<32 + 100, -1 << 31, -1 << 32, -1<<32 + 1, -1<<32 + 8,
		1 << 40, 1<<62 + 1, math.MaxInt - 1, math.MaxInt, math.MinInt, math.MinInt + 1, math.MinInt + 8, math.MinInt + 31,
	}
}

// eachList calls f with all lists of up to most threads out of kinds, in memory that it uses again.
func eachList(kinds []api.Thread, most int, f func([]api.Thread)) {
	list := make([]api.Thread, 0, most)
	var longer func()
	longer = func() {
		f(list)
		for i := 0; i < len(kinds) && len(list) < most; i++ {
			list = append(list, kinds[i])
			longer()
			list = list[:len(list)-1]
		}
	}
	longer()
}

// kindsOf are all threads with up to these numbers.
func kindsOf(come, level, work int) []api.Thread {
	var kinds []api.Thread
	for c := range come + 1 {
		for l := range level + 1 {
			for w := range work + 1 {
				kinds = append(kinds, api.Thread{Come: c, Level: l, Work: w})
			}
		}
	}
	return kinds
}

// N1

func TestEachNumberOfCores(t *testing.T) {
	l := []api.Thread{{Work: 2}, {Work: 2}}
	for n := -300; n <= 300; n++ {
		setting{n, 1, l, 5}.expectWrong(t, n < 1 || n > 8)
		setting{n, 1, nil, 5}.expectWrong(t, n < 1 || n > 8)
	}
	for _, n := range numbers() {
		setting{n, 1, l, 5}.expectWrong(t, n < 1 || n > 8)
	}
}

func TestEachSlice(t *testing.T) {
	l := []api.Thread{{Work: 2}, {Work: 2}}
	for n := -300; n <= 400; n++ {
		setting{1, n, l, 5}.expectWrong(t, n < 1 || n > 100)
		setting{1, n, nil, 5}.expectWrong(t, n < 1 || n > 100)
	}
	for _, n := range numbers() {
		setting{8, n, l, 5}.expectWrong(t, n < 1 || n > 100)
	}
}

func TestEachNumberOfThreads(t *testing.T) {
	for n := range 200 {
		setting{8, 100, make([]api.Thread, n), 5}.expectWrong(t, n > 64)
	}
	for _, n := range []int{256, 257, 320, 1 << 16, 1<<16 + 1, 1<<16 + 64, 1 << 20} {
		setting{1, 1, make([]api.Thread, n), 5}.expectWrong(t, true)
	}
}

// TestEachThread: one thread has a number that may be wrong, and all others are right.
func TestEachThread(t *testing.T) {
	all := numbers()
	for n := -200; n <= 200; n++ {
		all = append(all, n, 10000+n)
	}
	for _, at := range []int{0, 1, 31, 62, 63} {
		for _, many := range []int{at + 1, 64} {
			l := make([]api.Thread, many)
			s := setting{1, 1, l, 5}
			for _, n := range all {
				l[at] = api.Thread{Come: n}
				s.expectWrong(t, n < 0 || n > 10000)
				l[at] = api.Thread{Level: n}
				s.expectWrong(t, n < 0 || n > 31)
				l[at] = api.Thread{Work: n}
				s.expectWrong(t, n < 0 || n > 10000)
			}
		}
	}
}

// TestLargest: all numbers that are allowed at the same time, and each of them that is not.
func TestLargest(t *testing.T) {
	largest := func() setting {
		return setting{8, 100, slices.Repeat([]api.Thread{{Come: 10000, Level: 31, Work: 10000}}, 64), 2000}
	}
	largest().expectWrong(t, false)
	for _, change := range []func(s *setting){
		func(s *setting) { s.cores++ },
		func(s *setting) { s.slice++ },
		func(s *setting) { s.l = append(s.l, s.l[0]) },
		func(s *setting) { s.l[63].Come++ },
		func(s *setting) { s.l[0].Level++ },
		func(s *setting) { s.l[32].Work++ },
	} {
		s := largest()
		change(&s)
		s.expectWrong(t, true)
	}
}

// N2

func TestRunByHand(t *testing.T) {
	type threads = []api.Thread
	for _, c := range []struct {
		cores, slice int
		l            threads
		want         [][]int
	}{
		{1, 2, threads{{Work: 9}, {Work: 9}}, [][]int{{0}, {0}, {1}, {1}, {0}}},
		{1, 1, nil, nil},
		{1, 1, nil, [][]int{{}, {}, {}}},
		{1, 1, threads{{Work: 9}}, [][]int{}},
		{1, 1, threads{{Work: 2}}, [][]int{{0}, {0}, {}, {}}},
		{8, 100, threads{{Work: 2}}, [][]int{{0}, {0}, {}, {}}},
		{1, 1, threads{{Come: 2, Work: 1}}, [][]int{{}, {}, {0}, {}}},
		// Who has no work never runs, and delays nobody.
		{1, 1, threads{{}, {Level: 31}, {Work: 2}}, [][]int{{2}, {2}, {}}},
		// A thread that is ready before its slice is over leaves the rest of it to nobody.
		{1, 3, threads{{Work: 2}, {Work: 4}, {Work: 9}}, [][]int{{0}, {0}, {1}, {1}, {1}, {2}, {2}, {2}, {1}, {2}}},
		// In the order of their numbers if they come in the same tick, else as they come.
		{1, 1, threads{{Work: 2}, {Work: 2}, {Work: 2}}, [][]int{{0}, {1}, {2}, {0}, {1}, {2}, {}}},
		{1, 9, threads{{Come: 1, Work: 2}, {Work: 3}, {Come: 1, Work: 1}}, [][]int{{1}, {1}, {1}, {0}, {0}, {2}, {}}},
		// Who is moved in a tick is ahead of who comes in the next one.
		{1, 1, threads{{Work: 9}, {Come: 1, Work: 9}}, [][]int{{0}, {0}, {1}, {0}, {1}}},
		{1, 2, threads{{Work: 9}, {Come: 1, Work: 9}}, [][]int{{0}, {0}, {1}, {1}, {0}, {0}}},
		// The highest levels run, whoever came first.
		{1, 1, threads{{Work: 2}, {Level: 1, Work: 2}, {Level: 31, Work: 1}}, [][]int{{2}, {1}, {1}, {0}, {0}, {}}},
		{2, 1, threads{{Work: 2}, {Level: 1, Work: 2}, {Level: 31, Work: 1}}, [][]int{{1, 2}, {0, 1}, {0}, {}}},
		{1, 5, threads{{Work: 3}, {Come: 1, Level: 1, Work: 2}}, [][]int{{0}, {1}, {1}, {0}, {0}, {}}},
		// Who has to stop for a higher level keeps its place, and what is left of its slice.
		{1, 2, threads{{Work: 9}, {Work: 9}, {Come: 1, Level: 5, Work: 2}}, [][]int{{0}, {2}, {2}, {0}, {1}, {1}, {0}, {0}}},
		{1, 2, threads{{Work: 9}, {Work: 9}, {Come: 2, Level: 5, Work: 1}}, [][]int{{0}, {0}, {2}, {1}, {1}, {0}, {0}}},
		// As many as there are cores, in increasing order, though not in the queue's.
		{2, 9, threads{{Come: 1, Work: 2}, {Work: 3}}, [][]int{{1}, {0, 1}, {0, 1}, {}}},
		{2, 1, threads{{Work: 9}, {Work: 9}, {Work: 9}}, [][]int{{0, 1}, {0, 2}, {1, 2}, {0, 1}}},
		{2, 2, threads{{Work: 9}, {Work: 9}, {Work: 9}}, [][]int{{0, 1}, {0, 1}, {0, 2}, {0, 2}, {1, 2}, {1, 2}}},
		{3, 1, threads{{Work: 1}, {Work: 2}, {Work: 3}}, [][]int{{0, 1, 2}, {1, 2}, {2}, {}}},
		// Those that are moved in the same tick stay in the order of the queue: thread 1 is ahead of thread 0.
		{2, 1, threads{{Come: 1, Work: 9}, {Work: 9}, {Come: 1, Work: 9}}, [][]int{{1}, {0, 1}, {1, 2}, {0, 2}, {0, 1}}},
		// Each has a slice of its own, wherever the others are in theirs.
		{2, 2, threads{{Work: 1}, {Work: 9}, {Work: 9}, {Work: 9}}, [][]int{{0, 1}, {1, 2}, {2, 3}, {1, 3}, {1, 2}, {2, 3}}},
		// Nobody else of its level is there: it goes on.
		{1, 1, threads{{Work: 3, Level: 1}, {Work: 9}}, [][]int{{0}, {0}, {0}, {1}, {1}}},
		// Many cores.
		{8, 1, make(threads, 64), [][]int{{}, {}}},
		{8, 1, slices.Repeat(threads{{Work: 9}}, 9), [][]int{{0, 1, 2, 3, 4, 5, 6, 7}, {0, 1, 2, 3, 4, 5, 6, 8}, {0, 1, 2, 3, 4, 5, 7, 8}}},
	} {
		s := setting{c.cores, c.slice, c.l, len(c.want)}
		if got, e := s.run(); e != api.OK || !same(got, c.want) {
			t.Errorf("Run(%v) = %v, %d, not %v", s, got, e, c.want)
		}
		s.expect(t)
	}
}

// TestRunOfAllSmall looks at all short lists of threads that come, and are ready, in the first ticks.
func TestRunOfAllSmall(t *testing.T) {
	for cores := 1; cores <= 3; cores++ {
		for slice := 1; slice <= 3; slice++ {
			eachList(kindsOf(2, 1, 3), 3, func(l []api.Thread) { setting{cores, slice, l, 10}.expect(t) })
			eachList(kindsOf(1, 0, 3), 4, func(l []api.Thread) { setting{cores, slice, l, 14}.expect(t) })
			eachList(kindsOf(3, 2, 1), 3, func(l []api.Thread) { setting{cores, slice, l, 8}.expect(t) })
		}
	}
}

// TestEachNumberOfTicks: the errors of Run's own, and what is within.
func TestEachNumberOfTicks(t *testing.T) {
	l := []api.Thread{{Work: 3}, {Work: 3}}
	all := numbers()
	for n := -20; n <= 20; n++ {
		all = append(all, n, 2000+n)
	}
	for _, ticks := range all {
		got, e := cores.Run(1, 1, l, ticks)
		switch right := ticks >= 0 && ticks <= 2000; {
		case !right && (e != api.ErrRange || len(got) > 0):
			t.Errorf("%d ticks: %v, %d", ticks, got, e)
		case right && (e != api.OK || len(got) != ticks):
			t.Errorf("%d ticks: %d, %d", ticks, len(got), e)
		}
		for _, s := range []setting{{0, 1, l, ticks}, {1, 101, l, ticks}, {1, 1, []api.Thread{{Level: 32}}, ticks}} {
			if got, e := s.run(); e != api.ErrRange || len(got) > 0 {
				t.Errorf("Run(%v) = %v, %d", s, got, e)
			}
		}
	}
}

// TestEachCome: a thread that comes in whatever tick runs from then on, if that is soon enough.
func TestEachCome(t *testing.T) {
	for _, come := range []int{0, 1, 2, 998, 1000, 1998, 1999, 2000, 2001, 9999, 10000} {
		for _, ticks := range []int{0, 1, 2, 999, 1000, 1001, 1999, 2000} {
			for _, work := range []int{1, 7, 10000} {
				got, e := cores.Run(1, 1, []api.Thread{{Come: come, Work: work}}, ticks)
				if e != api.OK || len(got) != ticks {
					t.Fatalf("%d ticks: %d, %d", ticks, len(got), e)
				}
				for tick, run := range got {
					if runs := tick >= come && tick < come+work; runs != slices.Equal(run, []int{0}) || !runs && len(run) > 0 {
						t.Errorf("%d comes, with %d: in tick %d, %v", come, work, tick, run)
					}
				}
			}
		}
	}
}

// TestEachLevel: of two threads the one with the larger level runs first, whichever comes first.
func TestEachLevel(t *testing.T) {
	for a := range 32 {
		for b := range 32 {
			want := [][]int{{0}, {0}, {1}, {1}}
			if b > a {
				want = [][]int{{1}, {1}, {0}, {0}}
			}
			s := setting{1, 5, []api.Thread{{Level: a, Work: 2}, {Level: b, Work: 2}}, 4}
			if got, e := s.run(); e != api.OK || !same(got, want) {
				t.Errorf("Run(%v) = %v, %d, not %v", s, got, e, want)
			}
		}
	}
}

// TestEachSliceIsItsLength: two threads take turns of this many ticks.
func TestEachSliceIsItsLength(t *testing.T) {
	for slice := 1; slice <= 100; slice++ {
		got, e := cores.Run(1, slice, []api.Thread{{Work: 10000}, {Work: 10000}}, 2000)
		if e != api.OK || len(got) != 2000 {
			t.Fatalf("slice %d: %d ticks, %d", slice, len(got), e)
		}
		for tick, run := range got {
			if !slices.Equal(run, []int{tick / slice % 2}) {
				t.Errorf("slice %d: in tick %d, %v", slice, tick, run)
			}
		}
	}
}

func TestLongRuns(t *testing.T) {
	for seed := range uint32(1500) {
		scatteredSetting(seed).expect(t)
	}
	for seed := range uint32(20) {
		roll := scatter(seed)
		setting{1 + roll(8), 1 + roll(100), scattered(roll, 64, 4, 2000, 400), 2000}.expect(t)
	}
}

// TestNoCoreIsIdle: in each tick as many run as there are cores, or all that have come and have work left.
func TestNoCoreIsIdle(t *testing.T) {
	for seed := range uint32(500) {
		s := scatteredSetting(seed)
		got, _ := s.run()
		var ran [64]int
		for tick, run := range got {
			ready := 0
			for n, th := range s.l {
				if th.Come <= tick && ran[n] < th.Work {
					ready++
				}
			}
			if len(run) != min(s.cores, ready) {
				t.Errorf("Run(%v): %d run in tick %d, of %d", s, len(run), tick, ready)
			}
			for _, n := range run {
				ran[n]++
			}
		}
	}
}

// TestNoWorkIsLost: nobody runs too soon or too often, and with enough ticks all work is done.
func TestNoWorkIsLost(t *testing.T) {
	for seed := range uint32(500) {
		roll := scatter(seed)
		s := setting{1 + roll(8), 1 + roll(9), scattered(roll, 1+roll(64), 3, 200, 25), 2000}
		got, _ := s.run()
		var ran [64]int
		for tick, run := range got {
			for i, n := range run {
				if s.l[n].Come > tick || i > 0 && run[i-1] >= n {
					t.Errorf("Run(%v): in tick %d, %v", s, tick, run)
				}
				ran[n]++
			}
		}
		for n, th := range s.l {
			if ran[n] != th.Work {
				t.Errorf("Run(%v): thread %d ran %d times", s, n, ran[n])
			}
		}
	}
}

// TestEqualThreadsReceiveEqualTime: at no time has one of them had more than a slice more than another one, and behind whole rounds none has had more.
func TestEqualThreadsReceiveEqualTime(t *testing.T) {
	for cores := 1; cores <= 8; cores++ {
		for _, many := range []int{1, 2, 3, 5, 8, 9, 13, 24, 64} {
			for _, slice := range []int{1, 2, 3, 10} {
				s := setting{cores, slice, slices.Repeat([]api.Thread{{Level: 7, Work: 10000}}, many), 2000}
				got, _ := s.run()
				ran := make([]int, many)
				for tick, run := range got {
					for _, n := range run {
						ran[n]++
					}
					more := slices.Max(ran) - slices.Min(ran)
					if round := slice * many; more > slice || (tick+1)%round == 0 && more > 0 {
						t.Fatalf("%d threads on %d cores with slice %d: behind tick %d, %v", many, cores, slice, tick, ran)
					}
				}
			}
		}
	}
}

// TestLowerLevelsDoNotMatter: those of higher levels run as if nobody else were there.
func TestLowerLevelsDoNotMatter(t *testing.T) {
	for seed := range uint32(300) {
		roll := scatter(seed)
		s := setting{1 + roll(4), 1 + roll(5), scattered(roll, 1+roll(20), 4, 60, 40), 200}
		all, _ := s.run()
		for level := range 4 {
			lower := func(n int) bool { return s.l[n].Level < level }
			alone := s
			alone.l = slices.Clone(s.l)
			for n := range alone.l {
				if lower(n) {
					alone.l[n].Work = 0
				}
			}
			got, _ := alone.run()
			for tick, run := range all {
				if want := slices.DeleteFunc(slices.Clone(run), lower); !slices.Equal(got[tick], want) {
					t.Errorf("Run(%v): in tick %d, %v, not %v", alone, tick, got[tick], want)
				}
			}
		}
	}
}

// TestFewerTicks: a shorter simulation is the beginning of a longer one.
func TestFewerTicks(t *testing.T) {
	for seed := range uint32(10) {
		s := scatteredSetting(seed)
		whole, _ := s.run()
		for s.ticks = range whole {
			if got, e := s.run(); e != api.OK || !same(got, whole[:s.ticks]) {
				t.Errorf("Run(%v) = %v, %d", s, got, e)
			}
		}
	}
}

// Z1

func TestNothingIsKept(t *testing.T) {
	for seed := range uint32(20) {
		s := scatteredSetting(seed)
		once, _ := s.run()
		cores.Run(2, 3, []api.Thread{{Level: 31, Work: 10000}, {Come: 5, Work: 10000}}, 100)
		if again, e := s.run(); e != api.OK || !same(once, again) {
			t.Errorf("Run(%v) = %v, and then %v", s, once, again)
		}
	}
	if got, e := cores.Run(1, 1, nil, 9); e != api.OK || !same(got, make([][]int, 9)) {
		t.Errorf("a thread of an earlier call runs: %v, %d", got, e)
	}
}

// TestWrongThreads: nothing that a thread has makes a call panic.
func TestWrongThreads(t *testing.T) {
	for _, a := range numbers() {
		for _, b := range numbers() {
			right := a >= 0 && a <= 31 && b >= 0 && b <= 10000
			setting{1, 1, []api.Thread{{Work: 1}, {Level: a, Work: b}}, 20}.expectWrong(t, !right)
			setting{2, 1, []api.Thread{{Come: b, Level: a}}, 20}.expectWrong(t, !right)
		}
	}
}

// Z2

// TestArgumentsStay: the threads do not change, and what is behind them does not matter.
func TestArgumentsStay(t *testing.T) {
	for n := range 65 {
		room := scattered(scatter(uint32(n)), n+9, 3, 20, 20)
		room[n] = api.Thread{Level: 31, Work: 10000}
		room[n+1] = api.Thread{Level: 99}
		whole := slices.Clone(room)
		s := setting{2, 3, room[:n], 100}
		want := setting{2, 3, slices.Clone(room[:n]), 100}.foretold()
		got, e := s.run()
		if w := cores.Wrong(2, 3, room[:n]); w != api.OK || e != api.OK || !same(got, want) {
			t.Fatalf("what is behind %d threads matters: %v, %d, not %v", n, got, e, want)
		}
		if !slices.Equal(room, whole) {
			t.Fatalf("%d threads, or what is behind them, have changed", n)
		}
		clear(room)
		if !same(got, want) {
			t.Fatalf("the result for %d threads is in other memory, too", n)
		}
	}
}

// TestEachTickIsInItsOwnMemory: also in the room that is behind it.
func TestEachTickIsInItsOwnMemory(t *testing.T) {
	for seed := range uint32(200) {
		s := scatteredSetting(seed)
		want := s.foretold()
		got, _ := s.run()
		for tick, run := range got {
			if !slices.Equal(run, want[tick]) {
				t.Fatalf("Run(%v): in tick %d, %v, not %v: an earlier one is in the same memory", s, tick, run, want[tick])
			}
			run = run[:cap(run)]
			for i := range run {
				run[i] = -7
			}
		}
		if again, _ := s.run(); !same(again, want) {
			t.Fatalf("Run(%v) = %v, not %v: an earlier result is in the same memory", s, again, want)
		}
	}
}

// Z3

func TestNilAndEmpty(t *testing.T) {
	for ticks := range 20 {
		a, e := cores.Run(3, 2, nil, ticks)
		b, f := cores.Run(3, 2, []api.Thread{}, ticks)
		if want := make([][]int, ticks); e != api.OK || f != api.OK || !same(a, want) || !same(b, want) {
			t.Errorf("Run of nobody = %v, %d, or %v, %d", a, e, b, f)
		}
	}
	if e, f := cores.Wrong(1, 1, nil), cores.Wrong(1, 1, []api.Thread{}); e != api.OK || f != api.OK {
		t.Errorf("Wrong of nobody = %d, or %d", e, f)
	}
}
