package spread_test

import (
	"math"
	"math/bits"
	"slices"
	"testing"

	"corebell/api"
	"corebell/spread"
)

const largest = 1 << 30

// planner is List or Longest.
type planner func(work []int, cores int) (api.Plan, api.Errno)

// expectPlan asks for this plan, without an error.
func expectPlan(t *testing.T, name string, f planner, work []int, cores int, core []int, most int) {
	t.Helper()
	p, e := f(work, cores)
	if !slices.Equal(p.Core, core) || p.Most != most || e != api.OK {
		t.Errorf("%s(%v, %d) = %v, %d, not %v, %d", name, work, cores, p, e, core, most)
	}
}

func expectBest(t *testing.T, work []int, cores, want int) {
	t.Helper()
	n, e := spread.Best(work, cores)
	if n != want || e != api.OK {
		t.Errorf("Best(%v, %d) = %d, %d, not %d", work, cores, n, e, want)
	}
}

// expectWrong asks all four functions for the error, and for zero values beside it.
func expectWrong(t *testing.T, work []int, cores int) {
	t.Helper()
	if e := spread.Wrong(work, cores); e != api.ErrRange {
		t.Errorf("Wrong of %d pieces on %d cores is %d", len(work), cores, e)
	}
	for name, f := range map[string]planner{"List": spread.List, "Longest": spread.Longest} {
		if p, e := f(work, cores); len(p.Core) != 0 || p.Most != 0 || e != api.ErrRange {
			t.Errorf("%s of %d pieces on %d cores is %v, %d", name, len(work), cores, p, e)
		}
	}
	if n, e := spread.Best(work, cores); n != 0 || e != api.ErrRange {
		t.Errorf("Best of %d pieces on %d cores is %d, %d", len(work), cores, n, e)
	}
}

// expectRight asks all four functions for no error of Wrong.
func expectRight(t *testing.T, work []int, cores int) {
	t.Helper()
	if e := spread.Wrong(work, cores); e != api.OK {
		t.Errorf("Wrong of %d pieces on %d cores is %d", len(work), cores, e)
	}
	for name, f := range map[string]planner{"List": spread.List, "Longest": spread.Longest} {
		if p, e := f(work, cores); len(p.Core) != len(work) || e != api.OK {
			t.Errorf("%s of %d pieces on %d cores is %v, %d", name, len(work), cores, p, e)
		}
	}
	want := api.OK
	if len(work) > 9 {
		want = api.ErrFull
	}
	if n, e := spread.Best(work, cores); e != want || e != api.OK && n != 0 {
		t.Errorf("Best of %d pieces on %d cores is %d, %d", len(work), cores, n, e)
	}
}

// scatter returns a source of numbers below n without a pattern; the same ones for the same seed.
func scatter(seed uint32) func(n int) int {
	return func(n int) int {
		seed = seed*1664525 + 1013904223
		return int(seed>>8) % n
	}
}

// pieces returns so many of at most the size.
func pieces(next func(n int) int, many, size int) []int {
	work := make([]int, many)
	for i := range work {
		work[i] = next(size + 1)
	}
	return work
}

// decreasing are the numbers of the pieces as Longest has to take them: each time the first one of the largest that are left.
func decreasing(work []int) []int {
	var order []int
	for range work {
		first := -1
		for i, w := range work {
			if !slices.Contains(order, i) && (first < 0 || w > work[first]) {
				first = i
			}
		}
		order = append(order, first)
	}
	return order
}

// follows goes through a plan in the order of its pieces: was each of them given to the core that the chapter says?
func follows(p api.Plan, work []int, cores int, order []int) bool {
	if len(p.Core) != len(work) {
		return false
	}
	var load [8]int
	for _, i := range order {
		core := p.Core[i]
		if core < 0 || core >= cores {
			return false
		}
		for other := range cores {
			if load[other] < load[core] || load[other] == load[core] && other < core {
				return false
			}
		}
		load[core] += work[i]
	}
	return p.Most == slices.Max(load[:])
}

func expectFollows(t *testing.T, work []int, cores int) {
	t.Helper()
	var given []int
	for i := range work {
		given = append(given, i)
	}
	if p, e := spread.List(work, cores); e != api.OK || !follows(p, work, cores, given) {
		t.Errorf("List(%v, %d) = %v, %d", work, cores, p, e)
	}
	if p, e := spread.Longest(work, cores); e != api.OK || !follows(p, work, cores, decreasing(work)) {
		t.Errorf("Longest(%v, %d) = %v, %d", work, cores, p, e)
	}
}

// bestOfAll counts through all plans; for few pieces only.
func bestOfAll(work []int, cores int) int {
	plans := 1
	for range work {
		plans *= cores
	}
	best := math.MaxInt
	for plan := range plans {
		var load [8]int
		for _, w := range work {
			load[plan%cores] += w
			plan /= cores
		}
		best = min(best, slices.Max(load[:]))
	}
	return best
}

// bestOfSets finds the same by sets of pieces: one core has some of them, and the other cores share out the rest as well as they can.
func bestOfSets(work []int, cores int) int {
	sets := 1 << len(work)
	sum := make([]int, sets)
	for set := 1; set < sets; set++ {
		first := bits.TrailingZeros(uint(set))
		sum[set] = sum[set&(set-1)] + work[first]
	}
	most := slices.Clone(sum)
	for range cores - 1 {
		behind := slices.Clone(most)
		for set := range sets {
			for part := set; part > 0; part = (part - 1) & set {
				behind[set] = min(behind[set], max(sum[part], most[set&^part]))
			}
		}
		most = behind
	}
	return most[sets-1]
}

// E1: Wrong

func TestNumberOfCores(t *testing.T) {
	numbers := []int{math.MinInt, math.MinInt + 1, -1 << 32, -1<<32 + 1, -256, -255, -8, -1, 9, 10, 16, 255, 256, 257, 264, math.MaxInt32, 1 << 32, 1<<32 + 1, 1<<32 + 8, 1 << 62, math.MaxInt}
	for _, work := range [][]int{nil, {}, {3}, {1, 2, 3}, make([]int, 10), make([]int, 400)} {
		for cores := 1; cores <= 8; cores++ {
			expectRight(t, work, cores)
		}
		expectWrong(t, work, 0)
		for _, cores := range numbers {
			expectWrong(t, work, cores)
		}
	}
}

func TestNumberOfPieces(t *testing.T) {
	for many := range 450 {
		for _, cores := range []int{1, 2, 8} {
			if many <= 400 {
				expectRight(t, make([]int, many), cores)
			} else {
				expectWrong(t, make([]int, many), cores)
			}
		}
	}
	expectWrong(t, make([]int, 65536), 1)
	expectWrong(t, make([]int, 65537), 1)
}

func TestSizeOfPieces(t *testing.T) {
	right := []int{0, 1, 2, 255, 256, 1<<30 - 1, 1 << 30}
	wrong := []int{math.MinInt, math.MinInt + 1, -1 << 32, -1<<32 + 1, -1 << 30, -2, -1, 1<<30 + 1, 1<<30 + 2, math.MaxInt32, 1 << 32, 1<<32 + 1, 1 << 62, math.MaxInt}
	for _, many := range []int{1, 2, 9, 10, 400} {
		for at := range many {
			work := make([]int, many)
			for _, work[at] = range right {
				expectRight(t, work, 2)
			}
			for _, work[at] = range wrong {
				expectWrong(t, work, 2)
			}
		}
	}
}

// E1: List and Longest

func TestChapterExample(t *testing.T) {
	work := []int{2, 3, 4, 5}
	expectPlan(t, "List", spread.List, work, 2, []int{0, 1, 0, 1}, 8)
	expectPlan(t, "Longest", spread.Longest, work, 2, []int{0, 1, 1, 0}, 7)
	expectBest(t, work, 2, 7)
}

func TestListByHand(t *testing.T) {
	expectPlan(t, "List", spread.List, nil, 3, nil, 0)
	expectPlan(t, "List", spread.List, []int{7}, 8, []int{0}, 7)
	expectPlan(t, "List", spread.List, []int{1, 2, 4}, 1, []int{0, 0, 0}, 7)
	expectPlan(t, "List", spread.List, []int{1, 1, 1, 1}, 3, []int{0, 1, 2, 0}, 2)
	expectPlan(t, "List", spread.List, []int{3, 1, 1, 1, 5}, 2, []int{0, 1, 1, 1, 0}, 8)
	// A piece of 0 leaves its core the one with the smallest load.
	expectPlan(t, "List", spread.List, []int{0, 0, 4, 0, 4, 1}, 2, []int{0, 0, 0, 1, 1, 0}, 5)
	// One core more than there are pieces has nothing to do.
	expectPlan(t, "List", spread.List, []int{6, 5, 4}, 4, []int{0, 1, 2}, 6)
}

func TestLongestByHand(t *testing.T) {
	expectPlan(t, "Longest", spread.Longest, nil, 3, nil, 0)
	expectPlan(t, "Longest", spread.Longest, []int{1, 2, 4}, 1, []int{0, 0, 0}, 7)
	expectPlan(t, "Longest", spread.Longest, []int{1, 2, 4}, 3, []int{2, 1, 0}, 4)
	// Taken as 5, 3, 3, 3, 1: the first 3 goes to core 1 and the others to cores 2 and 1.
	expectPlan(t, "Longest", spread.Longest, []int{3, 1, 3, 5, 3}, 3, []int{1, 2, 2, 0, 1}, 6)
	// Pieces of 0 come last, whichever core is free then.
	expectPlan(t, "Longest", spread.Longest, []int{0, 7, 0}, 2, []int{1, 0, 1}, 7)
}

// Equal pieces stay in the given order, also where there are many of them.
func TestEqualPieces(t *testing.T) {
	for cores := 1; cores <= 8; cores++ {
		for _, many := range []int{5, 12, 13, 50, 399, 400} {
			work, want := make([]int, many), make([]int, many)
			for i := range work {
				work[i], want[i] = 6, i%cores
			}
			most := (many + cores - 1) / cores * 6
			expectPlan(t, "List", spread.List, work, cores, want, most)
			expectPlan(t, "Longest", spread.Longest, work, cores, want, most)
		}
	}
}

// The largest pieces, and the most of them: their sum needs more than 32 bits.
func TestLargestLoads(t *testing.T) {
	work := slices.Repeat([]int{largest}, 400)
	for cores := 1; cores <= 8; cores++ {
		want := (400 + cores - 1) / cores * largest
		for name, f := range map[string]planner{"List": spread.List, "Longest": spread.Longest} {
			if p, e := f(work, cores); p.Most != want || e != api.OK {
				t.Errorf("%s on %d cores has the largest load %d, %d, not %d", name, cores, p.Most, e, want)
			}
		}
		expectBest(t, work[:9], cores, (9+cores-1)/cores*largest)
	}
}

func TestPlansFollowTheirOrder(t *testing.T) {
	next := scatter(1)
	for range 2000 {
		size := []int{1, 3, 10, 1000, largest}[next(5)]
		expectFollows(t, pieces(next, next(40), size), 1+next(8))
	}
	for cores := 1; cores <= 8; cores++ {
		expectFollows(t, pieces(next, 400, 20), cores)
		expectFollows(t, pieces(next, 400, largest), cores)
	}
}

// E2: Best

func TestBestByHand(t *testing.T) {
	expectBest(t, nil, 1, 0)
	expectBest(t, []int{}, 8, 0)
	expectBest(t, []int{0, 0}, 2, 0)
	expectBest(t, []int{7}, 8, 7)
	expectBest(t, []int{3, 3, 2, 2, 2}, 2, 6)
	expectBest(t, []int{5, 5, 4, 4, 3, 3, 3}, 3, 9)
	expectBest(t, []int{1, 2, 3, 4, 5, 6, 7, 8, 9}, 1, 45)
	expectBest(t, []int{1, 2, 3, 4, 5, 6, 7, 8, 9}, 3, 15)
	expectBest(t, []int{1, 2, 3, 4, 5, 6, 7, 8, 9}, 8, 9)
}

func TestBestTakesNineOnly(t *testing.T) {
	for cores := 1; cores <= 8; cores++ {
		expectBest(t, []int{1, 1, 1, 1, 1, 1, 1, 1, 1}, cores, (9+cores-1)/cores)
		for many := 10; many <= 400; many++ {
			if n, e := spread.Best(make([]int, many), cores); n != 0 || e != api.ErrFull {
				t.Errorf("Best of %d pieces on %d cores is %d, %d", many, cores, n, e)
			}
		}
	}
}

// The error of Wrong comes ahead of ErrFull.
func TestBestErrorsInOrder(t *testing.T) {
	expectWrong(t, make([]int, 10), 0)
	expectWrong(t, make([]int, 10), 9)
	expectWrong(t, make([]int, 401), 2)
	expectWrong(t, append(make([]int, 9), -1), 2)
	expectWrong(t, append(make([]int, 9), largest+1), 2)
}

// Every work of at most five pieces from 0 to 3, against all plans.
func TestBestOfAllSmallWork(t *testing.T) {
	for many := range 6 {
		for number := range 1 << (2 * many) {
			work := make([]int, many)
			for i := range work {
				work[i] = number >> (2 * i) & 3
			}
			for cores := 1; cores <= 3; cores++ {
				expectBest(t, work, cores, bestOfAll(work, cores))
			}
		}
	}
}

func TestBestAgainstAllPlans(t *testing.T) {
	next := scatter(2)
	for range 30 {
		work := pieces(next, next(7), []int{2, 9, 100, largest}[next(4)])
		cores := 1 + next(8)
		expectBest(t, work, cores, bestOfAll(work, cores))
	}
}

func TestBestAgainstSets(t *testing.T) {
	next := scatter(3)
	for range 50 {
		work := pieces(next, 6+next(4), []int{1, 9, 100, largest}[next(4)])
		for cores := 1; cores <= 8; cores++ {
			expectBest(t, work, cores, bestOfSets(work, cores))
		}
	}
}

// The order of the pieces does not matter for the optimum.
func TestBestInAnyOrder(t *testing.T) {
	work := []int{17, 16, 13, 11, 8, 5, 4, 3, 2}
	want := bestOfSets(work, 4)
	for range work {
		work = append(work[1:], work[0])
		expectBest(t, work, 4, want)
	}
	slices.Reverse(work)
	expectBest(t, work, 4, want)
}

// Graham's bounds, multiplied out: List has at most 2 - 1/cores of the optimum, and Longest 4/3 - 1/(3 cores).
func TestGrahamsBounds(t *testing.T) {
	next := scatter(4)
	for range 500 {
		work := pieces(next, next(10), []int{3, 20, 1000, largest}[next(4)])
		cores := 1 + next(8)
		best, _ := spread.Best(work, cores)
		list, _ := spread.List(work, cores)
		longest, _ := spread.Longest(work, cores)
		if list.Most < best || list.Most*cores > best*(2*cores-1) {
			t.Errorf("%v on %d cores: List has %d, the optimum is %d", work, cores, list.Most, best)
		}
		if longest.Most < best || longest.Most*3*cores > best*(4*cores-1) {
			t.Errorf("%v on %d cores: Longest has %d, the optimum is %d", work, cores, longest.Most, best)
		}
	}
	// The bounds are met.
	expectPlan(t, "List", spread.List, []int{1, 1, 2}, 2, []int{0, 1, 0}, 3)
	expectBest(t, []int{1, 1, 2}, 2, 2)
	expectPlan(t, "Longest", spread.Longest, []int{3, 3, 2, 2, 2}, 2, []int{0, 1, 0, 1, 0}, 7)
	expectBest(t, []int{3, 3, 2, 2, 2}, 2, 6)
}

// Z1

func TestNoStateIsKept(t *testing.T) {
	for range 5 {
		expectPlan(t, "List", spread.List, []int{2, 3, 4, 5}, 2, []int{0, 1, 0, 1}, 8)
		expectPlan(t, "Longest", spread.Longest, []int{2, 3, 4, 5}, 3, []int{2, 2, 1, 0}, 5)
		expectBest(t, []int{9, 9}, 2, 9)
		expectBest(t, []int{1}, 2, 1)
	}
}

// Z2

func TestArgumentsAndResultsAreTheCallers(t *testing.T) {
	more := []int{1, 4, 2, 3, -7, largest + 1, -9}
	kept := slices.Clone(more)
	work := more[:4]
	expectRight(t, work, 2)
	for name, f := range map[string]planner{"List": spread.List, "Longest": spread.Longest} {
		one, _ := f(work, 2)
		two, _ := f(work, 2)
		want := slices.Clone(two.Core)
		for i := range one.Core {
			one.Core[i] = -5
		}
		_ = append(one.Core, -6, -6, -6)
		if !slices.Equal(more, kept) {
			t.Fatalf("%s: the argument is %v now", name, more)
		}
		work[1] = 99
		if !slices.Equal(two.Core, want) {
			t.Errorf("%s: the result is %v now, not %v", name, two.Core, want)
		}
		work[1] = 4
	}
}
