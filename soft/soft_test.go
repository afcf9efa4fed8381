package soft_test

import (
	"math"
	"slices"
	"testing"

	"corebell/api"
	"corebell/soft"
)

// outcome is all that Run returns.
type outcome struct {
	executed []int
	first    int
	e        api.Errno
}

func ran(pending []int, raises []api.Raise, rounds int) outcome {
	executed, first, e := soft.Run(pending, raises, rounds)
	return outcome{executed, first, e}
}

func same(a, b outcome) bool {
	return slices.Equal(a.executed, b.executed) && a.first == b.first && a.e == b.e
}

// foretold are the rounds, each of them told as a whole: it is what was raised behind the start of the round before, up to its end.
func foretold(pending []int, raises []api.Raise) [][]int {
	var rounds [][]int
	next := slices.Clone(pending)
	start, end := -1, 0
	for {
		for _, r := range raises {
			if r.When > start && r.When <= end {
				next = append(next, r.Soft)
			}
		}
		if len(next) == 0 {
			return rounds
		}
		slices.Sort(next)
		next = slices.Compact(next)
		rounds = append(rounds, next)
		start, end = end, end+len(next)
		next = nil
	}
}

// right says again, clause by clause, what the chapter asks of the arguments.
func right(pending []int, raises []api.Raise) bool {
	for _, n := range pending {
		if n < 0 || n > 7 {
			return false
		}
	}
	for i, r := range raises {
		if r.Soft < 0 || r.Soft > 7 {
			return false
		}
		if r.When < 0 || r.When > 400 {
			return false
		}
		if i > 0 && raises[i-1].When > r.When {
			return false
		}
	}
	return len(raises) < 401
}

// wanted is what Run has to return.
func wanted(pending []int, raises []api.Raise, rounds int) outcome {
	switch {
	case !right(pending, raises):
		return outcome{e: 1}
	case rounds < 0 || rounds > 400:
		return outcome{e: 2}
	}
	all := foretold(pending, raises)
	return outcome{executed: slices.Concat(all...), first: len(slices.Concat(all[:min(rounds, len(all))]...))}
}

// expect looks at Right and Run.
func expect(t *testing.T, pending []int, raises []api.Raise, rounds int) {
	t.Helper()
	if got := soft.Right(pending, raises); got != right(pending, raises) {
		t.Errorf("Right(%v, %v) = %v", pending, raises, got)
	}
	want := wanted(pending, raises, rounds)
	if got := ran(pending, raises, rounds); !same(got, want) {
		t.Errorf("Run(%v, %v, %d) = %v, not %v", pending, raises, rounds, got, want)
	}
}

// scatter returns a function whose results are below its argument, and the same in each run.
func scatter(seed uint32) func(n int) int {
	return func(n int) int {
		seed = seed*1664525 + 1013904223
		return int(seed>>8) % n
	}
}

func scatteredPending(roll func(int) int, n int) []int {
	pending := make([]int, n)
	for i := range pending {
		pending[i] = roll(8)
	}
	return pending
}

// scatteredRaises are n valid raises, with a When of at most last.
func scatteredRaises(roll func(int) int, n, last int) []api.Raise {
	raises := make([]api.Raise, n)
	for i := range raises {
		raises[i] = api.Raise{When: roll(last + 1), Soft: roll(8)}
	}
	slices.SortStableFunc(raises, func(a, b api.Raise) int { return a.When - b.When })
	return raises
}

// numbers are the ends of all ranges, what is beside them, and what a narrower integer would take for something within.
func numbers() []int {
	return []int{
		0, 1, 2, 3, 6, 7, 8, 9, 15, 16, 63, 64, 199, 200, 399, 400, 401, 402, -1, -2, -7, -8, -256, 255, 256, 257, 263, 1 << 16, 1<<16 + 1,
		1<<32 - 1, 1 << 32, 1<<32 + 1, 1<<32 + 7, 1<<32 + 200, 1<<32 + 400, -1 << 32, -1<<32 + 1, -1<<32 + 7, -1<<32 + 200, 1 << 40, 1<<40 + 1, -1 << 40,
		1<<62 + 1, math.MaxInt - 1, math.MaxInt, math.MinInt, math.MinInt + 1, math.MinInt + 7, math.MinInt + 200,
	}
}

// steady are 400 raises of number n, each behind one execution more than the one before.
func steady(n, from int) []api.Raise {
	raises := make([]api.Raise, 400)
	for i := range raises {
		raises[i] = api.Raise{When: from + i, Soft: n}
	}
	return raises
}

// eachList calls f with all lists of up to most elements out of kinds, in memory that it uses again.
func eachList[T any](kinds []T, most int, f func([]T)) {
	l := make([]T, 0, most)
	var longer func()
	longer = func() {
		f(l)
		if len(l) == most {
			return
		}
		for _, k := range kinds {
			l = append(l, k)
			longer()
			l = l[:len(l)-1]
		}
	}
	longer()
}

// J1

func TestRightByHand(t *testing.T) {
	type raises = []api.Raise
	for _, c := range []struct {
		pending []int
		raises  raises
		want    bool
	}{
		{nil, nil, true},
		{[]int{0, 7}, nil, true},
		{[]int{7, 0, 7, 7}, nil, true},
		{[]int{8}, nil, false},
		{[]int{-1}, nil, false},
		{[]int{3, 4, 8}, nil, false},
		{[]int{-1, 3, 4}, nil, false},
		{nil, raises{{When: 0, Soft: 0}, {When: 400, Soft: 7}}, true},
		{nil, raises{{When: 0, Soft: 8}}, false},
		{nil, raises{{When: 0, Soft: -1}}, false},
		{nil, raises{{When: 401, Soft: 0}}, false},
		{nil, raises{{When: -1, Soft: 0}}, false},
		{nil, raises{{When: 5, Soft: 2}, {When: 5, Soft: 1}}, true},
		{nil, raises{{When: 5, Soft: 1}, {When: 5, Soft: 1}}, true},
		{nil, raises{{When: 5, Soft: 1}, {When: 4, Soft: 1}}, false},
		// The last raise is not below the first, but it is below the previous one.
		{nil, raises{{When: 1}, {When: 5}, {When: 4}}, false},
		{nil, raises{{When: 2}, {When: 1}, {When: 3}}, false},
		{[]int{1}, raises{{When: 1, Soft: 1}}, true},
		{[]int{8}, raises{{When: 1, Soft: 1}}, false},
		{[]int{1}, raises{{When: 1, Soft: 8}}, false},
	} {
		if soft.Right(c.pending, c.raises) != c.want || right(c.pending, c.raises) != c.want {
			t.Errorf("Right(%v, %v) = %v", c.pending, c.raises, !c.want)
		}
		expect(t, c.pending, c.raises, 1)
	}
}

// TestRightOfAllLengths: the raises are at most 400, and what is pending may be of any length.
func TestRightOfAllLengths(t *testing.T) {
	for _, n := range []int{0, 1, 7, 8, 9, 255, 256, 257, 399, 400, 401, 402, 512, 656, 65536, 65537, 65936} {
		raises := slices.Repeat([]api.Raise{{When: 3, Soft: 7}}, n)
		if soft.Right(nil, raises) != (n <= 400) || soft.Right([]int{4}, raises) != (n <= 400) {
			t.Errorf("Right of %d raises is %v", n, n > 400)
		}
		pending := slices.Repeat([]int{7}, n)
		if !soft.Right(pending, nil) || !soft.Right(pending, raises[:min(n, 400)]) {
			t.Errorf("Right of %d that are pending is false", n)
		}
		if got, want := ran(append(pending, 2), nil, 1), (outcome{executed: []int{2, 7}, first: 2}); n > 0 && !same(got, want) {
			t.Errorf("Run of %d that are pending = %v", n+1, got)
		}
		if got, want := ran(nil, raises, 1), (outcome{e: api.ErrForm}); n > 400 && !same(got, want) {
			t.Errorf("Run of %d raises = %v", n, got)
		}
	}
}

// TestRightOfOneAmongOthers: each number is looked at, whatever the others are.
func TestRightOfOneAmongOthers(t *testing.T) {
	for _, n := range []int{1, 2, 7, 400} {
		for _, at := range []int{0, n / 2, n - 1} {
			for _, number := range numbers() {
				pending := scatteredPending(scatter(uint32(at)), n)
				pending[at] = number
				expect(t, pending, nil, 1)
				raises := slices.Repeat([]api.Raise{{When: 200, Soft: 5}}, n)
				raises[at].Soft = number
				expect(t, nil, raises, 1)
				raises[at] = api.Raise{When: number, Soft: 5}
				expect(t, nil, raises, 1)
				expect(t, []int{1, 6}, raises, 1)
			}
		}
	}
}

// TestRightOfAllOrders: no raise is ahead of the previous one.
func TestRightOfAllOrders(t *testing.T) {
	var kinds []api.Raise
	for when := -1; when <= 5; when++ {
		kinds = append(kinds, api.Raise{When: when, Soft: 3})
	}
	eachList(kinds, 5, func(raises []api.Raise) {
		want := slices.IsSortedFunc(raises, func(a, b api.Raise) int { return a.When - b.When })
		if len(raises) > 0 && raises[0].When < 0 {
			want = false
		}
		if soft.Right(nil, raises) != want {
			t.Errorf("Right(nil, %v) = %v", raises, !want)
		}
	})
}

// J2

func TestRunByHand(t *testing.T) {
	type raises = []api.Raise
	for _, c := range []struct {
		pending []int
		raises  raises
		rounds  int
		want    outcome
	}{
		{nil, nil, 5, outcome{}},
		{[]int{5, 2}, nil, 0, outcome{executed: []int{2, 5}}},
		{[]int{5, 2}, nil, 1, outcome{executed: []int{2, 5}, first: 2}},
		{[]int{5, 2}, nil, 400, outcome{executed: []int{2, 5}, first: 2}},
		{[]int{5, 2, 5, 5}, nil, 1, outcome{executed: []int{2, 5}, first: 2}},
		{[]int{7, 6, 5, 4, 3, 2, 1, 0}, nil, 1, outcome{executed: []int{0, 1, 2, 3, 4, 5, 6, 7}, first: 8}},
		// At the start, it is in the first round; it is executed once, however often it was raised.
		{nil, raises{{When: 0, Soft: 4}}, 1, outcome{executed: []int{4}, first: 1}},
		{[]int{6}, raises{{When: 0, Soft: 4}, {When: 0, Soft: 6}, {When: 0, Soft: 4}}, 1, outcome{executed: []int{4, 6}, first: 2}},
		// What is raised during a round is for the next one, be it smaller or greater than what is executed.
		{[]int{3}, raises{{When: 1, Soft: 3}}, 1, outcome{executed: []int{3, 3}, first: 1}},
		{[]int{2, 5}, raises{{When: 1, Soft: 1}}, 1, outcome{executed: []int{2, 5, 1}, first: 2}},
		{[]int{2, 5}, raises{{When: 1, Soft: 3}}, 1, outcome{executed: []int{2, 5, 3}, first: 2}},
		{[]int{2, 5}, raises{{When: 1, Soft: 7}}, 1, outcome{executed: []int{2, 5, 7}, first: 2}},
		// That it is still to be executed in this round is no reason to leave it out of the next one.
		{[]int{2, 5}, raises{{When: 1, Soft: 5}}, 1, outcome{executed: []int{2, 5, 5}, first: 2}},
		{[]int{2, 5}, raises{{When: 1, Soft: 2}, {When: 2, Soft: 2}}, 1, outcome{executed: []int{2, 5, 2}, first: 2}},
		// The last execution of all raises, too, and one more would be needed for the next raise.
		{[]int{2, 5}, raises{{When: 2, Soft: 0}}, 2, outcome{executed: []int{2, 5, 0}, first: 3}},
		{[]int{2, 5}, raises{{When: 3, Soft: 0}}, 2, outcome{executed: []int{2, 5}, first: 2}},
		{nil, raises{{When: 1, Soft: 0}}, 2, outcome{}},
		{nil, raises{{When: 0, Soft: 3}, {When: 1, Soft: 3}, {When: 2, Soft: 3}, {When: 9, Soft: 1}}, 2, outcome{executed: []int{3, 3, 3}, first: 2}},
		{[]int{5, 2}, raises{{When: 1, Soft: 1}, {When: 1, Soft: 5}, {When: 4, Soft: 0}}, 2, outcome{executed: []int{2, 5, 1, 5, 0}, first: 4}},
		{[]int{5, 2}, raises{{When: 1, Soft: 1}, {When: 1, Soft: 5}, {When: 4, Soft: 0}}, 0, outcome{executed: []int{2, 5, 1, 5, 0}}},
		{[]int{5}, nil, -1, outcome{e: api.ErrRange}},
		{[]int{5}, nil, 401, outcome{e: api.ErrRange}},
		{[]int{8}, nil, 1, outcome{e: api.ErrForm}},
		{[]int{5}, raises{{When: 1, Soft: 8}}, 1, outcome{e: api.ErrForm}},
		{[]int{5}, raises{{When: 2, Soft: 1}, {When: 1, Soft: 1}}, 1, outcome{e: api.ErrForm}},
	} {
		if got := ran(c.pending, c.raises, c.rounds); !same(got, c.want) {
			t.Errorf("Run(%v, %v, %d) = %v, not %v", c.pending, c.raises, c.rounds, got, c.want)
		}
		expect(t, c.pending, c.raises, c.rounds)
	}
}

// TestRunOfAllSmall looks at all small sets of pending numbers, with all lists of up to three raises, and all rounds that differ.
func TestRunOfAllSmall(t *testing.T) {
	var kinds []api.Raise
	for when := range 6 {
		for n := range 3 {
			kinds = append(kinds, api.Raise{When: when, Soft: n})
		}
	}
	for _, pending := range [][]int{nil, {0}, {1}, {2}, {1, 0}, {2, 0}, {2, 1}, {2, 0, 1}, {1, 1}} {
		eachList(kinds, 3, func(raises []api.Raise) {
			for rounds := range 6 {
				expect(t, pending, raises, rounds)
			}
		})
	}
}

func TestRunOfAllSets(t *testing.T) {
	for set := range 256 {
		var pending []int
		for n := 7; n >= 0; n-- {
			if set>>n&1 == 1 {
				pending = append(pending, n)
			}
		}
		for n := range 8 {
			expect(t, pending, nil, 1)
			expect(t, pending, []api.Raise{{When: 0, Soft: n}, {When: 1, Soft: 7 - n}, {When: 3, Soft: n}}, 1)
		}
	}
}

func TestRunOfFarRounds(t *testing.T) {
	for _, rounds := range numbers() {
		for _, pending := range [][]int{nil, {5, 2}, {8}} {
			expect(t, pending, nil, rounds)
			expect(t, pending, []api.Raise{{When: 1, Soft: 5}, {When: 3, Soft: 0}}, rounds)
			expect(t, pending, []api.Raise{{When: 1, Soft: -5}}, rounds)
		}
	}
}

// TestRunOfManyRaises: long runs, of which some end early because nothing is raised for a while.
func TestRunOfManyRaises(t *testing.T) {
	for seed := range uint32(3000) {
		roll := scatter(seed)
		pending := scatteredPending(roll, roll(12))
		raises := scatteredRaises(roll, roll(401), roll(401))
		expect(t, pending, raises, roll(60))
	}
}

// TestRunOfAllRounds: a run of 401 rounds has more than may be asked for.
func TestRunOfAllRounds(t *testing.T) {
	roll := scatter(9)
	raises := scatteredRaises(roll, 400, 300)
	for rounds := range 401 {
		expect(t, []int{3, 4}, raises, rounds)
		for from, want := range []outcome{
			{executed: slices.Repeat([]int{6}, 400), first: rounds},
			{executed: slices.Repeat([]int{6}, 401), first: rounds},
		} {
			var pending []int
			if from == 1 {
				pending = []int{6}
			}
			if got := ran(pending, steady(6, from), rounds); !same(got, want) {
				t.Errorf("%d rounds from %d: %v", rounds, from, got)
			}
		}
	}
}

// TestLongestRun: no run is longer than one whose 400 raises all add an execution.
func TestLongestRun(t *testing.T) {
	all := []int{0, 1, 2, 3, 4, 5, 6, 7}
	var raises []api.Raise
	for when := 8; when <= 400; when += 8 {
		for _, n := range all {
			raises = append(raises, api.Raise{When: when, Soft: n})
		}
	}
	for rounds := range 401 {
		want := outcome{executed: slices.Repeat(all, 51), first: 8 * min(rounds, 51)}
		if got := ran(all, raises, rounds); !same(got, want) {
			t.Errorf("%d rounds: %v, not %v", rounds, got, want)
		}
	}
}

// TestEverythingRaisedIsExecuted: behind each raise that is reached its number is executed, and a run ends only where nothing is left to execute.
func TestEverythingRaisedIsExecuted(t *testing.T) {
	for seed := range uint32(1000) {
		roll := scatter(seed)
		pending := scatteredPending(roll, 1+roll(5))
		raises := scatteredRaises(roll, roll(100), 120)
		got := ran(pending, raises, 0).executed
		for _, n := range pending {
			if !slices.Contains(got, n) {
				t.Errorf("Run(%v, %v) = %v: without %d", pending, raises, got, n)
			}
		}
		for _, r := range raises {
			if r.When <= len(got) && !slices.Contains(got[r.When:], r.Soft) {
				t.Errorf("Run(%v, %v) = %v: without %v", pending, raises, got, r)
			}
		}
	}
}

// TestRoundsDivideTheRun: the rounds do not change what is executed, and each of them is increasing.
func TestRoundsDivideTheRun(t *testing.T) {
	for seed := range uint32(100) {
		roll := scatter(seed)
		pending := scatteredPending(roll, 1+roll(5))
		raises := scatteredRaises(roll, 100, 150)
		whole := ran(pending, raises, 400)
		for rounds := 1; rounds <= 400; rounds++ {
			before, now := ran(pending, raises, rounds-1), ran(pending, raises, rounds)
			if !slices.Equal(now.executed, whole.executed) || now.first < before.first {
				t.Fatalf("Run(%v, %v, %d) = %v, behind %v", pending, raises, rounds, now, before)
			}
			round := now.executed[before.first:now.first]
			if !slices.IsSorted(round) || len(slices.Compact(slices.Clone(round))) != len(round) {
				t.Fatalf("Run(%v, %v): %v is a round", pending, raises, round)
			}
			if len(round) == 0 && now.first != len(now.executed) {
				t.Fatalf("Run(%v, %v, %d) = %v: an empty round", pending, raises, rounds, now)
			}
		}
	}
}

// TestOrderOfErrors: where both errors are, ErrForm is told.
func TestOrderOfErrors(t *testing.T) {
	for _, rounds := range []int{-1, 401, math.MinInt, math.MaxInt} {
		for _, c := range []struct {
			pending []int
			raises  []api.Raise
			want    api.Errno
		}{
			{[]int{8}, nil, api.ErrForm},
			{nil, []api.Raise{{Soft: 8}}, api.ErrForm},
			{nil, []api.Raise{{When: 401}}, api.ErrForm},
			{nil, []api.Raise{{When: 1}, {When: 0}}, api.ErrForm},
			{nil, make([]api.Raise, 401), api.ErrForm},
			{nil, make([]api.Raise, 400), api.ErrRange},
			{nil, nil, api.ErrRange},
			{[]int{7}, []api.Raise{{When: 400, Soft: 7}}, api.ErrRange},
		} {
			if got := ran(c.pending, c.raises, rounds); !same(got, outcome{e: c.want}) {
				t.Errorf("Run(%v, %v, %d) = %v", c.pending, c.raises, rounds, got)
			}
		}
	}
}

// Z1

func TestNothingIsKept(t *testing.T) {
	roll := scatter(5)
	pending, raises := scatteredPending(roll, 4), scatteredRaises(roll, 300, 200)
	once := ran(pending, raises, 9)
	ran([]int{0, 1, 2, 3}, steady(7, 1), 400)
	ran([]int{9}, nil, 3)
	if again := ran(pending, raises, 9); !same(once, again) {
		t.Errorf("Run = %v, and then %v", once, again)
	}
}

// Z2

// TestRunLeavesItsArguments: they do not change, what is behind them does not matter, and the result is in memory of its own.
func TestRunLeavesItsArguments(t *testing.T) {
	for n := range 20 {
		roll := scatter(uint32(n))
		pendingRoom, raisesRoom := scatteredPending(roll, n+3), scatteredRaises(roll, n+3, 5)
		// Behind the arguments is what would be an error within them.
		pendingRoom[n], raisesRoom[n] = 8, api.Raise{When: -1, Soft: 8}
		wholePending, wholeRaises := slices.Clone(pendingRoom), slices.Clone(raisesRoom)
		pending, raises := pendingRoom[:n], raisesRoom[:n]
		got := ran(pending, raises, 3)
		if got.e != api.OK || !soft.Right(pending, raises) {
			t.Fatalf("what is behind %d numbers and raises matters", n)
		}
		kept := slices.Clone(got.executed)
		if !slices.Equal(pendingRoom, wholePending) || !slices.Equal(raisesRoom, wholeRaises) {
			t.Fatalf("%d numbers and raises, or what is behind them, have changed", n)
		}
		again := ran(pending, raises, 3)
		clear(again.executed[:cap(again.executed)])
		if !slices.Equal(pendingRoom, wholePending) || !slices.Equal(got.executed, kept) {
			t.Fatalf("the result for %d numbers and raises is in other memory, too", n)
		}
		clear(pendingRoom)
		clear(raisesRoom)
		if !slices.Equal(got.executed, kept) {
			t.Fatalf("the result for %d numbers and raises is in theirs", n)
		}
	}
}

// TestResultIsApartFromPending: also where what is executed equals what is pending.
func TestResultIsApartFromPending(t *testing.T) {
	pending := []int{0, 1, 2}
	got := ran(pending, nil, 1)
	pending[0] = 7
	if !slices.Equal(got.executed, []int{0, 1, 2}) {
		t.Errorf("the result changes with the argument: %v", got)
	}
}

// Z3

func TestNilAndEmpty(t *testing.T) {
	empty, none := []int{}, []api.Raise{}
	if !soft.Right(nil, nil) || !soft.Right(empty, none) || !soft.Right(nil, none) || !soft.Right(empty, nil) {
		t.Errorf("nothing is not valid")
	}
	for _, rounds := range numbers() {
		want := ran(nil, nil, rounds)
		for _, got := range []outcome{ran(empty, nil, rounds), ran(nil, none, rounds), ran(empty, none, rounds)} {
			if !same(got, want) {
				t.Errorf("Run of nothing, %d rounds: %v, or %v", rounds, got, want)
			}
		}
		if a, b := ran([]int{4}, nil, rounds), ran([]int{4}, none, rounds); !same(a, b) {
			t.Errorf("Run without raises, %d rounds: %v, or %v", rounds, a, b)
		}
		if a, b := ran(nil, []api.Raise{{Soft: 4}}, rounds), ran(empty, []api.Raise{{Soft: 4}}, rounds); !same(a, b) {
			t.Errorf("Run with nothing pending, %d rounds: %v, or %v", rounds, a, b)
		}
	}
}
