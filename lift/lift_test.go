package lift_test

import (
	"math"
	"slices"
	"testing"

	"corebell/api"
	"corebell/lift"
)

const (
	mostBlocks = 400
	farthest   = 1 << 40
)

// orderer is Sweep or Short.
type orderer func(head int, l []int) ([]int, api.Errno)

var orderers = map[string]orderer{"Sweep": lift.Sweep, "Short": lift.Short}

// isRight says again what the chapter asks of blocks.
func isRight(l []int) bool {
	for _, b := range l {
		if b <= -1 || b >= farthest+1 {
			return false
		}
	}
	return len(l) <= mostBlocks
}

// distance tells the way as the sum of how often each of the two directions goes by.
func distance(head int, l []int) int {
	up, down := 0, 0
	for i, b := range l {
		from := head
		if i > 0 {
			from = l[i-1]
		}
		if b >= from {
			up += b - from
		} else {
			down += from - b
		}
	}
	return up + down
}

// next is where the block is that is preferred to all others that fit (-1: none fits).
func next(l []int, fits func(b int) bool, prefers func(a, b int) bool) int {
	at := -1
	for i, b := range l {
		if fits(b) && (at < 0 || prefers(b, l[at])) {
			at = i
		}
	}
	return at
}

// picked takes one block at a time out of those that fit.
func picked(l []int, fits func(b int) bool, prefers func(a, b int) bool) []int {
	left := slices.Clone(l)
	var order []int
	for {
		at := next(left, fits, prefers)
		if at < 0 {
			return order
		}
		order = append(order, left[at])
		left = slices.Delete(left, at, at+1)
	}
}

func less(a, b int) bool    { return a < b }
func greater(a, b int) bool { return a > b }

func foretoldSweep(head int, l []int) []int {
	up := picked(l, func(b int) bool { return b >= head }, less)
	down := picked(l, func(b int) bool { return b < head }, less)
	return append(up, down...)
}

func foretoldShort(head int, l []int) []int {
	if len(l) == 0 {
		return nil
	}
	up := picked(l, func(b int) bool { return b >= head }, less)
	down := picked(l, func(b int) bool { return b < head }, greater)
	if slices.Max(l)-head > head-slices.Min(l) {
		return append(down, up...)
	}
	return append(up, down...)
}

// shortest is the smallest distance of all orders: the ends have to be visited, one of them ahead of the other.
func shortest(head int, l []int) int {
	if len(l) == 0 {
		return 0
	}
	first, last := slices.Min(l), slices.Max(l)
	return last - first + min(distance(head, []int{first}), distance(head, []int{last}))
}

// shortestOfAll goes through all orders; for few blocks only.
func shortestOfAll(head int, l []int) int {
	if len(l) == 0 {
		return 0
	}
	best := math.MaxInt
	for i, b := range l {
		rest := slices.Delete(slices.Clone(l), i, i+1)
		best = min(best, distance(head, []int{b})+shortestOfAll(b, rest))
	}
	return best
}

// expectOrders holds the four functions for blocks against what the chapter says of them.
func expectOrders(t *testing.T, head int, l []int) {
	t.Helper()
	if !isRight(l) || head <= -1 || head >= farthest+1 {
		expectErrors(t, head, l)
		return
	}
	if e := lift.Wrong(l); e != api.OK {
		t.Fatalf("Wrong(%v) = %d", l, e)
	}
	if n, e := lift.Way(head, l); n != distance(head, l) || e != api.OK {
		t.Fatalf("Way(%d, %v) = %d, %d, not %d", head, l, n, e, distance(head, l))
	}
	if got, e := lift.Sweep(head, l); !slices.Equal(got, foretoldSweep(head, l)) || e != api.OK {
		t.Fatalf("Sweep(%d, %v) = %v, %d, not %v", head, l, got, e, foretoldSweep(head, l))
	}
	if got, e := lift.Short(head, l); !slices.Equal(got, foretoldShort(head, l)) || e != api.OK {
		t.Fatalf("Short(%d, %v) = %v, %d, not %v", head, l, got, e, foretoldShort(head, l))
	}
}

// expectErrors asks for the error, and for zero values beside it.
func expectErrors(t *testing.T, head int, l []int) {
	t.Helper()
	want := api.OK
	if !isRight(l) {
		want = api.ErrRange
	}
	if e := lift.Wrong(l); e != want {
		t.Fatalf("Wrong of %d blocks is %d, not %d", len(l), e, want)
	}
	if n, e := lift.Way(head, l); n != 0 || e != api.ErrRange {
		t.Fatalf("Way from %d through %d blocks is %d, %d", head, len(l), n, e)
	}
	for name, f := range orderers {
		if got, e := f(head, l); len(got) != 0 || e != api.ErrRange {
			t.Fatalf("%s from %d through %d blocks is %v, %d", name, head, len(l), got, e)
		}
	}
}

func span(from, to int) api.Span { return api.Span{From: from, To: to} }

func isRightSpan(s api.Span) bool {
	return s.From >= 0 && s.From < s.To && s.To <= farthest
}

// merged looks at each piece between two ends that lie next to each other: is it in one of the ranges?
func merged(l []api.Span) []api.Span {
	var ends []int
	for _, s := range l {
		ends = append(ends, s.From, s.To)
	}
	slices.Sort(ends)
	ends = slices.Compact(ends)
	var out []api.Span
	inside := false
	for i := 1; i < len(ends); i++ {
		piece := span(ends[i-1], ends[i])
		was := inside
		inside = slices.ContainsFunc(l, func(s api.Span) bool { return s.From <= piece.From && s.To >= piece.To })
		switch {
		case inside && was:
			out[len(out)-1].To = piece.To
		case inside:
			out = append(out, piece)
		}
	}
	return out
}

func expectMerge(t *testing.T, l []api.Span) {
	t.Helper()
	want, wantE := merged(l), api.OK
	if len(l) > mostBlocks || slices.ContainsFunc(l, func(s api.Span) bool { return !isRightSpan(s) }) {
		want, wantE = nil, api.ErrRange
	}
	if got, e := lift.Merge(l); !slices.Equal(got, want) || e != wantE {
		t.Fatalf("Merge(%v) = %v, %d, not %v, %d", l, got, e, want, wantE)
	}
}

// scatter returns a function whose results are below its argument, and the same in each run.
func scatter(seed uint32) func(n int) int {
	return func(n int) int {
		seed = seed*1664525 + 1013904223
		high := int(seed >> 8)
		seed = seed*1664525 + 1013904223
		return (high<<24 | int(seed>>8)) % n
	}
}

// scattered returns n blocks below the end.
func scattered(roll func(int) int, n, end int) []int {
	l := make([]int, n)
	for i := range l {
		l[i] = roll(end)
	}
	return l
}

// scatteredSpans returns n ranges below the end, none of them longer than most.
func scatteredSpans(roll func(int) int, n, end, most int) []api.Span {
	l := make([]api.Span, n)
	for i := range l {
		from := roll(end)
		l[i] = span(from, from+1+roll(min(most, end-from)))
	}
	return l
}

// shuffled returns the same in another order.
func shuffled[T any](roll func(int) int, l []T) []T {
	l = slices.Clone(l)
	for i := range l {
		j := i + roll(len(l)-i)
		l[i], l[j] = l[j], l[i]
	}
	return l
}

// eachList calls look with all lists of at most so many of the choices.
func eachList[T any](choices []T, most int, look func(l []T)) {
	var extend func(l []T)
	extend = func(l []T) {
		look(slices.Clone(l))
		if len(l) == most {
			return
		}
		for _, c := range choices {
			extend(append(slices.Clip(l), c))
		}
	}
	extend(nil)
}

// numbers are those around the ends of each range, and those that a narrower integer would bring into it.
func numbers() []int {
	return []int{
		math.MinInt, math.MinInt + 1, -1 << 62, -1 << 41, -1<<40 - 1, -1 << 40, -1 << 32, -1<<32 + 1, -1 << 31, -256, -255, -2, -1,
		0, 1, 2, 255, 256, 257, math.MaxInt32, 1 << 31, 1<<32 - 1, 1 << 32, 1<<32 + 1,
		1<<40 - 2, 1<<40 - 1, 1 << 40, 1<<40 + 1, 1<<40 + 2, 1 << 41, 1 << 62, 1<<62 + 1, math.MaxInt - 1, math.MaxInt,
	}
}

// S1: Wrong, and the errors of the others

func TestNumberOfBlocks(t *testing.T) {
	for n := range 450 {
		expectOrders(t, 7, make([]int, n))
	}
	for _, n := range []int{400, 401, 1 << 16, 1<<16 + 1, 1<<16 + 400} {
		expectOrders(t, 0, slices.Repeat([]int{3}, n))
	}
}

func TestEachPlaceOfAWrongBlock(t *testing.T) {
	for _, n := range []int{1, 2, 3, 12, 13, 400} {
		for at := range n {
			l := slices.Repeat([]int{9}, n)
			for _, l[at] = range numbers() {
				want := api.OK
				if !isRight(l) {
					want = api.ErrRange
				}
				if e := lift.Wrong(l); e != want {
					t.Fatalf("Wrong with %d at %d of %d is %d", l[at], at, n, e)
				}
				if n < 20 {
					expectOrders(t, 9, l)
				}
			}
		}
	}
}

func TestEachHead(t *testing.T) {
	for _, head := range numbers() {
		for _, l := range [][]int{nil, {}, {0}, {farthest}, {0, farthest}, {farthest, 0, 5}, {5, 4, 7}, make([]int, 400)} {
			expectOrders(t, head, l)
		}
		for _, a := range numbers() {
			for _, b := range numbers() {
				expectOrders(t, head, []int{a, b})
			}
		}
	}
}

// S1: Way

func TestWayByHand(t *testing.T) {
	for _, c := range []struct {
		head int
		l    []int
		want int
	}{
		{50, nil, 0},
		{50, []int{50}, 0},
		{50, []int{50, 50, 50}, 0},
		{50, []int{55, 60, 40, 10}, 60},
		{50, []int{40, 10, 55, 60}, 90},
		{50, []int{10, 60, 55, 40}, 110},
		{0, []int{0, 1, 0, 1, 0}, 4},
		{0, []int{farthest}, farthest},
		{farthest, []int{0}, farthest},
		{farthest, []int{farthest, 0, farthest}, 2 * farthest},
		{3, []int{1, 4, 1, 5, 9, 2, 6, 5}, 2 + 3 + 3 + 4 + 4 + 7 + 4 + 1},
	} {
		if n, e := lift.Way(c.head, c.l); n != c.want || e != api.OK {
			t.Errorf("Way(%d, %v) = %d, %d, not %d", c.head, c.l, n, e, c.want)
		}
	}
}

// TestLongestWay: from one end to the other, each time.
func TestLongestWay(t *testing.T) {
	l := slices.Repeat([]int{farthest, 0}, mostBlocks/2)
	if n, e := lift.Way(0, l); n != mostBlocks*farthest || e != api.OK {
		t.Errorf("the longest way is %d, %d", n, e)
	}
}

// TestWayInParts: a way goes on where the one ahead of it ends.
func TestWayInParts(t *testing.T) {
	roll := scatter(4)
	for range 300 {
		l := scattered(roll, 1+roll(400), farthest+1)
		head, cut := roll(farthest+1), 1+roll(len(l))
		whole, _ := lift.Way(head, l)
		a, _ := lift.Way(head, l[:cut])
		b, e := lift.Way(l[cut-1], l[cut:])
		if whole != a+b || e != api.OK {
			t.Fatalf("Way(%d, %v) = %d, and in parts %d and %d", head, l, whole, a, b)
		}
	}
}

// S1: Sweep and Short

func TestOrdersByHand(t *testing.T) {
	for _, c := range []struct {
		head         int
		l            []int
		sweep, short []int
	}{
		{50, nil, nil, nil},
		// The chapter's example.
		{50, []int{55, 60, 40, 10}, []int{55, 60, 10, 40}, []int{55, 60, 40, 10}},
		{50, []int{10, 60, 55, 40}, []int{55, 60, 10, 40}, []int{55, 60, 40, 10}},
		// The longer way is above, as long as below, and below.
		{50, []int{49, 61, 40, 52}, []int{52, 61, 40, 49}, []int{49, 40, 52, 61}},
		{50, []int{49, 60, 40, 52}, []int{52, 60, 40, 49}, []int{52, 60, 49, 40}},
		{50, []int{49, 59, 40, 52}, []int{52, 59, 40, 49}, []int{52, 59, 49, 40}},
		// How far the ends are matters, not how many blocks there are on a side.
		{50, []int{51, 52, 53, 54, 55, 44}, []int{51, 52, 53, 54, 55, 44}, []int{51, 52, 53, 54, 55, 44}},
		{50, []int{49, 48, 47, 46, 45, 56}, []int{56, 45, 46, 47, 48, 49}, []int{49, 48, 47, 46, 45, 56}},
		// A block at the head is not less than it.
		{50, []int{50, 40}, []int{50, 40}, []int{50, 40}},
		{50, []int{60, 50}, []int{50, 60}, []int{50, 60}},
		{50, []int{50, 70, 40}, []int{50, 70, 40}, []int{40, 50, 70}},
		{50, []int{50, 49, 50}, []int{50, 50, 49}, []int{50, 50, 49}},
		// All are on one side: one of the differences is negative.
		{0, []int{3, 1, 2}, []int{1, 2, 3}, []int{1, 2, 3}},
		{9, []int{3, 1, 2}, []int{1, 2, 3}, []int{3, 2, 1}},
		{farthest, []int{0, farthest}, []int{farthest, 0}, []int{farthest, 0}},
		{1, []int{0, farthest}, []int{farthest, 0}, []int{0, farthest}},
		// Each block stays as often as it is there.
		{5, []int{7, 3, 7, 3, 5}, []int{5, 7, 7, 3, 3}, []int{5, 7, 7, 3, 3}},
		{5, []int{8, 3, 8, 3, 5}, []int{5, 8, 8, 3, 3}, []int{3, 3, 5, 8, 8}},
	} {
		if got, e := lift.Sweep(c.head, c.l); !slices.Equal(got, c.sweep) || e != api.OK {
			t.Errorf("Sweep(%d, %v) = %v, %d, not %v", c.head, c.l, got, e, c.sweep)
		}
		if got, e := lift.Short(c.head, c.l); !slices.Equal(got, c.short) || e != api.OK {
			t.Errorf("Short(%d, %v) = %v, %d, not %v", c.head, c.l, got, e, c.short)
		}
		expectOrders(t, c.head, c.l)
	}
}

func TestOrdersOfAllSmall(t *testing.T) {
	eachList([]int{0, 1, 2, 3, 4, 5, 6}, 4, func(l []int) {
		for head := -1; head <= 8; head++ {
			expectOrders(t, head, l)
		}
	})
}

// TestOrdersOfManyBlocks: few different ones, and ones from all over the disk.
func TestOrdersOfManyBlocks(t *testing.T) {
	roll := scatter(1)
	for _, end := range []int{1, 2, 10, 500, 1 << 20, 1 << 33, farthest + 1} {
		for range 30 {
			l := scattered(roll, roll(401), end)
			for _, head := range []int{0, roll(end), roll(end), end / 2, end - 1, farthest} {
				expectOrders(t, head, l)
			}
		}
	}
}

// TestShortIsOptimal: no order of the same blocks has a shorter way.
func TestShortIsOptimal(t *testing.T) {
	eachList([]int{0, 2, 3, 7, 8}, 4, func(l []int) {
		for head := range 10 {
			if shortestOfAll(head, l) != shortest(head, l) {
				t.Fatalf("the shortest way from %d through %v is %d", head, l, shortestOfAll(head, l))
			}
			expectShortest(t, head, l)
		}
	})
	roll := scatter(2)
	for range 200 {
		l, head := scattered(roll, roll(8), 1+roll(99)), roll(99)
		if shortestOfAll(head, l) != shortest(head, l) {
			t.Fatalf("the shortest way from %d through %v is %d", head, l, shortestOfAll(head, l))
		}
		expectShortest(t, head, l)
	}
	for range 1000 {
		expectShortest(t, roll(farthest+1), scattered(roll, roll(401), farthest+1))
	}
}

func expectShortest(t *testing.T, head int, l []int) {
	t.Helper()
	short, _ := lift.Short(head, l)
	n, e := lift.Way(head, short)
	if n != shortest(head, l) || e != api.OK {
		t.Fatalf("Short(%d, %v) = %v: its way is %d, %d, not %d", head, l, short, n, e, shortest(head, l))
	}
}

// TestAnyOrderOfTheSameBlocks: it does not matter to Sweep and Short, and they return all of the blocks.
func TestAnyOrderOfTheSameBlocks(t *testing.T) {
	roll := scatter(3)
	for range 300 {
		end := []int{5, 300, farthest + 1}[roll(3)]
		l, head := scattered(roll, roll(401), end), roll(end)
		for name, f := range orderers {
			a, _ := f(head, l)
			b, _ := f(head, shuffled(roll, l))
			if !slices.Equal(a, b) {
				t.Fatalf("%s(%d, %v) = %v, or %v", name, head, l, a, b)
			}
			slices.Sort(a)
			if !slices.Equal(a, slices.Sorted(slices.Values(l))) {
				t.Fatalf("%s(%d, %v) has other blocks", name, head, l)
			}
		}
	}
}

// S2

func TestMergeByHand(t *testing.T) {
	type spans = []api.Span
	for _, c := range []struct {
		l    spans
		want spans
	}{
		{nil, nil},
		{spans{span(0, 1)}, spans{span(0, 1)}},
		{spans{span(0, farthest)}, spans{span(0, farthest)}},
		{spans{span(farthest-1, farthest)}, spans{span(farthest-1, farthest)}},
		// One begins where another one ends; one block is missing between two.
		{spans{span(5, 7), span(1, 5)}, spans{span(1, 7)}},
		{spans{span(6, 7), span(1, 5)}, spans{span(1, 5), span(6, 7)}},
		{spans{span(1, 2), span(3, 4), span(2, 3)}, spans{span(1, 4)}},
		// They overlap, contain each other, or are the same.
		{spans{span(1, 5), span(4, 9)}, spans{span(1, 9)}},
		{spans{span(1, 9), span(3, 5)}, spans{span(1, 9)}},
		{spans{span(3, 5), span(1, 9)}, spans{span(1, 9)}},
		{spans{span(1, 9), span(1, 3)}, spans{span(1, 9)}},
		{spans{span(1, 3), span(1, 9)}, spans{span(1, 9)}},
		{spans{span(1, 9), span(7, 9)}, spans{span(1, 9)}},
		{spans{span(4, 6), span(4, 6), span(4, 6)}, spans{span(4, 6)}},
		// A short one inside does not end a long one.
		{spans{span(0, 20), span(1, 2), span(10, 30), span(40, 50)}, spans{span(0, 30), span(40, 50)}},
		{spans{span(0, farthest), span(5, 6), span(farthest-1, farthest)}, spans{span(0, farthest)}},
		{spans{span(farthest-2, farthest), span(0, 2)}, spans{span(0, 2), span(farthest-2, farthest)}},
	} {
		if got, e := lift.Merge(c.l); !slices.Equal(got, c.want) || e != api.OK {
			t.Errorf("Merge(%v) = %v, %d, not %v", c.l, got, e, c.want)
		}
		expectMerge(t, c.l)
	}
}

func TestMergeErrorsByHand(t *testing.T) {
	for _, s := range []api.Span{
		{}, span(-1, 3), span(-5, -1), span(-1, farthest+1), span(3, 3), span(4, 3), span(5, math.MinInt), span(3, -3),
		span(farthest, farthest), span(0, farthest+1), span(farthest, farthest+1), span(farthest+1, farthest+2), span(math.MinInt, math.MaxInt), span(math.MinInt, 3), span(3, math.MaxInt),
	} {
		for _, l := range [][]api.Span{{s}, {s, span(1, 2)}, {span(1, 2), s}, {span(1, 2), s, span(7, 9)}, {s, s}} {
			if got, e := lift.Merge(l); len(got) != 0 || e != api.ErrRange {
				t.Errorf("Merge(%v) = %v, %d", l, got, e)
			}
		}
	}
}

func TestEndsOfRanges(t *testing.T) {
	for _, from := range numbers() {
		for _, to := range numbers() {
			s := span(from, to)
			expectMerge(t, []api.Span{s})
			for _, other := range []api.Span{span(0, 1), span(2, 3), span(1, 256), span(0, farthest), span(farthest-1, farthest)} {
				expectMerge(t, []api.Span{s, other})
				expectMerge(t, []api.Span{other, s})
			}
		}
	}
}

func TestNumberOfRanges(t *testing.T) {
	for n := range 450 {
		apart := make([]api.Span, n)
		for i := range apart {
			apart[i] = span(3*(n-i), 3*(n-i)+2)
		}
		expectMerge(t, apart)
		expectMerge(t, slices.Repeat([]api.Span{span(5, 7)}, n))
	}
	for _, n := range []int{1 << 16, 1<<16 + 1, 1<<16 + 400} {
		expectMerge(t, slices.Repeat([]api.Span{span(5, 7)}, n))
	}
}

func TestEachPlaceOfAWrongRange(t *testing.T) {
	for at := range mostBlocks {
		l := slices.Repeat([]api.Span{span(4, 6)}, mostBlocks)
		for _, l[at] = range []api.Span{{}, span(-1, 5), span(5, 5), span(5, farthest+1)} {
			expectMerge(t, l)
		}
	}
}

func TestMergeOfAllSmall(t *testing.T) {
	var choices []api.Span
	for from := range 6 {
		for to := from + 1; to <= 6; to++ {
			choices = append(choices, span(from, to))
		}
	}
	eachList(choices, 4, func(l []api.Span) { expectMerge(t, l) })
	choices = append(choices, span(2, 2), span(4, 1), span(-1, 1), span(0, farthest+1))
	eachList(choices, 3, func(l []api.Span) { expectMerge(t, l) })
}

// TestMergeBlockByBlock: the same blocks as ahead of it, and no two ranges that could be one.
func TestMergeBlockByBlock(t *testing.T) {
	roll := scatter(5)
	for range 1000 {
		l := scatteredSpans(roll, roll(60), 200, 1+roll(20))
		got, e := lift.Merge(l)
		var before, behind [200]bool
		for _, s := range l {
			for b := s.From; b < s.To; b++ {
				before[b] = true
			}
		}
		for i, s := range got {
			if s.From >= s.To || i > 0 && s.From <= got[i-1].To {
				t.Fatalf("Merge(%v) = %v", l, got)
			}
			for b := s.From; b < s.To; b++ {
				behind[b] = true
			}
		}
		if before != behind || e != api.OK {
			t.Fatalf("Merge(%v) = %v, %d has other blocks", l, got, e)
		}
	}
}

func TestMergeOfManyRanges(t *testing.T) {
	roll := scatter(6)
	for _, end := range []int{10, 3000, 1 << 33, farthest} {
		for _, most := range []int{1, 4, 100, end/300 + 1, end} {
			for range 10 {
				expectMerge(t, scatteredSpans(roll, roll(401), end, most))
			}
		}
	}
}

// TestMergeAgain: what is merged stays as it is, and the order of the ranges does not matter.
func TestMergeAgain(t *testing.T) {
	roll := scatter(7)
	for range 300 {
		end := []int{30, 5000, farthest}[roll(3)]
		l := scatteredSpans(roll, roll(401), end, end/100+1)
		once, _ := lift.Merge(l)
		again, e := lift.Merge(once)
		other, _ := lift.Merge(shuffled(roll, l))
		if !slices.Equal(once, again) || !slices.Equal(once, other) || e != api.OK {
			t.Fatalf("Merge(%v) = %v, then %v, %d, or %v", l, once, again, e, other)
		}
	}
}

// Z1

func TestNothingIsKept(t *testing.T) {
	for range 3 {
		expectOrders(t, 50, []int{55, 60, 40, 10})
		expectOrders(t, 50, []int{-1})
		expectOrders(t, 50, nil)
		expectMerge(t, []api.Span{span(1, 3), span(3, 9)})
		expectMerge(t, []api.Span{span(2, 1)})
		expectMerge(t, nil)
	}
}

// Z2

// TestOrdersLeaveTheirArgument: it does not change, what is behind it does not matter, and the results are in memory of their own.
func TestOrdersLeaveTheirArgument(t *testing.T) {
	roll := scatter(8)
	for n := range 90 {
		room := append(scattered(roll, n, 100), -7, farthest+9, -1, 4)
		whole := slices.Clone(room)
		for _, head := range []int{0, 20, 80, 99} {
			expectOrders(t, head, room[:n])
			for name, f := range orderers {
				one, _ := f(head, room[:n])
				two, _ := f(head, room[:n])
				kept := slices.Clone(two)
				clear(one[:cap(one)])
				if !slices.Equal(room, whole) {
					t.Fatalf("%s from %d: %v are now %v", name, head, whole, room)
				}
				clear(room)
				if !slices.Equal(two, kept) {
					t.Fatalf("%s from %d through %v: the result is in other memory, too", name, head, whole[:n])
				}
				copy(room, whole)
			}
		}
		// These are in their order already.
		sorted := slices.Sorted(slices.Values(room[:n]))
		for name, f := range orderers {
			got, _ := f(0, sorted)
			clear(got)
			if !slices.IsSorted(sorted) || n > 0 && sorted[n-1] != slices.Max(whole[:n]) {
				t.Fatalf("%s through %v: the result is in the same memory", name, sorted)
			}
		}
	}
}

func TestMergeLeavesItsArgument(t *testing.T) {
	roll := scatter(9)
	for n := range 90 {
		for _, most := range []int{1, 5, 100} {
			room := append(scatteredSpans(roll, n, 500, most), span(-7, 3), span(4, 4), span(0, farthest))
			whole := slices.Clone(room)
			expectMerge(t, room[:n])
			one, _ := lift.Merge(room[:n])
			two, _ := lift.Merge(room[:n])
			kept := slices.Clone(two)
			clear(one[:cap(one)])
			if !slices.Equal(room, whole) {
				t.Fatalf("%v are now %v", whole, room)
			}
			clear(room)
			if !slices.Equal(two, kept) {
				t.Fatalf("Merge(%v): the result is in other memory, too", whole[:n])
			}
			got, _ := lift.Merge(two) // nothing is to be merged
			clear(got)
			if !slices.Equal(two, kept) {
				t.Fatalf("Merge(%v): the result is in the same memory", kept)
			}
		}
	}
}

// Z3

func TestNilAndEmpty(t *testing.T) {
	for _, head := range []int{-1, 0, 50, farthest, farthest + 1} {
		expectOrders(t, head, nil)
		expectOrders(t, head, []int{})
		expectOrders(t, head, make([]int, 0, 9))
	}
	expectMerge(t, nil)
	expectMerge(t, []api.Span{})
	expectMerge(t, make([]api.Span, 0, 9))
}
