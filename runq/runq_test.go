package runq_test

import (
	"cmp"
	"maps"
	"math"
	"slices"
	"testing"

	"corebell/api"
	"corebell/runq"
)

// outcome is all that Play returns.
type outcome struct {
	errs        []api.Errno
	taken, left []int
}

func played(ops []api.RunOp) outcome {
	errs, taken, left := runq.Play(ops)
	return outcome{errs, taken, left}
}

func same(a, b outcome) bool {
	return slices.Equal(a.errs, b.errs) && slices.Equal(a.taken, b.taken) && slices.Equal(a.left, b.left)
}

func add(id, level int) api.RunOp { return api.RunOp{Kind: api.RunAdd, Id: id, Level: level} }

func head(id, level int) api.RunOp { return api.RunOp{Kind: api.RunHead, Id: id, Level: level} }

// The level of a drop, and both numbers of a take, are to be ignored.
func drop(id int) api.RunOp { return api.RunOp{Kind: api.RunDrop, Id: id, Level: -7} }

var take = api.RunOp{Kind: api.RunTake, Id: -7, Level: 700}

// rank is where a thread stands: a larger level is first, and in a level a smaller number. As each later thread has a number larger than all earlier ones, or smaller than all, the model needs no list.
type rank struct{ level, number int }

type ranks map[int]rank

func (r ranks) order() []int {
	return slices.SortedFunc(maps.Keys(r), func(a, b int) int {
		return cmp.Or(cmp.Compare(r[b].level, r[a].level), cmp.Compare(r[a].number, r[b].number))
	})
}

func (r ranks) wrong(o api.RunOp) api.Errno {
	_, queued := r[o.Id]
	switch {
	case o.Kind < 1 || o.Kind > 4:
		return 5
	case o.Kind <= 2 && (o.Level < 0 || o.Level > 31):
		return 2
	case o.Kind <= 2 && queued:
		return 6
	case o.Kind == 3 && len(r) == 0:
		return 3
	case o.Kind == 4 && !queued:
		return 3
	}
	return 0
}

func foretold(ops []api.RunOp) outcome {
	r := ranks{}
	want := outcome{errs: make([]api.Errno, len(ops))}
	for i, o := range ops {
		want.errs[i] = r.wrong(o)
		switch {
		case want.errs[i] != 0:
		case o.Kind == 1:
			r[o.Id] = rank{o.Level, i}
		case o.Kind == 2:
			r[o.Id] = rank{o.Level, -i}
		case o.Kind == 3:
			id := r.order()[0]
			want.taken = append(want.taken, id)
			delete(r, id)
		case o.Kind == 4:
			delete(r, o.Id)
		}
	}
	want.left = r.order()
	return want
}

func expect(t *testing.T, ops []api.RunOp) {
	t.Helper()
	want := foretold(ops)
	if got := played(ops); !same(got, want) {
		t.Errorf("Play(%v) = %v, not %v", ops, got, want)
	}
}

// scatter returns a function whose results are below its argument, and the same in each run.
func scatter(seed uint32) func(n int) int {
	return func(n int) int {
		seed = seed*1664525 + 1013904223
		return int(seed>>8) % n
	}
}

// scattered are n operations about threads 0 to ids - 1 at levels 0 to levels - 1, few of them with a number that there is not.
func scattered(roll func(int) int, n, ids, levels int) []api.RunOp {
	ops := make([]api.RunOp, n)
	for i := range ops {
		id, level := roll(ids), roll(levels)
		switch roll(20) {
		case 0, 1, 2, 3, 4, 5:
			ops[i] = add(id, level)
		case 6, 7, 8, 9, 10:
			ops[i] = head(id, level)
		case 11, 12, 13, 14:
			ops[i] = take
		case 15, 16, 17, 18:
			ops[i] = drop(id)
		default:
			ops[i] = api.RunOp{Kind: roll(8) - 1, Id: id, Level: roll(50) - 9}
		}
	}
	return ops
}

// numbers are the ends of all ranges, what is beside them, and what a narrower integer would take for something within.
func numbers() []int {
	return []int{
		0, 1, 2, 3, 4, 5, 6, 15, 16, 30, 31, 32, 33, 63, 64, 127, 128, 255, 256, 257, 260, 287, 288,
		-1, -2, -3, -4, -5, -31, -32, -33, -64, -128, -225, -256, 1 << 16, 1<<16 + 1, 1<<16 + 31,
		1<<32 - 1, 1 << 32, 1<<32 + 1, 1<<32 + 2, 1<<32 + 3, 1<<32 + 4, 1<<32 + 31, -1 << 32, -1<<32 + 1, -1<<32 + 4, -1<<32 + 31,
		1 << 40, 1<<62 + 1, math.MaxInt - 1, math.MaxInt, math.MinInt, math.MinInt + 1, math.MinInt + 4, math.MinInt + 31,
	}
}

// eachRun calls f with all runs of up to most operations out of kinds, in memory that it uses again.
func eachRun(kinds []api.RunOp, most int, f func([]api.RunOp)) {
	run := make([]api.RunOp, 0, most)
	var longer func()
	longer = func() {
		f(run)
		for i := 0; i < len(kinds) && len(run) < most; i++ {
			run = append(run, kinds[i])
			longer()
			run = run[:len(run)-1]
		}
	}
	longer()
}

// M1

func TestPlayByHand(t *testing.T) {
	type ops = []api.RunOp
	type errs = []api.Errno
	type ints = []int
	for _, c := range []struct {
		ops  ops
		want outcome
	}{
		{nil, outcome{}},
		{ops{add(4, 2)}, outcome{errs{0}, nil, ints{4}}},
		{ops{head(4, 2)}, outcome{errs{0}, nil, ints{4}}},
		{ops{add(4, 2), take}, outcome{errs{0, 0}, ints{4}, nil}},
		{ops{head(4, 2), take}, outcome{errs{0, 0}, ints{4}, nil}},
		{ops{add(4, 2), drop(4)}, outcome{errs{0, 0}, nil, nil}},
		// At the end, and at the front, of the same level.
		{ops{add(4, 2), add(5, 2), add(3, 2)}, outcome{errs{0, 0, 0}, nil, ints{4, 5, 3}}},
		{ops{head(4, 2), head(5, 2), head(3, 2)}, outcome{errs{0, 0, 0}, nil, ints{3, 5, 4}}},
		{ops{add(4, 2), head(5, 2), add(3, 2), head(6, 2)}, outcome{errs{0, 0, 0, 0}, nil, ints{6, 5, 4, 3}}},
		{ops{head(4, 2), add(5, 2), head(3, 2), add(6, 2)}, outcome{errs{0, 0, 0, 0}, nil, ints{3, 4, 5, 6}}},
		// A larger level comes first, whoever came first, and at whichever end.
		{ops{add(4, 0), add(5, 31), add(3, 7)}, outcome{errs{0, 0, 0}, nil, ints{5, 3, 4}}},
		{ops{add(4, 7), head(5, 0), head(3, 6)}, outcome{errs{0, 0, 0}, nil, ints{4, 3, 5}}},
		{ops{add(4, 7), add(5, 8), take, take}, outcome{errs{0, 0, 0, 0}, ints{5, 4}, nil}},
		{ops{add(4, 7), take, add(5, 8), take}, outcome{errs{0, 0, 0, 0}, ints{4, 5}, nil}},
		{ops{add(4, 8), add(5, 7), add(6, 8), head(7, 7), take, take, take}, outcome{errs{0, 0, 0, 0, 0, 0, 0}, ints{4, 6, 7}, ints{5}}},
		// Taking from nothing.
		{ops{take}, outcome{errs{3}, nil, nil}},
		{ops{add(4, 2), take, take}, outcome{errs{0, 0, 3}, ints{4}, nil}},
		{ops{add(4, 2), drop(4), take}, outcome{errs{0, 0, 3}, nil, nil}},
		// Dropping the first one, the last one, one between them, and one that is not there.
		{ops{add(4, 2), add(5, 2), add(3, 2), drop(4)}, outcome{errs{0, 0, 0, 0}, nil, ints{5, 3}}},
		{ops{add(4, 2), add(5, 2), add(3, 2), drop(3)}, outcome{errs{0, 0, 0, 0}, nil, ints{4, 5}}},
		{ops{add(4, 2), add(5, 2), add(3, 2), drop(5)}, outcome{errs{0, 0, 0, 0}, nil, ints{4, 3}}},
		{ops{add(4, 2), add(5, 9), drop(5), take}, outcome{errs{0, 0, 0, 0}, ints{4}, nil}},
		{ops{add(4, 2), add(5, 9), drop(4), take}, outcome{errs{0, 0, 0, 0}, ints{5}, nil}},
		{ops{drop(4)}, outcome{errs{3}, nil, nil}},
		{ops{add(4, 2), drop(5), drop(4), drop(4)}, outcome{errs{0, 3, 0, 3}, nil, nil}},
		{ops{add(4, 2), take, drop(4)}, outcome{errs{0, 0, 3}, ints{4}, nil}},
		// A thread is in the queue once, at one level, but again when it has left.
		{ops{add(4, 2), add(4, 2)}, outcome{errs{0, 6}, nil, ints{4}}},
		{ops{add(4, 2), add(4, 9), head(4, 9), add(5, 7)}, outcome{errs{0, 6, 6, 0}, nil, ints{5, 4}}},
		{ops{add(5, 2), head(4, 2), add(4, 2), head(5, 2)}, outcome{errs{0, 0, 6, 6}, nil, ints{4, 5}}},
		{ops{add(4, 2), take, add(4, 5), take, head(4, 0), take}, outcome{errs{0, 0, 0, 0, 0, 0}, ints{4, 4, 4}, nil}},
		{ops{add(4, 9), add(5, 7), drop(4), add(4, 7)}, outcome{errs{0, 0, 0, 0}, nil, ints{5, 4}}},
		{ops{add(4, 7), add(5, 7), drop(4), head(4, 7)}, outcome{errs{0, 0, 0, 0}, nil, ints{4, 5}}},
		// What there is not.
		{ops{add(4, -1), add(4, 32), head(4, -1), head(4, 32)}, outcome{errs{2, 2, 2, 2}, nil, nil}},
		{ops{add(4, 0), add(5, 31), head(6, 0), head(7, 31)}, outcome{errs{0, 0, 0, 0}, nil, ints{7, 5, 6, 4}}},
		{ops{{}, {Kind: 5}, {Kind: -1}, {Kind: 5, Id: 4, Level: 2}, add(4, 2)}, outcome{errs{5, 5, 5, 5, 0}, nil, ints{4}}},
		// Any number is a thread's.
		{ops{add(-9, 0), add(0, 0), add(math.MinInt, 0), drop(-9)}, outcome{errs{0, 0, 0, 0}, nil, ints{0, math.MinInt}}},
	} {
		if got := played(c.ops); !same(got, c.want) {
			t.Errorf("Play(%v) = %v, not %v", c.ops, got, c.want)
		}
		expect(t, c.ops)
	}
}

// TestPlayOfAllSmall looks at all short runs of two threads at the outermost levels, and of three at one level.
func TestPlayOfAllSmall(t *testing.T) {
	eachRun([]api.RunOp{
		add(0, 0), add(0, 31), head(0, 0), head(0, 31), drop(0), take,
		add(-1, 0), add(-1, 31), head(-1, 0), head(-1, 31), drop(-1),
	}, 5, func(ops []api.RunOp) { expect(t, ops) })
	eachRun([]api.RunOp{
		add(7, 4), head(7, 4), drop(7), add(8, 4), head(8, 4), drop(8), add(9, 4), head(9, 4), drop(9), take,
	}, 5, func(ops []api.RunOp) { expect(t, ops) })
}

// TestEachPlace: up to five threads at three levels, added at either end, and each of them dropped, or dropped and added once more.
func TestEachPlace(t *testing.T) {
	kinds := []api.RunOp{add(0, 0), add(0, 16), add(0, 31), head(0, 0), head(0, 16), head(0, 31)}
	eachRun(kinds, 5, func(places []api.RunOp) {
		ops := slices.Clone(places)
		for id := range ops {
			ops[id].Id = id
		}
		takes := slices.Repeat([]api.RunOp{take}, len(ops))
		expect(t, slices.Concat(ops, takes))
		for id := range ops {
			expect(t, slices.Concat(ops, []api.RunOp{drop(id)}, takes))
			expect(t, slices.Concat(ops, []api.RunOp{drop(id), add(id, 16), take}))
			expect(t, slices.Concat(ops, []api.RunOp{drop(id), head(id, 31), take}))
		}
	})
}

// TestEachLevel: all levels from below the range to above it, and no level is another one.
func TestEachLevel(t *testing.T) {
	for a := -100; a <= 300; a++ {
		right := a >= 0 && a <= 31
		for _, o := range []api.RunOp{add(1, a), head(1, a)} {
			if got := played([]api.RunOp{o}); right != (got.errs[0] == api.OK) || right != slices.Equal(got.left, []int{1}) {
				t.Errorf("level %d: %v", a, got)
			}
		}
		for b := -2; b <= 33; b++ {
			expect(t, []api.RunOp{add(1, a), add(2, b), take})
			expect(t, []api.RunOp{add(1, a), head(2, b), take})
			expect(t, []api.RunOp{head(1, a), add(2, b), head(3, a), drop(1), take})
		}
	}
}

// TestAllLevels: three threads at each level, in whatever order, leave from the largest level to the smallest.
func TestAllLevels(t *testing.T) {
	var want []int
	for level := 31; level >= 0; level-- {
		want = append(want, 200+level, level, 100+level)
	}
	for step := 1; step < 32; step += 2 {
		var ops []api.RunOp
		for i := range 32 {
			level := i * step % 32
			ops = append(ops, add(level, level), add(100+level, level), head(200+level, level))
		}
		for n := range want {
			got := played(slices.Concat(ops, slices.Repeat([]api.RunOp{take}, n)))
			if !same(got, outcome{make([]api.Errno, 96+n), want[:n], want[n:]}) {
				t.Errorf("step %d, %d taken: %v", step, n, got)
			}
		}
	}
}

// TestFarNumbers: kinds and levels far away from all ranges.
func TestFarNumbers(t *testing.T) {
	for _, kind := range numbers() {
		for _, level := range numbers() {
			odd := api.RunOp{Kind: kind, Id: 9, Level: level}
			expect(t, []api.RunOp{odd, add(5, 31), odd, head(6, 31), odd, take, odd, drop(9), odd})
			expect(t, []api.RunOp{odd, odd, take, odd, odd, drop(9)})
		}
	}
}

// TestEachId: any number is a thread's, and no thread is another one.
func TestEachId(t *testing.T) {
	for _, a := range numbers() {
		for _, b := range numbers() {
			expect(t, []api.RunOp{add(a, 3), head(b, 3), add(a, 4), drop(b), head(b, 3), take})
			expect(t, []api.RunOp{head(a, 3), drop(b), add(b, 2), take, drop(a)})
		}
	}
}

// TestIgnoredNumbers: whatever thread or level comes with a kind that has none.
func TestIgnoredNumbers(t *testing.T) {
	for _, n := range numbers() {
		taking := api.RunOp{Kind: api.RunTake, Id: 8, Level: n}
		takingOther := api.RunOp{Kind: api.RunTake, Id: n, Level: 2}
		dropping := api.RunOp{Kind: api.RunDrop, Id: 8, Level: n}
		got := played([]api.RunOp{taking, takingOther, dropping, add(8, 2), add(7, 5), add(n+100, 2), taking, dropping, takingOther, taking, takingOther, dropping})
		want := outcome{[]api.Errno{3, 3, 3, 0, 0, 0, 0, 0, 0, 3, 3, 3}, []int{7, n + 100}, nil}
		if !same(got, want) {
			t.Errorf("with %d: %v, not %v", n, got, want)
		}
	}
}

// TestOrderOfErrors: each operation has two errors, of which the first in the chapter's order is told.
func TestOrderOfErrors(t *testing.T) {
	queued := []api.RunOp{add(7, 3)}
	for _, c := range []struct {
		before []api.RunOp
		op     api.RunOp
		want   api.Errno
	}{
		{queued, api.RunOp{Kind: 0, Id: 7, Level: 32}, api.ErrKind},
		{queued, api.RunOp{Kind: 5, Id: 7, Level: -1}, api.ErrKind},
		{nil, api.RunOp{Kind: 5, Id: 7, Level: -1}, api.ErrKind},
		{nil, api.RunOp{Kind: -1, Id: 7, Level: 3}, api.ErrKind},
		{queued, add(7, 32), api.ErrRange},
		{queued, add(7, -1), api.ErrRange},
		{queued, head(7, 32), api.ErrRange},
		{queued, head(7, -1), api.ErrRange},
	} {
		want := played(c.before)
		want.errs = append(want.errs, c.want)
		if got := played(slices.Concat(c.before, []api.RunOp{c.op})); !same(got, want) {
			t.Errorf("%v behind %v: %v, not %v", c.op, c.before, got, want)
		}
	}
}

func TestLongRuns(t *testing.T) {
	for seed := range uint32(1000) {
		roll := scatter(seed)
		for _, ids := range []int{2, 6, 30} {
			for _, levels := range []int{1, 3, 32} {
				expect(t, scattered(roll, 1+roll(200), ids, levels))
			}
		}
	}
}

// TestManyOperations: MaxOps is no limit here, and threads that leave from anywhere in a long queue leave the others in their order.
func TestManyOperations(t *testing.T) {
	const many = 300_000
	ops := make([]api.RunOp, 0, 3*many)
	for id := range many {
		ops = append(ops, add(id, 17))
	}
	for i := range many {
		if id := i * 7 % many; id%3 > 0 { // 7 does not divide many: each thread once, from all over the queue
			ops = append(ops, drop(id))
		}
	}
	for id := range many {
		if id%3 == 1 {
			ops = append(ops, head(id, 17))
		}
	}
	var want []int
	for id := many - 2; id > 0; id -= 3 {
		want = append(want, id)
	}
	for id := 0; id < many; id += 3 {
		want = append(want, id)
	}
	const taken = many / 2
	ops = append(ops, slices.Repeat([]api.RunOp{take}, taken)...)
	if got := played(ops); !same(got, outcome{make([]api.Errno, len(ops)), want[:taken], want[taken:]}) {
		t.Errorf("%d threads: %d taken, and %d are left", many, len(got.taken), len(got.left))
	}
}

// TestErrorsHaveNoEffect: without the operations that have an error, all is the same.
func TestErrorsHaveNoEffect(t *testing.T) {
	for seed := range uint32(500) {
		ops := scattered(scatter(seed), 200, 9, 4)
		got := played(ops)
		var kept []api.RunOp
		for i, e := range got.errs {
			if e == api.OK {
				kept = append(kept, ops[i])
			}
		}
		want := outcome{make([]api.Errno, len(kept)), got.taken, got.left}
		if again := played(kept); !same(again, want) || len(kept) == len(ops) {
			t.Errorf("Play(%v) = %v, not %v", kept, again, want)
		}
	}
}

// TestNoThreadIsLost: how often a thread was added and not dropped is how often it was taken, or is left.
func TestNoThreadIsLost(t *testing.T) {
	for seed := range uint32(500) {
		ops := scattered(scatter(seed), 400, 20, 32)
		got := played(ops)
		var lost [20]int
		for i, o := range ops {
			switch {
			case got.errs[i] != api.OK:
			case o.Kind == api.RunAdd || o.Kind == api.RunHead:
				lost[o.Id]++
			case o.Kind == api.RunDrop:
				lost[o.Id]--
			}
		}
		for _, id := range slices.Concat(got.taken, got.left) {
			lost[id]--
		}
		if lost != [20]int{} {
			t.Errorf("Play(%v) = %v: these are lost: %v", ops, got, lost)
		}
	}
}

// TestLeftIsTheOrderOfTaking: those that remain are those that would be taken next.
func TestLeftIsTheOrderOfTaking(t *testing.T) {
	for seed := range uint32(500) {
		ops := scattered(scatter(seed), 100, 40, 5)
		got := played(ops)
		all := played(slices.Concat(ops, slices.Repeat([]api.RunOp{take}, len(got.left))))
		if len(all.left) > 0 || !slices.Equal(all.taken, slices.Concat(got.taken, got.left)) {
			t.Errorf("Play(%v) = %v, and then %v are taken", ops, got, all.taken)
		}
	}
}

// Z1

func TestNothingIsKept(t *testing.T) {
	ops := scattered(scatter(5), 300, 40, 32)
	once := played(ops)
	played([]api.RunOp{add(1, 31), head(2, 31), add(3, 0)})
	if again := played(ops); !same(once, again) {
		t.Errorf("Play = %v, and then %v", once, again)
	}
	if got := played([]api.RunOp{take, drop(1), drop(3)}); !same(got, outcome{errs: []api.Errno{3, 3, 3}}) {
		t.Errorf("a thread of an earlier call is there: %v", got)
	}
}

// Z2

// TestPlayLeavesItsArgument: it does not change, what is behind it does not matter, and the results are in memory of their own.
func TestPlayLeavesItsArgument(t *testing.T) {
	for n := range 90 {
		room := scattered(scatter(uint32(n)), n+9, 8, 3)
		room[n] = add(77, 31)
		whole := slices.Clone(room)
		got := played(room[:n])
		if want := foretold(slices.Clone(room[:n])); !same(got, want) {
			t.Fatalf("what is behind %d operations matters: %v, not %v", n, got, want)
		}
		if !slices.Equal(room, whole) {
			t.Fatalf("%d operations, or what is behind them, have changed", n)
		}
		kept := outcome{slices.Clone(got.errs), slices.Clone(got.taken), slices.Clone(got.left)}
		a, b := played(room[:n]), played(room[:n])
		clear(a.taken[:cap(a.taken)])
		clear(b.left[:cap(b.left)])
		if !slices.Equal(a.left, kept.left) || !slices.Equal(b.taken, kept.taken) {
			t.Fatalf("%d operations: two results are in the same memory", n)
		}
		clear(room)
		if !same(got, kept) {
			t.Fatalf("the results for %d operations are in other memory, too", n)
		}
	}
}

// Z3

func TestNilAndEmpty(t *testing.T) {
	if a, b := played(nil), played([]api.RunOp{}); !same(a, outcome{}) || !same(b, outcome{}) {
		t.Errorf("Play of nothing = %v, or %v", a, b)
	}
}
