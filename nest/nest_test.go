package nest_test

import (
	"math"
	"slices"
	"testing"

	"corebell/api"
	"corebell/nest"
)

// state is a valid core told in another way: what On was at first, how many frames are kept, and whether the first of them is an interrupt's.
type state struct {
	on    bool
	depth int
	irq   bool
}

func (s state) core() api.Core {
	if s.depth == 0 {
		return api.Core{On: s.on}
	}
	kept := make([]api.Frame, s.depth)
	kept[0] = api.Frame{On: s.on, Irq: s.irq}
	return api.Core{Kept: kept}
}

func (s state) step(kind int) (state, api.Errno) {
	inIrq := s.irq && s.depth == 1
	switch kind {
	case 1:
		if s.depth == 400 {
			return s, api.ErrFull
		}
		return state{s.on, s.depth + 1, s.irq}, api.OK
	case 2:
		if s.depth == 0 {
			return s, api.ErrNone
		}
		if inIrq {
			return s, api.ErrRank
		}
		return state{s.on, s.depth - 1, s.irq}, api.OK
	case 3:
		if s.depth == 400 {
			return s, api.ErrFull
		}
		if s.depth > 0 || !s.on {
			return s, api.ErrAgain
		}
		return state{true, 1, true}, api.OK
	case 4:
		if s.depth == 0 {
			return s, api.ErrNone
		}
		if !inIrq {
			return s, api.ErrRank
		}
		return state{on: true}, api.OK
	}
	return s, api.ErrKind
}

// right says again, clause by clause, what the chapter asks of a core.
func right(c api.Core) bool {
	if len(c.Kept) > 400 {
		return false
	}
	for i, f := range c.Kept {
		if i != 0 && f.On {
			return false
		}
		if f.Irq && !f.On {
			return false
		}
	}
	return !c.On || len(c.Kept) == 0
}

// scatter returns a function whose results are below its argument, and the same in each run.
func scatter(seed uint32) func(n int) int {
	return func(n int) int {
		seed = seed*1664525 + 1013904223
		return int(seed>>8) % n
	}
}

// kinds are those that there are, those beside them, and those that a narrower integer would take for one of them.
func kinds() []int {
	return []int{
		1, 2, 3, 4, 0, 5, 6, 7, 8, -1, -2, -3, -4, 256, 257, 258, 259, 260, 1<<16 + 1, 1<<32 + 1, 1<<32 + 2, 1<<32 + 3, 1<<32 + 4,
		-1<<32 + 1, -255, -254, -253, -252, 1 << 62, math.MaxInt, math.MaxInt - 1, math.MinInt, math.MinInt + 1, math.MinInt + 3,
	}
}

// states are all forms of a valid core, at all depths.
func states() []state {
	out := []state{{on: false}, {on: true}}
	for depth := 1; depth <= 400; depth++ {
		out = append(out, state{false, depth, false}, state{true, depth, false}, state{true, depth, true})
	}
	return out
}

func same(a, b api.Core) bool {
	return a.On == b.On && slices.Equal(a.Kept, b.Kept)
}

func copied(c api.Core) api.Core {
	return api.Core{On: c.On, Kept: append([]api.Frame(nil), c.Kept...)}
}

func expectStep(t *testing.T, s state, kind int) {
	t.Helper()
	c := s.core()
	after, e := nest.Step(c, kind)
	next, want := s.step(kind)
	wantAfter := api.Core{}
	if want == api.OK {
		wantAfter = next.core()
	}
	if !same(after, wantAfter) || e != want {
		t.Errorf("Step of %+v with %d: %v and %d frames, %d, not %v and %d frames, %d", s, kind, after.On, len(after.Kept), e, wantAfter.On, len(wantAfter.Kept), want)
	}
	if !same(c, s.core()) {
		t.Errorf("Step of %+v with %d changes its argument", s, kind)
	}
}

func expectForm(t *testing.T, c api.Core) {
	t.Helper()
	for _, kind := range kinds() {
		if after, e := nest.Step(c, kind); !same(after, api.Core{}) || e != api.ErrForm {
			t.Fatalf("Step of a core that is not valid, %v and %d frames, with %d: %v, %d", c.On, len(c.Kept), kind, after, e)
		}
	}
}

// expectPlay holds Play against the model, and the frames against those of each Step.
func expectPlay(t *testing.T, ops []int) api.Core {
	t.Helper()
	s := state{on: true}
	want := make([]api.Errno, len(ops))
	for i, kind := range ops {
		s, want[i] = s.step(kind)
	}
	errs, c := nest.Play(ops)
	if !slices.Equal(errs, want) || !same(c, s.core()) {
		t.Errorf("Play of %d operations: %v, %v and %d frames, not %v, %+v", len(ops), errs, c.On, len(c.Kept), want, s)
	}
	return c
}

// G1

func TestRightByHand(t *testing.T) {
	for _, c := range []struct {
		core api.Core
		want bool
	}{
		{api.Core{}, true},
		{api.Core{On: true}, true},
		{api.Core{On: true, Kept: []api.Frame{}}, true},
		{api.Core{Kept: []api.Frame{{}}}, true},
		{api.Core{Kept: []api.Frame{{On: true}}}, true},
		{api.Core{Kept: []api.Frame{{On: true, Irq: true}}}, true},
		{api.Core{Kept: []api.Frame{{Irq: true}}}, false},
		{api.Core{On: true, Kept: []api.Frame{{}}}, false},
		{api.Core{On: true, Kept: []api.Frame{{On: true}}}, false},
		{api.Core{On: true, Kept: []api.Frame{{On: true, Irq: true}}}, false},
		{api.Core{Kept: []api.Frame{{On: true}, {}}}, true},
		{api.Core{Kept: []api.Frame{{On: true, Irq: true}, {}}}, true},
		{api.Core{Kept: []api.Frame{{}, {}, {}}}, true},
		{api.Core{Kept: []api.Frame{{}, {On: true}}}, false},
		{api.Core{Kept: []api.Frame{{On: true}, {On: true}}}, false},
		{api.Core{Kept: []api.Frame{{On: true}, {On: true, Irq: true}}}, false},
		{api.Core{Kept: []api.Frame{{}, {On: true, Irq: true}}}, false},
		{api.Core{Kept: []api.Frame{{On: true}, {Irq: true}}}, false},
		{api.Core{Kept: []api.Frame{{On: true, Irq: true}, {Irq: true}}}, false},
		{api.Core{On: true, Kept: []api.Frame{{On: true}, {}}}, false},
	} {
		if nest.Right(c.core) != c.want || right(c.core) != c.want {
			t.Errorf("Right(%v) = %v", c.core, nest.Right(c.core))
		}
		if !c.want {
			expectForm(t, c.core)
		}
	}
}

// TestRightOfAllSmall looks at all cores of up to six frames.
func TestRightOfAllSmall(t *testing.T) {
	for depth := range 7 {
		valid := 0
		for n := range 2 << (2 * depth) {
			c := api.Core{On: n%2 == 1, Kept: make([]api.Frame, depth)}
			for i := range c.Kept {
				bits := n >> (2*i + 1)
				c.Kept[i] = api.Frame{On: bits%2 == 1, Irq: bits/2%2 == 1}
			}
			if nest.Right(c) != right(c) {
				t.Fatalf("Right(%v) = %v", c, nest.Right(c))
			}
			if right(c) {
				valid++
			}
		}
		// Without frames, On or not; with some, the forms of the first one.
		if want := min(2+depth, 3); valid != want {
			t.Errorf("%d of %d frames are valid, not %d", valid, depth, want)
		}
	}
}

func TestRightOfAllDepths(t *testing.T) {
	for _, s := range states() {
		if c := s.core(); !nest.Right(c) || !right(c) {
			t.Errorf("Right of %+v is false", s)
		}
	}
	for _, depth := range []int{401, 402, 403, 512, 656, 1000, 65536, 65537} {
		for _, first := range []api.Frame{{}, {On: true}, {On: true, Irq: true}} {
			c := api.Core{Kept: make([]api.Frame, depth)}
			c.Kept[0] = first
			if nest.Right(c) {
				t.Errorf("Right of %d frames behind %v is true", depth, first)
			}
			expectForm(t, c)
		}
	}
}

func TestRightOfOneWrongFrame(t *testing.T) {
	for _, s := range []state{{false, 400, false}, {true, 400, false}, {true, 400, true}, {true, 7, true}} {
		for at := range s.depth {
			for _, f := range []api.Frame{{On: true}, {Irq: true}, {On: true, Irq: true}} {
				c := s.core()
				c.Kept[at] = f
				if nest.Right(c) != right(c) {
					t.Errorf("Right of %+v with %v at %d is %v", s, f, at, nest.Right(c))
				}
			}
		}
	}
}

// G2

func TestStepByHand(t *testing.T) {
	off, on, irq := api.Frame{}, api.Frame{On: true}, api.Frame{On: true, Irq: true}
	for _, c := range []struct {
		from  api.Core
		kind  int
		after api.Core
		e     api.Errno
	}{
		{api.Core{On: true}, api.NestSave, api.Core{Kept: []api.Frame{on}}, api.OK},
		{api.Core{On: true}, api.NestEnter, api.Core{Kept: []api.Frame{irq}}, api.OK},
		{api.Core{On: true}, api.NestRestore, api.Core{}, api.ErrNone},
		{api.Core{On: true}, api.NestLeave, api.Core{}, api.ErrNone},
		{api.Core{}, api.NestSave, api.Core{Kept: []api.Frame{off}}, api.OK},
		{api.Core{}, api.NestEnter, api.Core{}, api.ErrAgain},
		{api.Core{}, api.NestRestore, api.Core{}, api.ErrNone},
		{api.Core{}, api.NestLeave, api.Core{}, api.ErrNone},
		{api.Core{Kept: []api.Frame{on}}, api.NestSave, api.Core{Kept: []api.Frame{on, off}}, api.OK},
		{api.Core{Kept: []api.Frame{on}}, api.NestEnter, api.Core{}, api.ErrAgain},
		{api.Core{Kept: []api.Frame{on}}, api.NestRestore, api.Core{On: true}, api.OK},
		{api.Core{Kept: []api.Frame{on}}, api.NestLeave, api.Core{}, api.ErrRank},
		{api.Core{Kept: []api.Frame{off}}, api.NestRestore, api.Core{}, api.OK},
		{api.Core{Kept: []api.Frame{irq}}, api.NestSave, api.Core{Kept: []api.Frame{irq, off}}, api.OK},
		{api.Core{Kept: []api.Frame{irq}}, api.NestEnter, api.Core{}, api.ErrAgain},
		{api.Core{Kept: []api.Frame{irq}}, api.NestRestore, api.Core{}, api.ErrRank},
		{api.Core{Kept: []api.Frame{irq}}, api.NestLeave, api.Core{On: true}, api.OK},
		{api.Core{Kept: []api.Frame{irq, off}}, api.NestRestore, api.Core{Kept: []api.Frame{irq}}, api.OK},
		{api.Core{Kept: []api.Frame{irq, off}}, api.NestLeave, api.Core{}, api.ErrRank},
		{api.Core{Kept: []api.Frame{on, off, off}}, api.NestRestore, api.Core{Kept: []api.Frame{on, off}}, api.OK},
		{api.Core{On: true}, 0, api.Core{}, api.ErrKind},
		{api.Core{On: true}, 5, api.Core{}, api.ErrKind},
	} {
		after, e := nest.Step(c.from, c.kind)
		if !same(after, c.after) || e != c.e {
			t.Errorf("Step(%v, %d) = %v, %d, not %v, %d", c.from, c.kind, after, e, c.after, c.e)
		}
	}
}

func TestStepFromAllStates(t *testing.T) {
	for _, s := range states() {
		for kind := -2; kind <= 7; kind++ {
			expectStep(t, s, kind)
		}
	}
}

func TestStepOfFarKinds(t *testing.T) {
	for _, s := range []state{{}, {on: true}, {false, 1, false}, {true, 1, false}, {true, 1, true}, {true, 2, true}, {true, 399, true}, {true, 400, true}} {
		for _, kind := range kinds() {
			expectStep(t, s, kind)
		}
	}
}

// TestOrderOfErrors: each row has two errors, of which the first in the chapter's order is told.
func TestOrderOfErrors(t *testing.T) {
	full := state{true, 400, false}.core()
	for _, c := range []struct {
		core api.Core
		kind int
		want api.Errno
	}{
		{api.Core{On: true, Kept: []api.Frame{{}}}, 9, api.ErrForm},
		{api.Core{On: true, Kept: make([]api.Frame, 401)}, api.NestSave, api.ErrForm},
		{api.Core{Kept: make([]api.Frame, 401)}, api.NestSave, api.ErrForm},
		{api.Core{Kept: make([]api.Frame, 401)}, api.NestLeave, api.ErrForm},
		{full, 9, api.ErrKind},
		{full, api.NestEnter, api.ErrFull}, // it is not On either
		{full, api.NestLeave, api.ErrRank},
		{api.Core{}, 9, api.ErrKind},
	} {
		if after, e := nest.Step(c.core, c.kind); !same(after, api.Core{}) || e != c.want {
			t.Errorf("Step of %v and %d frames with %d: %v, %d, not %d", c.core.On, len(c.core.Kept), c.kind, after, e, c.want)
		}
	}
}

func TestPlayByHand(t *testing.T) {
	const save, restore, enter, leave = api.NestSave, api.NestRestore, api.NestEnter, api.NestLeave
	for _, c := range []struct {
		ops  []int
		errs []api.Errno
		core api.Core
	}{
		{nil, nil, api.Core{On: true}},
		{[]int{}, nil, api.Core{On: true}},
		// The chapter's example: behind NestSave an interrupt must wait until NestRestore.
		{[]int{save, enter, restore, enter}, []api.Errno{0, 7, 0, 0}, api.Core{Kept: []api.Frame{{On: true, Irq: true}}}},
		{[]int{save, enter, save, enter, restore, enter, restore, enter, leave}, []api.Errno{0, 7, 0, 7, 0, 7, 0, 0, 0}, api.Core{On: true}},
		{[]int{enter, save, leave, restore, restore, leave}, []api.Errno{0, 0, 8, 0, 8, 0}, api.Core{On: true}},
		{[]int{enter, enter, leave, leave}, []api.Errno{0, 7, 0, 3}, api.Core{On: true}},
		{[]int{restore, leave, 0, 5, save}, []api.Errno{3, 3, 5, 5, 0}, api.Core{Kept: []api.Frame{{On: true}}}},
		{[]int{enter, save, save}, []api.Errno{0, 0, 0}, api.Core{Kept: []api.Frame{{On: true, Irq: true}, {}, {}}}},
		{kinds()[4:], slices.Repeat([]api.Errno{5}, len(kinds())-4), api.Core{On: true}},
	} {
		errs, core := nest.Play(c.ops)
		if !slices.Equal(errs, c.errs) || !same(core, c.core) {
			t.Errorf("Play(%v) = %v, %v, not %v, %v", c.ops, errs, core, c.errs, c.core)
		}
	}
}

// TestPlayOfAllShort looks at all runs of up to six operations, one kind among them that there is not.
func TestPlayOfAllShort(t *testing.T) {
	for length := range 7 {
		count := 1
		for range length {
			count *= 5
		}
		for n := range count {
			ops := make([]int, length)
			for i := range ops {
				ops[i], n = n%5, n/5
			}
			expectPlay(t, ops)
		}
	}
}

func scatteredOps(roll func(int) int, n int) []int {
	ops := make([]int, n)
	for i := range ops {
		ops[i] = 1 + roll(4)
		if roll(12) == 0 {
			ops[i] = kinds()[roll(len(kinds()))]
		}
	}
	return ops
}

func TestPlayInSequence(t *testing.T) {
	for seed := range uint32(60) {
		ops := scatteredOps(scatter(seed), 40+int(seed)*9)
		c := api.Core{On: true}
		for i, kind := range ops {
			if after, e := nest.Step(c, kind); e == api.OK {
				c = after
			}
			if !nest.Right(c) {
				t.Fatalf("seed %d, behind operation %d: %v is not valid", seed, i, c)
			}
		}
		if last := expectPlay(t, ops); !same(last, c) {
			t.Errorf("seed %d: Play ends with %v, Step with %v", seed, last, c)
		}
	}
}

func TestPlayOfPrefixes(t *testing.T) {
	ops := scatteredOps(scatter(7), 200)
	for n := range len(ops) {
		before, c := nest.Play(ops[:n])
		next, e := nest.Step(c, ops[n])
		if e != api.OK {
			next = c
		}
		errs, last := nest.Play(ops[:n+1])
		if !same(last, next) || !slices.Equal(errs, append(before, e)) {
			t.Errorf("operation %d: %v, %v behind %v", n, errs, last, c)
		}
	}
}

func TestPlayUntilFull(t *testing.T) {
	for _, first := range []int{api.NestSave, api.NestEnter} {
		ops := append([]int{first}, slices.Repeat([]int{api.NestSave}, 399)...)
		ops = append(ops, api.NestSave, api.NestEnter, api.NestSave, api.NestLeave, 6)
		errs, c := nest.Play(ops)
		if !slices.Equal(errs[399:], []api.Errno{api.OK, api.ErrFull, api.ErrFull, api.ErrFull, api.ErrRank, api.ErrKind}) {
			t.Errorf("behind the last frame: %v", errs[399:])
		}
		if c.On || len(c.Kept) != 400 || c.Kept[0] != (api.Frame{On: true, Irq: first == api.NestEnter}) {
			t.Errorf("full: %v, %d frames", c.On, len(c.Kept))
		}
		expectPlay(t, ops)
		// One frame less, and one more can be kept; then all of them go.
		ops = append(ops, api.NestRestore, api.NestEnter, api.NestSave, api.NestSave)
		ops = append(ops, slices.Repeat([]int{api.NestRestore}, 401)...)
		expectPlay(t, append(ops, api.NestLeave, api.NestLeave, api.NestEnter))
	}
}

// TestSavedStatesAreRestored: what is begun and ended in pairs leaves the core as it was, On or not.
func TestSavedStatesAreRestored(t *testing.T) {
	for _, s := range states() {
		for n := 1; n <= 9 && s.depth+n <= 400; n++ {
			c, e := s.core(), api.OK
			for i := range 2 * n {
				kind := api.NestSave
				if i >= n {
					kind = api.NestRestore
				}
				if c, e = nest.Step(c, kind); e != api.OK {
					t.Fatalf("operation %d of %d behind %+v: %d", i, 2*n, s, e)
				}
				if i < 2*n-1 && c.On {
					t.Fatalf("it is On behind operation %d of %d behind %+v", i, 2*n, s)
				}
			}
			if !same(c, s.core()) {
				t.Errorf("%d pairs behind %+v leave %v and %d frames", n, s, c.On, len(c.Kept))
			}
		}
	}
}

// Z1

func TestManyOperations(t *testing.T) {
	const rounds = 50000
	ops := slices.Repeat([]int{api.NestEnter, api.NestSave, api.NestSave, api.NestRestore, api.NestRestore, api.NestLeave}, rounds)
	errs, c := nest.Play(ops)
	if len(errs) != len(ops) || !same(c, api.Core{On: true}) {
		t.Errorf("%d codes, %v", len(errs), c)
	}
	if i := slices.IndexFunc(errs, func(e api.Errno) bool { return e != api.OK }); i >= 0 {
		t.Errorf("operation %d: %d", i, errs[i])
	}
	errs, c = nest.Play(slices.Repeat([]int{api.NestSave}, rounds))
	if len(errs) != rounds || errs[399] != api.OK || errs[400] != api.ErrFull || errs[rounds-1] != api.ErrFull || len(c.Kept) != 400 {
		t.Errorf("%d codes, %d frames", len(errs), len(c.Kept))
	}
}

func TestNothingIsKept(t *testing.T) {
	ops := scatteredOps(scatter(3), 90)
	errs, c := nest.Play(ops)
	nest.Play(scatteredOps(scatter(4), 90))
	nest.Step(state{true, 9, true}.core(), api.NestSave)
	again, d := nest.Play(ops)
	if !slices.Equal(errs, again) || !same(c, d) {
		t.Errorf("Play = %v, %v, and then %v, %v", errs, c, again, d)
	}
}

// Z2

func TestStepLeavesItsArgument(t *testing.T) {
	for _, s := range states() {
		for kind := 1; kind <= 4; kind++ {
			room := append(s.core().Kept, api.Frame{Irq: true}, api.Frame{On: true}, api.Frame{On: true, Irq: true})
			whole := slices.Clone(room)
			c := api.Core{On: s.core().On, Kept: room[:s.depth]}
			after, e := nest.Step(c, kind)
			if !slices.Equal(room, whole) {
				t.Fatalf("Step of %+v with %d changes the frames, or what is behind them", s, kind)
			}
			// Neither the caller's later changes nor those to the result reach the other one.
			kept := copied(after)
			for i := range room {
				room[i] = api.Frame{Irq: true}
			}
			if !same(after, kept) {
				t.Fatalf("the result of Step of %+v with %d, %d, is the caller's memory", s, kind, e)
			}
			copy(room, whole)
			full := after.Kept[:cap(after.Kept)]
			for i := range full {
				full[i] = api.Frame{Irq: true}
			}
			if !slices.Equal(room, whole) {
				t.Fatalf("the argument of Step of %+v with %d, %d, is in its result", s, kind, e)
			}
		}
	}
}

// TestTwoStepsFromOneCore: the results of two calls share no memory.
func TestTwoStepsFromOneCore(t *testing.T) {
	c := state{true, 3, true}.core()
	saved, _ := nest.Step(c, api.NestSave)
	restored, _ := nest.Step(c, api.NestRestore)
	once, _ := nest.Step(restored, api.NestSave)
	twice, _ := nest.Step(restored, api.NestSave)
	once.Kept[2] = api.Frame{On: true}
	saved.Kept[2] = api.Frame{Irq: true}
	if !same(twice, state{true, 3, true}.core()) || !same(c, state{true, 3, true}.core()) || !same(restored, state{true, 2, true}.core()) {
		t.Errorf("%v, %v, %v", c, restored, twice)
	}
}

func TestPlayLeavesItsArgument(t *testing.T) {
	room := scatteredOps(scatter(5), 80)
	whole := slices.Clone(room)
	errs, c := nest.Play(room[:50])
	if !slices.Equal(room, whole) {
		t.Errorf("the operations, or what is behind them, have changed")
	}
	clear(room[50:])
	again, d := nest.Play(room[:50])
	if !slices.Equal(errs, again) || !same(c, d) {
		t.Errorf("what is behind the operations matters")
	}
	clear(room)
	clear(again)
	clear(d.Kept)
	if third, e := nest.Play(whole[:50]); !slices.Equal(errs, third) || !same(c, e) {
		t.Errorf("results share memory")
	}
}

// Z3

func TestNilAndEmptyFrames(t *testing.T) {
	for _, on := range []bool{false, true} {
		for _, kind := range kinds() {
			a, e := nest.Step(api.Core{On: on}, kind)
			b, f := nest.Step(api.Core{On: on, Kept: []api.Frame{}}, kind)
			if !same(a, b) || e != f {
				t.Errorf("without frames, %v, with %d: %v, %d, or %v, %d", on, kind, a, e, b, f)
			}
		}
	}
}
