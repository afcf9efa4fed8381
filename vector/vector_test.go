package vector_test

import (
	"math"
	"slices"
	"testing"

	"corebell/api"
	"corebell/vector"
)

func take(line, mask int) api.VecOp { return api.VecOp{Kind: api.VecTake, Line: line, Mask: mask} }
func move(line, mask int) api.VecOp { return api.VecOp{Kind: api.VecMove, Line: line, Mask: mask} }
func give(line int) api.VecOp       { return api.VecOp{Kind: api.VecGive, Line: line} }

// expect plays the operations, of which the call must not have an error.
func expect(t *testing.T, cores, lines int, ops []api.VecOp, wantErrs []api.Errno, want []api.Slot) {
	t.Helper()
	errs, slots, err := vector.Play(cores, lines, ops)
	if !slices.Equal(errs, wantErrs) || !slices.Equal(slots, want) || err != api.OK {
		t.Errorf("Play(%d, %d, %v) = %v, %v, %d, not %v, %v", cores, lines, ops, errs, slots, err, wantErrs, want)
	}
}

// step is an operation with the error and, for its line, the slot that must come of it.
type step struct {
	op   api.VecOp
	err  api.Errno
	slot api.Slot
}

// follow plays every beginning of the steps, so that each slot is seen as it is behind its step.
func follow(t *testing.T, cores, lines int, steps []step) {
	t.Helper()
	var ops []api.VecOp
	var wantErrs []api.Errno
	want := make([]api.Slot, lines)
	expect(t, cores, lines, ops, wantErrs, want)
	for _, s := range steps {
		ops, wantErrs = append(ops, s.op), append(wantErrs, s.err)
		if s.op.Line >= 0 && s.op.Line < lines {
			want[s.op.Line] = s.slot
		}
		expect(t, cores, lines, ops, wantErrs, want)
	}
}

// numbers are those around the ends of each range, and those that a narrower integer or a remainder would bring into it.
func numbers() []int {
	return []int{
		math.MinInt, math.MinInt + 1, -1 << 32, -1<<32 + 1, -256, -8, -3, -2, -1,
		0, 1, 2, 3, 4, 5, 7, 8, 9, 10, 255, 256, 257, 258, 259, 1999, 2000, 2001,
		math.MaxInt32, 1 << 32, 1<<32 + 1, 1<<32 + 2, 1 << 62, math.MaxInt - 1, math.MaxInt,
	}
}

// The model keeps the slots only, and looks through all of them for each question.
type model struct {
	cores int
	slots []api.Slot
}

func (m *model) linesAt(core int) int {
	n := 0
	for _, s := range m.slots {
		if s.Vec != 0 && s.Core == core {
			n++
		}
	}
	return n
}

func (m *model) find(mask, not int) (api.Slot, bool) {
	best := -1
	for core := range m.cores {
		allowed := uint64(mask)>>core%2 == 1
		if allowed && core != not && m.linesAt(core) < 224 && (best < 0 || m.linesAt(core) < m.linesAt(best)) {
			best = core
		}
	}
	for vec := 32; vec < 256 && best >= 0; vec++ {
		if s := (api.Slot{Core: best, Vec: vec}); !slices.Contains(m.slots, s) {
			return s, true
		}
	}
	return api.Slot{}, false
}

func (m *model) perform(o api.VecOp) api.Errno {
	if o.Kind < 1 || o.Kind > 3 {
		return api.ErrKind
	}
	if o.Line < 0 || o.Line >= len(m.slots) {
		return api.ErrRange
	}
	s := &m.slots[o.Line]
	not := -1
	switch {
	case o.Kind == api.VecTake && s.Vec != 0:
		return api.ErrHeld
	case o.Kind != api.VecTake && s.Vec == 0:
		return api.ErrNone
	case o.Kind == api.VecGive:
		*s = api.Slot{}
		return api.OK
	case o.Kind == api.VecMove:
		not = s.Core
	}
	found, ok := m.find(o.Mask, not)
	if !ok {
		return api.ErrFull
	}
	*s = found
	return api.OK
}

func modelPlay(cores, lines int, ops []api.VecOp) ([]api.Errno, []api.Slot) {
	m := &model{cores, make([]api.Slot, lines)}
	var errs []api.Errno
	for _, o := range ops {
		errs = append(errs, m.perform(o))
	}
	return errs, m.slots
}

// D1

func TestRangeOfTheCall(t *testing.T) {
	for _, cores := range numbers() {
		for _, lines := range numbers() {
			for _, ops := range [][]api.VecOp{nil, {}, {take(0, 1), {}, take(0, 1)}} {
				if cores >= 1 && cores <= 8 && lines >= 0 && lines <= 2000 {
					wantErrs, want := modelPlay(cores, lines, ops)
					expect(t, cores, lines, ops, wantErrs, want)
					continue
				}
				errs, slots, err := vector.Play(cores, lines, ops)
				if len(errs) != 0 || len(slots) != 0 || err != api.ErrRange {
					t.Errorf("Play(%d, %d, %v) = %v, %v, %d", cores, lines, ops, errs, slots, err)
				}
			}
		}
	}
}

func TestEveryNumberOfLines(t *testing.T) {
	for lines := -10; lines < 2100; lines++ {
		_, slots, err := vector.Play(2, lines, nil)
		if lines < 0 || lines > 2000 {
			if len(slots) != 0 || err != api.ErrRange {
				t.Errorf("with %d lines: %d slots, %d", lines, len(slots), err)
			}
		} else if len(slots) != lines || err != api.OK {
			t.Errorf("with %d lines: %d slots, %d", lines, len(slots), err)
		}
	}
}

func TestOperationsWithErrorsHaveNoEffect(t *testing.T) {
	follow(t, 2, 2, []step{
		{take(0, 3), api.OK, api.Slot{Core: 0, Vec: 32}},
		{take(0, 2), api.ErrHeld, api.Slot{Core: 0, Vec: 32}},
		{move(0, 1), api.ErrFull, api.Slot{Core: 0, Vec: 32}},
		{move(0, 0), api.ErrFull, api.Slot{Core: 0, Vec: 32}},
		{api.VecOp{Kind: 4, Mask: 3}, api.ErrKind, api.Slot{Core: 0, Vec: 32}},
		{take(2, 3), api.ErrRange, api.Slot{}},
		{move(1, 3), api.ErrNone, api.Slot{}},
		{give(1), api.ErrNone, api.Slot{}},
		{take(1, 0), api.ErrFull, api.Slot{}},
		{take(1, 3), api.OK, api.Slot{Core: 1, Vec: 32}},
	})
}

// MaxOps is no limit here, since the chapter names none.
func TestMoreOperationsThanMaxOps(t *testing.T) {
	var ops []api.VecOp
	for range 3 * api.MaxOps {
		ops = append(ops, take(0, 1), give(0))
	}
	expect(t, 1, 1, ops, make([]api.Errno, len(ops)), make([]api.Slot, 1))
}

// D2

func TestChapterExample(t *testing.T) {
	follow(t, 2, 3, []step{
		{take(0, 3), api.OK, api.Slot{Core: 0, Vec: 32}},
		{take(1, 3), api.OK, api.Slot{Core: 1, Vec: 32}},
		{take(2, 3), api.OK, api.Slot{Core: 0, Vec: 33}},
	})
}

func TestSmallestFreeVector(t *testing.T) {
	follow(t, 1, 5, []step{
		{take(3, 1), api.OK, api.Slot{Vec: 32}},
		{take(1, 1), api.OK, api.Slot{Vec: 33}},
		{take(4, 1), api.OK, api.Slot{Vec: 34}},
		{give(1), api.OK, api.Slot{}},
		{give(3), api.OK, api.Slot{}},
		{take(0, 1), api.OK, api.Slot{Vec: 32}},
		{take(1, 1), api.OK, api.Slot{Vec: 33}},
		{take(2, 1), api.OK, api.Slot{Vec: 35}},
		{give(4), api.OK, api.Slot{}},
		{take(3, 1), api.OK, api.Slot{Vec: 34}},
	})
}

func TestFewestLines(t *testing.T) {
	follow(t, 3, 6, []step{
		{take(0, 2), api.OK, api.Slot{Core: 1, Vec: 32}},
		{take(1, 7), api.OK, api.Slot{Core: 0, Vec: 32}},
		{take(2, 7), api.OK, api.Slot{Core: 2, Vec: 32}},
		{take(3, 6), api.OK, api.Slot{Core: 1, Vec: 33}},
		{take(4, 6), api.OK, api.Slot{Core: 2, Vec: 33}},
		{take(5, 6), api.OK, api.Slot{Core: 1, Vec: 34}},
		{give(0), api.OK, api.Slot{}},
		{give(3), api.OK, api.Slot{}},
		// Core 1 has one line left, its vector 34; so has core 0, which comes first.
		{take(0, 6), api.OK, api.Slot{Core: 1, Vec: 32}},
		{take(3, 7), api.OK, api.Slot{Core: 0, Vec: 33}},
	})
}

func TestMoveLooksAtTheOtherCores(t *testing.T) {
	follow(t, 3, 4, []step{
		{take(0, 1), api.OK, api.Slot{Core: 0, Vec: 32}},
		{take(1, 2), api.OK, api.Slot{Core: 1, Vec: 32}},
		{take(2, 2), api.OK, api.Slot{Core: 1, Vec: 33}},
		{take(3, 4), api.OK, api.Slot{Core: 2, Vec: 32}},
		// Core 0 would have the fewest lines, and it is allowed, but line 0 is there.
		{move(0, 7), api.OK, api.Slot{Core: 2, Vec: 33}},
		{move(0, 3), api.OK, api.Slot{Core: 0, Vec: 32}},
		{move(1, 5), api.OK, api.Slot{Core: 0, Vec: 33}},
		{move(1, 1), api.ErrFull, api.Slot{Core: 0, Vec: 33}},
		// What a line leaves behind is free for others.
		{move(0, 2), api.OK, api.Slot{Core: 1, Vec: 32}},
		{move(3, 1), api.OK, api.Slot{Core: 0, Vec: 32}},
	})
}

func TestMoveWithOneCore(t *testing.T) {
	follow(t, 1, 1, []step{
		{take(0, 1), api.OK, api.Slot{Vec: 32}},
		{move(0, -1), api.ErrFull, api.Slot{Vec: 32}},
	})
}

func TestErrorsInOrder(t *testing.T) {
	// Lines 0 and 1 have slots, and 2 and 3 have none.
	before := []api.VecOp{take(0, 1), take(1, 2)}
	for _, kind := range numbers() {
		for _, line := range numbers() {
			for _, mask := range []int{0, 1, 2, 3, 4, -1} {
				ops := append(slices.Clone(before), api.VecOp{Kind: kind, Line: line, Mask: mask})
				want := api.OK
				switch {
				case kind != 1 && kind != 2 && kind != 3:
					want = api.ErrKind
				case line < 0 || line > 3:
					want = api.ErrRange
				case kind == 1 && line < 2:
					want = api.ErrHeld
				case kind != 1 && line >= 2:
					want = api.ErrNone
				case kind == 1 && mask&3 == 0, kind == 3 && line == 0 && mask&2 == 0, kind == 3 && line == 1 && mask&1 == 0:
					want = api.ErrFull
				}
				_, wantSlots := modelPlay(2, 4, ops)
				expect(t, 2, 4, ops, []api.Errno{api.OK, api.OK, want}, wantSlots)
			}
		}
	}
}

// A field that a kind does not use is ignored.
func TestGiveIgnoresMask(t *testing.T) {
	for _, mask := range numbers() {
		ops := []api.VecOp{take(0, 2), {Kind: api.VecGive, Mask: mask}, take(0, 3)}
		expect(t, 2, 1, ops, make([]api.Errno, 3), []api.Slot{{Core: 0, Vec: 32}})
	}
}

// Each bit of a mask counts, also of a negative one; those of cores that are not there allow nothing.
func TestEveryMask(t *testing.T) {
	high := []int{0, 1 << 8, 1 << 31, 1 << 32, 1 << 62, math.MinInt, math.MaxInt &^ 255, -256}
	for cores := 1; cores <= 8; cores++ {
		for low := range 256 {
			for _, h := range high {
				first := 0
				for first < cores && low>>first%2 == 0 {
					first++
				}
				want, wantSlot := api.OK, api.Slot{Core: first, Vec: 32}
				if first == cores {
					want, wantSlot = api.ErrFull, api.Slot{}
				}
				expect(t, cores, 1, []api.VecOp{take(0, low|h)}, []api.Errno{want}, []api.Slot{wantSlot})
			}
		}
	}
}

// The cores of a full machine have all vectors from 32 to 255, each of them once.
func TestFullCores(t *testing.T) {
	for cores := 1; cores <= 8; cores++ {
		room := cores * 224
		var ops []api.VecOp
		for line := range room + 1 {
			ops = append(ops, take(line, -1))
		}
		ops = append(ops, move(0, -1), give(cores), take(room, -1))
		wantErrs := make([]api.Errno, len(ops))
		wantErrs[room], wantErrs[room+1] = api.ErrFull, api.ErrFull
		want := make([]api.Slot, 2000)
		for line := range room {
			want[line] = api.Slot{Core: line % cores, Vec: 32 + line/cores}
		}
		want[cores], want[room] = api.Slot{}, want[cores]
		expect(t, cores, 2000, ops, wantErrs, want)
	}
}

func TestFullCoresAreNotAllowed(t *testing.T) {
	var ops []api.VecOp
	for line := range 224 {
		ops = append(ops, take(line, 1))
	}
	ops = append(ops,
		take(224, 1),        // core 0 is full
		take(224, 2),        // core 1 is not
		move(224, 1),        // so line 224 can't leave it
		take(225, 3),        // and is joined there
		give(7), take(7, 2), // vector 39 is free, and line 7 goes to core 1
		move(224, 1), // there is room for one now
		move(225, 1), // but not for two
	)
	wantErrs := make([]api.Errno, len(ops))
	wantErrs[224], wantErrs[226], wantErrs[231] = api.ErrFull, api.ErrFull, api.ErrFull
	want := make([]api.Slot, 226)
	for line := range 224 {
		want[line] = api.Slot{Core: 0, Vec: 32 + line}
	}
	want[7], want[224], want[225] = api.Slot{Core: 1, Vec: 34}, api.Slot{Core: 0, Vec: 39}, api.Slot{Core: 1, Vec: 33}
	expect(t, 2, 226, ops, wantErrs, want)
}

// scatter returns a source of numbers below n without a pattern; the same ones for the same seed.
func scatter(seed uint32) func(n int) int {
	return func(n int) int {
		seed = seed*1664525 + 1013904223
		return int(seed>>8) % n
	}
}

// Long runs of operations, some of them with errors, against the model: with few lines, and with so many that cores are full.
func TestAgainstModel(t *testing.T) {
	for seed := range uint32(60) {
		next := scatter(seed)
		cores := 1 + next(8)
		lines := 1 + next([]int{10, 300, 2000}[seed%3])
		takes := 1 + next(4) // the more, the fuller
		var ops []api.VecOp
		for range 2*lines + 200 {
			kind := next(4+takes) % 5
			if kind == 4 || next(takes) > 0 {
				kind = api.VecTake
			}
			mask := next(256)
			if next(2) > 0 {
				mask = 1 << next(2) // so that these cores fill up
			}
			ops = append(ops, api.VecOp{Kind: kind, Line: next(lines+2) - 1, Mask: mask})
		}
		wantErrs, want := modelPlay(cores, lines, ops)
		expect(t, cores, lines, ops, wantErrs, want)
	}
}

// Slots are unique: no two lines share a core and a vector, behind any number of operations.
func TestSlotsAreUnique(t *testing.T) {
	next := scatter(5)
	var ops []api.VecOp
	for range 3000 {
		ops = append(ops, api.VecOp{Kind: 1 + next(3), Line: next(300), Mask: next(4)})
	}
	for n := 0; n <= len(ops); n += 50 {
		_, slots, _ := vector.Play(2, 300, ops[:n])
		seen := map[api.Slot]bool{}
		for line, s := range slots {
			if s == (api.Slot{}) {
				continue
			}
			if seen[s] || s.Core < 0 || s.Core > 1 || s.Vec < 32 || s.Vec > 255 {
				t.Errorf("behind %d operations, line %d has %v", n, line, s)
			}
			seen[s] = true
		}
	}
}

// Z1

func TestNoStateIsKept(t *testing.T) {
	ops := []api.VecOp{take(0, 3), take(1, 3), move(0, 2), take(2, 1), give(1), take(1, 3)}
	wantErrs, want := modelPlay(2, 3, ops)
	for range 5 {
		expect(t, 2, 3, ops, wantErrs, want)
	}
}

// Z2

func TestArgumentsAndResultsAreTheCallers(t *testing.T) {
	more := []api.VecOp{take(0, 3), take(1, 3), give(0), give(1)}
	kept := slices.Clone(more)
	ops := more[:2]
	errs, slots, _ := vector.Play(2, 2, ops)
	if len(errs) != 2 || len(slots) != 2 {
		t.Fatalf("%v, %v", errs, slots)
	}
	again, slotsAgain, _ := vector.Play(2, 2, ops)
	errs[0], slots[0] = api.ErrRank, api.Slot{Core: 5, Vec: 99}
	_, _ = append(errs, api.ErrRank), append(slots, api.Slot{Core: 6, Vec: 98})
	if !slices.Equal(more, kept) {
		t.Errorf("the argument is %v now", more)
	}
	ops[0] = give(1)
	if !slices.Equal(again, make([]api.Errno, 2)) || !slices.Equal(slotsAgain, []api.Slot{{Core: 0, Vec: 32}, {Core: 1, Vec: 32}}) {
		t.Errorf("the results are %v and %v now", again, slotsAgain)
	}
}
