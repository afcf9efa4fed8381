package ring_test

import (
	"math"
	"slices"
	"testing"

	"corebell/api"
	"corebell/ring"
)

// tape is a ring told in another way: all Data that were ever given, how many of them the device has worked at, and how many are taken. The first one of all went to the cell at first.
type tape struct {
	cells, first  int
	given         []int
	worked, taken int
}

func (p tape) at(n int) int {
	return (p.first + n) % p.cells
}

func (p tape) ring() api.Ring {
	r := api.Ring{Cells: make([]api.Cell, p.cells), Give: p.at(len(p.given)), Take: p.at(p.taken), Work: p.at(p.worked)}
	for n := p.taken; n < len(p.given); n++ {
		if n < p.worked {
			r.Cells[p.at(n)] = api.Cell{Data: -1 - p.given[n]}
		} else {
			r.Cells[p.at(n)] = api.Cell{Device: true, Data: p.given[n]}
		}
	}
	return r
}

// step returns the tape behind an operation, and the number that it answers.
func (p tape) step(o api.RingOp) (tape, int, api.Errno) {
	switch o.Kind {
	case 1:
		if len(p.given)-p.taken == p.cells-1 {
			return p, 0, api.ErrAgain
		}
		p.given = append(slices.Clip(p.given), o.Data)
		return p, 0, api.OK
	case 2:
		if p.worked == len(p.given) {
			return p, 0, api.ErrNone
		}
		p.worked++
		return p, 0, api.OK
	case 3:
		if p.taken == p.worked {
			return p, 0, api.ErrNone
		}
		p.taken++
		return p, -1 - p.given[p.taken-1], api.OK
	}
	return p, 0, api.ErrKind
}

// span returns the cells from one index up to another, found one after the other.
func span(cells, from, to int) []int {
	var l []int
	for i := from; i != to; {
		l = append(l, i)
		i++
		if i == cells {
			i = 0
		}
	}
	return l
}

// right says again, clause by clause, what the chapter asks of a ring.
func right(r api.Ring) bool {
	n := len(r.Cells)
	if n <= 1 || n >= 65 {
		return false
	}
	for _, i := range []int{r.Give, r.Take, r.Work} {
		if i <= -1 || i >= n {
			return false
		}
	}
	if r.Work != r.Give && !slices.Contains(span(n, r.Take, r.Give), r.Work) {
		return false
	}
	free := span(n, r.Give, r.Take)
	if r.Give == r.Take {
		free = span(n+1, 0, n)
	}
	device := span(n, r.Work, r.Give)
	for i, c := range r.Cells {
		if c.Device != slices.Contains(device, i) || slices.Contains(free, i) && c.Data != 0 {
			return false
		}
	}
	return true
}

func give(data int) api.RingOp { return api.RingOp{Kind: api.RingGive, Data: data} }

var (
	work = api.RingOp{Kind: api.RingWork}
	take = api.RingOp{Kind: api.RingTake}
)

func device(data int) api.Cell { return api.Cell{Device: true, Data: data} }
func plain(data int) api.Cell  { return api.Cell{Data: data} }

func ringOf(give, take, work int, cells ...api.Cell) api.Ring {
	return api.Ring{Cells: cells, Give: give, Take: take, Work: work}
}

// full returns the tape of a ring with so many cells, of which so many are given, and so many of these worked at, from the one at first on.
func full(cells, first, given, worked int) tape {
	p := tape{cells: cells, first: first, worked: worked}
	for n := range given {
		p.given = append(p.given, 10+n*7)
	}
	return p
}

// tapes are the rings of so many cells: all of them, as far as it matters which cells have what.
func tapes(cells int, firsts []int) []tape {
	var l []tape
	for _, first := range firsts {
		for given := range cells {
			for worked := range given + 1 {
				l = append(l, full(cells, first, given, worked))
			}
		}
	}
	return l
}

// ends are some of the indices of so many cells, the first and the last ones among them.
func ends(cells int) []int {
	l := []int{0, 1, cells / 2, cells - 2, cells - 1}
	slices.Sort(l)
	return slices.Compact(l)
}

func all(cells int) []int {
	return span(cells+1, 0, cells)
}

// scatter returns a function whose results are below its argument, and the same in each run.
func scatter(seed uint32) func(n int) int {
	return func(n int) int {
		seed = seed*1664525 + 1013904223
		return int(seed>>8) % n
	}
}

// scattered returns n operations; of 30, so many give, and some are of no kind.
func scattered(roll func(int) int, n, gives int) []api.RingOp {
	ops := make([]api.RingOp, n)
	for i := range ops {
		ops[i] = api.RingOp{Kind: 2 + roll(2), Data: roll(1<<20) - 1<<19}
		if roll(30) < gives {
			ops[i].Kind = api.RingGive
		}
		if roll(20) == 0 {
			ops[i].Kind = roll(9) - 3
		}
	}
	return ops
}

// numbers are those around the ends of each range, and those that a narrower integer would bring into it.
func numbers() []int {
	return []int{
		math.MinInt, math.MinInt + 1, -1 << 40, -1 << 32, -1<<32 + 1, -256, -255, -254, -253, -65, -64, -63, -4, -3, -2, -1,
		0, 1, 2, 3, 4, 5, 31, 32, 33, 62, 63, 64, 65, 66, 127, 128, 129, 255, 256, 257, 258, 259, 320, 1<<16 + 1, math.MaxInt32, 1 << 32, 1<<32 + 1, 1<<32 + 2, 1<<32 + 3, 1<<32 + 64,
		1<<40 - 1, 1 << 40, 1<<40 + 1, 1 << 62, math.MaxInt - 1, math.MaxInt,
	}
}

func same(a, b api.Ring) bool {
	return slices.Equal(a.Cells, b.Cells) && a.Give == b.Give && a.Take == b.Take && a.Work == b.Work
}

func isZero(r api.Ring) bool {
	return same(r, api.Ring{})
}

func copied(r api.Ring) api.Ring {
	r.Cells = slices.Clone(r.Cells)
	return r
}

func expectStep(t *testing.T, p tape, o api.RingOp) {
	t.Helper()
	r := p.ring()
	after, d, e := ring.Step(r, o)
	next, wantD, want := p.step(o)
	wantAfter := api.Ring{}
	if want == api.OK {
		wantAfter = next.ring()
	}
	if !same(after, wantAfter) || d != wantD || e != want {
		t.Fatalf("Step(%v, %v) = %v, %d, %d, not %v, %d, %d", r, o, after, d, e, wantAfter, wantD, want)
	}
	if !same(r, p.ring()) {
		t.Fatalf("Step(%v, %v) changes its argument to %v", p.ring(), o, r)
	}
	if e == api.OK && !ring.Right(after) {
		t.Fatalf("Step(%v, %v) = %v, which is not valid", r, o, after)
	}
}

// expectRight also looks at Step, which refuses what is not valid, whatever the operation.
func expectRight(t *testing.T, r api.Ring) {
	t.Helper()
	want := right(r)
	if ring.Right(r) != want {
		t.Fatalf("Right(%v) = %v", r, !want)
	}
	if want {
		return
	}
	for kind := range 5 {
		after, d, e := ring.Step(r, api.RingOp{Kind: kind, Data: 9})
		if !isZero(after) || d != 0 || e != api.ErrForm {
			t.Fatalf("Step(%v, %d) = %v, %d, %d", r, kind, after, d, e)
		}
	}
}

// outcome is what Play returns.
type outcome struct {
	errs  []api.Errno
	taken []int
	last  api.Ring
	e     api.Errno
}

func play(cells int, ops []api.RingOp) outcome {
	errs, taken, last, e := ring.Play(cells, ops)
	return outcome{errs, taken, last, e}
}

func (a outcome) is(b outcome) bool {
	return slices.Equal(a.errs, b.errs) && slices.Equal(a.taken, b.taken) && same(a.last, b.last) && a.e == b.e
}

func (a outcome) copied() outcome {
	return outcome{slices.Clone(a.errs), slices.Clone(a.taken), copied(a.last), a.e}
}

// modelled tells the outcome by the tape.
func modelled(cells int, ops []api.RingOp) outcome {
	p := tape{cells: cells}
	var o outcome
	for _, op := range ops {
		next, d, e := p.step(op)
		p = next
		o.errs = append(o.errs, e)
		if e == api.OK && op.Kind == 3 {
			o.taken = append(o.taken, d)
		}
	}
	o.last = p.ring()
	return o
}

func expectPlay(t *testing.T, cells int, ops []api.RingOp) {
	t.Helper()
	got, want := play(cells, ops), modelled(cells, ops)
	if !got.is(want) {
		t.Fatalf("Play(%d, %v) = %v, not %v", cells, ops, got, want)
	}
	if !ring.Right(got.last) {
		t.Fatalf("Play(%d, %v) leaves %v, which is not valid", cells, ops, got.last)
	}
}

// R1

func TestNew(t *testing.T) {
	sizes := numbers()
	for n := range 70 {
		sizes = append(sizes, n)
	}
	for _, n := range sizes {
		r, e := ring.New(n)
		if n < 2 || n > 64 {
			if !isZero(r) || e != api.ErrRange {
				t.Errorf("New(%d) = %v, %d", n, r, e)
			}
			continue
		}
		if e != api.OK || len(r.Cells) != n || r.Give != 0 || r.Take != 0 || r.Work != 0 || slices.ContainsFunc(r.Cells, func(c api.Cell) bool { return c != api.Cell{} }) {
			t.Errorf("New(%d) = %v, %d", n, r, e)
		}
		if !ring.Right(r) {
			t.Errorf("New(%d) is not valid", n)
		}
	}
}

func TestRightByHand(t *testing.T) {
	for _, c := range []struct {
		r    api.Ring
		want bool
	}{
		{api.Ring{}, false},
		{ringOf(0, 0, 0, plain(0)), false},
		{ringOf(0, 0, 0, plain(0), plain(0)), true},
		{ringOf(1, 1, 1, plain(0), plain(0)), true},
		{ringOf(0, 0, 1, plain(0), plain(0)), false},
		{ringOf(0, 0, 1, plain(0), device(0)), false},
		{ringOf(0, 0, 0, plain(1), plain(0)), false},
		{ringOf(0, 0, 0, plain(0), plain(1)), false},
		{ringOf(0, 0, 0, device(0), plain(0)), false},
		{ringOf(0, 0, 0, device(5), device(6)), false},
		{ringOf(1, 0, 0, device(5), plain(0)), true},
		{ringOf(1, 0, 0, device(0), plain(0)), true},
		{ringOf(1, 0, 0, plain(5), plain(0)), false},
		{ringOf(1, 0, 0, device(5), plain(6)), false},
		{ringOf(1, 0, 0, device(5), device(0)), false},
		{ringOf(1, 0, 1, plain(5), plain(0)), true},
		{ringOf(1, 0, 1, plain(0), plain(0)), true},
		{ringOf(1, 0, 1, device(5), plain(0)), false},
		{ringOf(1, 0, 1, plain(5), plain(6)), false},
		{ringOf(0, 1, 1, plain(0), device(5)), true},
		{ringOf(0, 1, 0, plain(0), plain(5)), true},
		{ringOf(0, 1, 1, device(5), plain(0)), false},
		{ringOf(0, 2, 0, plain(0), plain(0), plain(5)), true},
		{ringOf(1, 2, 0, device(7), plain(0), plain(5)), true},
		{ringOf(1, 2, 1, plain(7), plain(0), plain(5)), true},
		{ringOf(1, 2, 2, device(7), plain(0), device(5)), true},
		{ringOf(2, 0, 1, plain(7), device(-5), plain(0)), true},
		{ringOf(1, 0, 2, plain(7), plain(0), plain(0)), false},
		{ringOf(1, 0, 2, device(7), plain(0), device(0)), false},
		{ringOf(2, 1, 0, plain(0), plain(5), plain(0)), false},
		{ringOf(2, 0, 0, plain(0), plain(0)), false},
		{ringOf(0, 2, 0, plain(0), plain(0)), false},
		{ringOf(0, 0, 2, plain(0), plain(0)), false},
		{ringOf(-1, 0, 0, plain(0), plain(0)), false},
		{ringOf(0, -1, 0, plain(0), plain(0)), false},
		{ringOf(0, 0, -1, plain(0), plain(0)), false},
		{ringOf(-1, -1, -1, plain(0), plain(0)), false},
		{ringOf(2, 2, 2, plain(0), plain(0)), false},
	} {
		if ring.Right(c.r) != c.want || right(c.r) != c.want {
			t.Errorf("Right(%v) = %v", c.r, ring.Right(c.r))
		}
		expectRight(t, c.r)
	}
}

// TestRightOfAllSmallRings: all indices, one too small and one too large among them, and each cell in each condition.
func TestRightOfAllSmallRings(t *testing.T) {
	for n := range 5 {
		for bits := range 1 << (2 * n) {
			r := api.Ring{Cells: make([]api.Cell, n)}
			for i := range r.Cells {
				r.Cells[i] = api.Cell{Device: bits>>(2*i)&1 == 1, Data: -(bits >> (2*i + 1) & 1)}
			}
			for r.Give = -1; r.Give <= n; r.Give++ {
				for r.Take = -1; r.Take <= n; r.Take++ {
					for r.Work = -1; r.Work <= n; r.Work++ {
						expectRight(t, r)
					}
				}
			}
		}
	}
}

// TestRightOfOneChange: of valid rings of all sizes, with one cell or one index changed.
func TestRightOfOneChange(t *testing.T) {
	for _, n := range []int{2, 3, 5, 8, 31, 63, 64} {
		for _, p := range tapes(n, ends(n)) {
			if n > 8 && (len(p.given)+p.worked)%7 > 0 {
				continue
			}
			r := p.ring()
			if !ring.Right(r) || !right(r) {
				t.Fatalf("%v is not valid", r)
			}
			for i, c := range r.Cells {
				for _, r.Cells[i] = range []api.Cell{{Device: !c.Device, Data: c.Data}, {Device: c.Device, Data: c.Data + 1}, {Device: c.Device}} {
					expectRight(t, r)
				}
				r.Cells[i] = c
				expectRight(t, ringOf(i, r.Take, r.Work, r.Cells...))
				expectRight(t, ringOf(r.Give, i, r.Work, r.Cells...))
				expectRight(t, ringOf(r.Give, r.Take, i, r.Cells...))
			}
		}
	}
}

func TestRightOfAllSizes(t *testing.T) {
	sizes := all(70)
	sizes = append(sizes, 127, 128, 129, 255, 256, 257, 258, 320, 1<<16, 1<<16+2, 1<<16+64)
	for _, n := range sizes {
		for _, i := range []int{-1, 0, 1, n / 2, n - 1, n} {
			r := api.Ring{Cells: make([]api.Cell, n), Give: i, Take: i, Work: i}
			if want := n >= 2 && n <= 64 && i >= 0 && i < n; ring.Right(r) != want {
				t.Errorf("Right of %d cells, with index %d = %v", n, i, !want)
			}
			if _, _, e := ring.Step(r, give(1)); (e == api.ErrForm) == ring.Right(r) {
				t.Errorf("Step of %d cells, with index %d has error %d", n, i, e)
			}
		}
	}
}

func TestRightOfFarIndices(t *testing.T) {
	for _, n := range []int{2, 3, 4, 64} {
		for _, i := range numbers() {
			r := api.Ring{Cells: make([]api.Cell, n)}
			expectRight(t, ringOf(i, i, i, r.Cells...))
			for _, j := range ends(n) {
				expectRight(t, ringOf(i, j, j, r.Cells...))
				expectRight(t, ringOf(j, i, j, r.Cells...))
				expectRight(t, ringOf(j, j, i, r.Cells...))
				expectRight(t, ringOf(i, i, j, r.Cells...))
				expectRight(t, ringOf(i, j, i, r.Cells...))
				expectRight(t, ringOf(j, i, i, r.Cells...))
			}
		}
	}
}

// TestRightOfAnyData: a cell that was given may have any, a free one only 0.
func TestRightOfAnyData(t *testing.T) {
	for _, d := range numbers() {
		for i := range 4 {
			for _, p := range tapes(4, all(4)) {
				r := p.ring()
				r.Cells[i].Data = d
				expectRight(t, r)
			}
		}
	}
}

// R2

func TestStepByHand(t *testing.T) {
	none := api.Ring{}
	two := ringOf(0, 0, 0, plain(0), plain(0))
	r := ringOf(1, 3, 0, device(7), plain(0), plain(0), plain(-6))
	for _, c := range []struct {
		r     api.Ring
		o     api.RingOp
		after api.Ring
		d     int
		e     api.Errno
	}{
		{two, give(5), ringOf(1, 0, 0, device(5), plain(0)), 0, api.OK},
		{two, give(0), ringOf(1, 0, 0, device(0), plain(0)), 0, api.OK},
		{two, work, none, 0, api.ErrNone},
		{two, take, none, 0, api.ErrNone},
		{ringOf(1, 0, 0, device(5), plain(0)), give(6), none, 0, api.ErrAgain},
		{ringOf(1, 0, 0, device(5), plain(0)), take, none, 0, api.ErrNone},
		{ringOf(1, 0, 0, device(5), plain(0)), work, ringOf(1, 0, 1, plain(-6), plain(0)), 0, api.OK},
		{ringOf(1, 0, 1, plain(-6), plain(0)), give(6), none, 0, api.ErrAgain},
		{ringOf(1, 0, 1, plain(-6), plain(0)), work, none, 0, api.ErrNone},
		{ringOf(1, 0, 1, plain(-6), plain(0)), take, ringOf(1, 1, 1, plain(0), plain(0)), -6, api.OK},
		{ringOf(1, 1, 1, plain(0), plain(0)), give(6), ringOf(0, 1, 1, plain(0), device(6)), 0, api.OK},
		{ringOf(0, 1, 1, plain(0), device(6)), work, ringOf(0, 1, 0, plain(0), plain(-7)), 0, api.OK},
		{ringOf(0, 1, 0, plain(0), plain(-7)), take, two, -7, api.OK},
		{r, give(9), ringOf(2, 3, 0, device(7), device(9), plain(0), plain(-6)), 0, api.OK},
		{r, work, ringOf(1, 3, 1, plain(-8), plain(0), plain(0), plain(-6)), 0, api.OK},
		{r, take, ringOf(1, 0, 0, device(7), plain(0), plain(0), plain(0)), -6, api.OK},
		{r, api.RingOp{}, none, 0, api.ErrKind},
		{r, api.RingOp{Kind: 4, Data: 3}, none, 0, api.ErrKind},
		{ringOf(1, 0, 0, device(-1), plain(0)), work, ringOf(1, 0, 1, plain(0), plain(0)), 0, api.OK},
		{ringOf(1, 0, 1, plain(0), plain(0)), take, ringOf(1, 1, 1, plain(0), plain(0)), 0, api.OK},
	} {
		after, d, e := ring.Step(c.r, c.o)
		if !same(after, c.after) || d != c.d || e != c.e {
			t.Errorf("Step(%v, %v) = %v, %d, %d", c.r, c.o, after, d, e)
		}
	}
}

// TestExample: a ring of two cells accepts one cell.
func TestExample(t *testing.T) {
	got := play(2, []api.RingOp{give(5), give(6)})
	if !got.is(outcome{[]api.Errno{api.OK, api.ErrAgain}, nil, ringOf(1, 0, 0, device(5), plain(0)), api.OK}) {
		t.Errorf("Play = %v", got)
	}
}

func TestStepFromAllSizes(t *testing.T) {
	for n := 2; n <= 64; n++ {
		firsts := ends(n)
		if n <= 8 {
			firsts = all(n)
		}
		for _, p := range tapes(n, firsts) {
			if n > 16 && (len(p.given)*3+p.worked)%11 > 2 && len(p.given) < n-2 {
				continue
			}
			for kind := range 5 {
				expectStep(t, p, api.RingOp{Kind: kind, Data: 1000})
			}
		}
	}
}

func TestStepOfFarKinds(t *testing.T) {
	for _, p := range []tape{full(2, 0, 0, 0), full(2, 1, 1, 0), full(2, 1, 1, 1), full(5, 3, 4, 2), full(64, 60, 63, 9), full(64, 60, 9, 3)} {
		for _, kind := range numbers() {
			expectStep(t, p, api.RingOp{Kind: kind, Data: 3})
		}
	}
}

// TestAnyData: all numbers are alike, and those that an operation does not use do not matter.
func TestAnyData(t *testing.T) {
	for _, d := range numbers() {
		for _, n := range []int{2, 3, 64} {
			for _, p := range []tape{full(n, 0, 0, 0), full(n, n-1, 1, 0), full(n, 1, 1, 1), full(n, n-2, n-1, 1)} {
				for kind := range 5 {
					expectStep(t, p, api.RingOp{Kind: kind, Data: d})
				}
				if len(p.given) > 0 {
					p.given[0] = d
					expectStep(t, p, work)
					expectStep(t, p, take)
				}
			}
		}
		if got := play(2, []api.RingOp{give(d), work, take}); !slices.Equal(got.taken, []int{-1 - d}) {
			t.Errorf("%d is given, and %v is taken", d, got.taken)
		}
	}
}

// TestOrderOfErrors: what is not valid is told first, and then the kind.
func TestOrderOfErrors(t *testing.T) {
	bad, two, most := ringOf(0, 0, 0, plain(1), plain(0)), ringOf(0, 0, 0, plain(0), plain(0)), ringOf(1, 0, 0, device(5), plain(0))
	for _, c := range []struct {
		r    api.Ring
		o    api.RingOp
		want api.Errno
	}{
		{bad, api.RingOp{}, api.ErrForm},
		{bad, api.RingOp{Kind: 4}, api.ErrForm},
		{bad, work, api.ErrForm},
		{bad, take, api.ErrForm},
		{ringOf(1, 0, 0, device(5), plain(1)), give(1), api.ErrForm},
		{ringOf(1, 0, 0, plain(5), plain(0)), give(1), api.ErrForm},
		{api.Ring{}, api.RingOp{}, api.ErrForm},
		{two, api.RingOp{}, api.ErrKind},
		{two, api.RingOp{Kind: -1}, api.ErrKind},
		{most, api.RingOp{Kind: 4}, api.ErrKind},
		{most, api.RingOp{Kind: math.MinInt}, api.ErrKind},
	} {
		after, d, e := ring.Step(c.r, c.o)
		if !isZero(after) || d != 0 || e != c.want {
			t.Errorf("Step(%v, %v) = %v, %d, %d, not %d", c.r, c.o, after, d, e, c.want)
		}
	}
}

// TestPlayErrors: its error is that of New, whatever the operations, and nothing comes with it.
func TestPlayErrors(t *testing.T) {
	for _, n := range append(numbers(), all(70)...) {
		for _, ops := range [][]api.RingOp{nil, {}, {{}}, {give(5), work, take, {Kind: 9}}} {
			got := play(n, ops)
			if n >= 2 && n <= 64 {
				expectPlay(t, n, ops)
			} else if !got.is(outcome{e: api.ErrRange}) {
				t.Errorf("Play(%d, %v) = %v", n, ops, got)
			}
		}
	}
}

func TestPlayByHand(t *testing.T) {
	got := play(3, []api.RingOp{
		take, work, give(5), take, give(6), give(7), work, give(7), take, take, give(8), {}, work, {Kind: 4}, work, give(1), take, take, take,
	})
	want := outcome{
		errs:  []api.Errno{3, 3, 0, 3, 0, 7, 0, 7, 0, 3, 0, 5, 0, 5, 0, 7, 0, 0, 3},
		taken: []int{-6, -7, -9},
		last:  ringOf(0, 0, 0, plain(0), plain(0), plain(0)),
	}
	if !got.is(want) {
		t.Errorf("Play = %v", got)
	}
}

func TestAllShortRuns(t *testing.T) {
	const most = 7
	for n := 2; n <= 4; n++ {
		for begun := range n {
			var ops []api.RingOp
			for range begun {
				ops = append(ops, give(77), work, take)
			}
			var longer func()
			longer = func() {
				expectPlay(t, n, ops)
				if len(ops) == 3*begun+most {
					return
				}
				for kind := range 4 {
					ops = append(ops, api.RingOp{Kind: kind, Data: 50 + len(ops)})
					longer()
					ops = ops[:len(ops)-1]
				}
			}
			longer()
		}
	}
}

func TestLongRuns(t *testing.T) {
	for n := 2; n <= 64; n++ {
		for seed := range uint32(10) {
			for gives := 8; gives <= 16; gives += 2 {
				roll := scatter(seed)
				expectPlay(t, n, scattered(roll, 1+roll(400), gives))
			}
		}
	}
}

// TestPlayIsManySteps: Play does what Step does to one ring after another, with errors passed over.
func TestPlayIsManySteps(t *testing.T) {
	for _, n := range []int{2, 3, 4, 7, 20, 64} {
		for seed := range uint32(8) {
			ops := scattered(scatter(seed), 300, 10+int(seed%3)*3)
			r, _ := ring.New(n)
			var want outcome
			for i, o := range ops {
				after, d, e := ring.Step(r, o)
				want.errs = append(want.errs, e)
				if e == api.OK {
					r = after
					if o.Kind == api.RingTake {
						want.taken = append(want.taken, d)
					}
				}
				want.last = r
				if got := play(n, ops[:i+1]); !got.is(want) {
					t.Fatalf("%d cells, seed %d, operation %d: Play = %v, not %v", n, seed, i, got, want)
				}
			}
		}
	}
}

// TestErrorsHaveNoEffect: without the operations that have an error, all is the same.
func TestErrorsHaveNoEffect(t *testing.T) {
	for seed := range uint32(200) {
		n := 2 + int(seed)%6
		ops := scattered(scatter(seed), 200, 8+int(seed%9))
		got := play(n, ops)
		var kept []api.RingOp
		for i, o := range ops {
			if got.errs[i] == api.OK {
				kept = append(kept, o)
			}
		}
		again := play(n, kept)
		if !slices.Equal(again.taken, got.taken) || !same(again.last, got.last) || slices.Max(again.errs) != api.OK || len(kept) == len(ops) {
			t.Errorf("Play(%d, %v) = %v, not %v", n, kept, again, got)
		}
	}
}

// TestRingsAreQueues: what is taken is all that was given and accepted, in its order, with its bits inverted, and what is left is behind that.
func TestRingsAreQueues(t *testing.T) {
	for seed := range uint32(300) {
		n := 2 + int(seed)%63
		ops := scattered(scatter(seed), 400, 6+int(seed%12))
		number := 0
		for i := range ops {
			if ops[i].Kind == api.RingGive {
				ops[i].Data = number
				number++
			}
		}
		got := play(n, ops)
		var accepted, found []int
		for i, o := range ops {
			if o.Kind == api.RingGive && got.errs[i] == api.OK {
				accepted = append(accepted, o.Data)
			}
		}
		for _, d := range got.taken {
			found = append(found, ^d)
		}
		for _, i := range span(n, got.last.Take, got.last.Work) {
			found = append(found, ^got.last.Cells[i].Data)
		}
		for _, i := range span(n, got.last.Work, got.last.Give) {
			found = append(found, got.last.Cells[i].Data)
		}
		if !slices.Equal(found, accepted) {
			t.Errorf("%d cells, Play(%v) = %v: %v, not %v", n, ops, got, found, accepted)
		}
	}
}

// TestOneCellIsFree: a ring accepts as many as it has cells but one, wherever it begins, and as soon as one is taken, one more.
func TestOneCellIsFree(t *testing.T) {
	for n := 2; n <= 64; n++ {
		for begun := range n + 1 {
			ops := slices.Repeat([]api.RingOp{give(1), work, take}, begun)
			for i := range n - 1 {
				ops = append(ops, give(i))
			}
			at := len(ops)
			ops = append(ops, give(97), work, give(98), take, give(99), give(100))
			got := play(n, ops)
			if slices.Max(got.errs[:at]) != api.OK || !slices.Equal(got.errs[at:], []api.Errno{api.ErrAgain, api.OK, api.ErrAgain, api.OK, api.OK, api.ErrAgain}) {
				t.Errorf("%d cells, from %d on: %v", n, begun, got)
			}
			expectPlay(t, n, ops)
		}
	}
}

// TestEachOneWaitsForTheOther: the device works only at what was given, and the driver takes only what was worked at.
func TestEachOneWaitsForTheOther(t *testing.T) {
	for n := 2; n <= 64; n++ {
		for given := range n {
			for worked := range given + 1 {
				ops := slices.Concat(
					slices.Repeat([]api.RingOp{give(3)}, given), slices.Repeat([]api.RingOp{work}, worked),
					slices.Repeat([]api.RingOp{take}, n+1), slices.Repeat([]api.RingOp{work}, n+1), slices.Repeat([]api.RingOp{take}, n+1))
				none := func(i int) []api.Errno { return slices.Repeat([]api.Errno{api.ErrNone}, i) }
				want := slices.Concat(
					make([]api.Errno, given+worked+worked), none(n+1-worked),
					make([]api.Errno, given-worked), none(n+1-given+worked), make([]api.Errno, given-worked), none(n+1-given+worked))
				if got := play(n, ops); !slices.Equal(got.errs, want) || !slices.Equal(got.taken, slices.Repeat([]int{-4}, given)) {
					t.Fatalf("%d cells, %d given, %d worked at: %v", n, given, worked, got)
				}
			}
		}
	}
}

// Z1

// TestManyOperations: MaxOps is no limit for operations, nor for what is taken.
func TestManyOperations(t *testing.T) {
	const rounds = 200_000
	for _, n := range []int{2, 3, 64} {
		var ops []api.RingOp
		var taken []int
		for i := range rounds {
			ops = append(ops, give(i), work, take)
			taken = append(taken, -1-i)
		}
		at := rounds % n
		got := play(n, ops)
		if !got.is(outcome{make([]api.Errno, len(ops)), taken, ringOf(at, at, at, make([]api.Cell, n)...), api.OK}) {
			t.Errorf("%d cells, %d rounds: %d codes, %d taken, %v, %d", n, rounds, len(got.errs), len(got.taken), got.last, got.e)
		}
	}
	for _, n := range []int{399, 400, 401, 65536, 65537} {
		for _, o := range []api.RingOp{{}, give(1), work, take, {Kind: 4}} {
			expectPlay(t, 5, slices.Repeat([]api.RingOp{o}, n))
		}
	}
}

func TestNothingIsKept(t *testing.T) {
	ops := scattered(scatter(3), 300, 12)
	first := play(9, ops)
	play(9, []api.RingOp{give(1), give(2), work, give(3), take})
	ring.Step(full(9, 3, 8, 5).ring(), take)
	if again := play(9, ops); !again.is(first) {
		t.Errorf("Play = %v, and then %v", first, again)
	}
	if got := play(9, []api.RingOp{work, take}); len(got.taken) != 0 || !same(got.last, tape{cells: 9}.ring()) {
		t.Errorf("what an earlier call left is there: %v", got)
	}
}

// Z2

// fill writes to all memory that a slice can reach.
func fill[T any](l []T, x T) {
	l = l[:cap(l)]
	for i := range l {
		l[i] = x
	}
}

// TestNewRingsAreApart: no two of them share memory.
func TestNewRingsAreApart(t *testing.T) {
	for n := 2; n <= 64; n++ {
		a, _ := ring.New(n)
		fill(a.Cells, device(8))
		if b, _ := ring.New(n); !same(b, tape{cells: n}.ring()) {
			t.Errorf("New(%d) = %v", n, b)
		}
		if got := play(n, nil); !same(got.last, tape{cells: n}.ring()) {
			t.Errorf("Play(%d, nil) = %v", n, got)
		}
	}
}

// TestStepLeavesItsArgument: neither what the caller does to its ring later reaches the result, nor the other way round, and what is behind the cells stays.
func TestStepLeavesItsArgument(t *testing.T) {
	for _, n := range []int{2, 3, 5, 63, 64} {
		for _, p := range tapes(n, ends(n)) {
			if n > 5 && (len(p.given)+p.worked)%9 > 0 {
				continue
			}
			for kind := range 5 {
				room := slices.Concat(p.ring().Cells, slices.Repeat([]api.Cell{device(251)}, 70))
				whole := slices.Clone(room)
				r := p.ring()
				r.Cells = room[:n]
				after, _, e := ring.Step(r, api.RingOp{Kind: kind, Data: 66})
				kept := copied(after)
				if !slices.Equal(room, whole) {
					t.Fatalf("Step(%v, %d) changes the cells, or what is behind them", r, kind)
				}
				fill(room, device(1))
				if !same(after, kept) {
					t.Fatalf("the result of Step(%v, %d) is in the caller's memory", p.ring(), kind)
				}
				copy(room, whole)
				fill(after.Cells, device(2))
				if !slices.Equal(room, whole) {
					t.Fatalf("the argument of Step(%v, %d) is in its result", p.ring(), kind)
				}
				if next, _, want := p.step(api.RingOp{Kind: kind, Data: 66}); e != want || want == api.OK && !same(kept, next.ring()) {
					t.Fatalf("Step(%v, %d) = %v, %d", p.ring(), kind, kept, e)
				}
			}
		}
	}
}

// TestCellsBehindAreNotRead: only the length of the cells counts, not what there is room for.
func TestCellsBehindAreNotRead(t *testing.T) {
	for _, n := range []int{0, 1, 2, 63, 64, 65} {
		r := api.Ring{Cells: make([]api.Cell, n, 200)}
		if want := n >= 2 && n <= 64; ring.Right(r) != want {
			t.Errorf("Right of %d cells = %v", n, !want)
		}
		fill(r.Cells[n:], device(9))
		expectRight(t, r)
	}
}

// TestTwoStepsFromOneRing: the results of two calls share no memory.
func TestTwoStepsFromOneRing(t *testing.T) {
	ops := []api.RingOp{give(1), work, take}
	for _, p := range []tape{full(2, 1, 1, 1), full(5, 3, 3, 2), full(5, 4, 2, 1), full(64, 40, 60, 30)} {
		for _, first := range ops {
			for _, second := range ops {
				for _, third := range ops {
					r, _, _ := ring.Step(p.ring(), first)
					kept := copied(r)
					a, _, _ := ring.Step(r, second)
					b, _, _ := ring.Step(r, third)
					keptB := copied(b)
					fill(a.Cells, device(91))
					if !same(r, kept) || !same(b, keptB) {
						t.Fatalf("%v, then %v and %v: %v and %v, not %v and %v", first, second, third, r, b, kept, keptB)
					}
				}
			}
		}
	}
}

// TestPlayLeavesItsArgument: it does not change, what is behind it does not matter, and the results are in memory of their own.
func TestPlayLeavesItsArgument(t *testing.T) {
	for n := range 120 {
		cells := 2 + n%9
		room := scattered(scatter(uint32(n)), n+9, 11)
		room[n] = give(55)
		whole := slices.Clone(room)
		got := play(cells, room[:n])
		want := play(cells, slices.Clip(slices.Clone(room[:n]))).copied()
		if !got.is(want) {
			t.Fatalf("what is behind %d operations matters", n)
		}
		if !slices.Equal(room, whole) {
			t.Fatalf("%d operations, or what is behind them, have changed", n)
		}
		clear(room)
		if !got.is(want) {
			t.Fatalf("the results of %d operations are in the caller's memory", n)
		}
		kept := got.copied()
		fill(got.errs, 99)
		if !slices.Equal(got.taken, kept.taken) || !same(got.last, kept.last) {
			t.Fatalf("the results of %d operations share memory", n)
		}
		fill(got.taken, 98)
		if !same(got.last, kept.last) {
			t.Fatalf("the results of %d operations share memory", n)
		}
		fill(got.last.Cells, device(97))
		if again := play(cells, whole[:n]); !again.is(want) {
			t.Fatalf("%d operations: what is done to the results matters", n)
		}
	}
}

// Z3

func TestNilAndEmpty(t *testing.T) {
	for _, cells := range [][]api.Cell{nil, {}} {
		for _, i := range []int{-1, 0, 1} {
			expectRight(t, ringOf(i, i, i, cells...))
			expectRight(t, api.Ring{Cells: cells, Give: i})
		}
	}
	for _, ops := range [][]api.RingOp{nil, {}} {
		for n := 2; n <= 64; n++ {
			if got := play(n, ops); !got.is(outcome{last: tape{cells: n}.ring()}) {
				t.Errorf("Play(%d, %#v) = %v", n, ops, got)
			}
		}
	}
}
