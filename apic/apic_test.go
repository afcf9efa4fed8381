package apic_test

import (
	"math"
	"slices"
	"testing"

	"corebell/api"
	"corebell/apic"
)

// set writes vectors down as package api says: number n is bit n mod 64 of part n / 64.
func set(vectors ...int) api.Bits {
	var b api.Bits
	for _, v := range vectors {
		b[v/64] |= uint64(1) << (v % 64)
	}
	return b
}

// model is a controller kept in another way than the program keeps it: lists in no order.
type model struct {
	asked, served []int
	class         int
}

func (m model) local() api.Local {
	return api.Local{Asked: set(m.asked...), Served: set(m.served...), Class: m.class}
}

func (m model) right() bool {
	if m.class < 0 || m.class > 15 {
		return false
	}
	for _, v := range slices.Concat(m.asked, m.served) {
		if v < 32 {
			return false
		}
	}
	for i, v := range m.served {
		for _, w := range m.served[:i] {
			if v/16 == w/16 {
				return false
			}
		}
	}
	return true
}

func (m model) would() int {
	if !m.right() || len(m.asked) == 0 {
		return -1
	}
	largest := slices.Max(m.asked)
	for _, v := range m.served {
		if v/16 >= largest/16 {
			return -1
		}
	}
	if largest/16 <= m.class {
		return -1
	}
	return largest
}

func without(l []int, n int) []int {
	var kept []int
	for _, x := range l {
		if x != n {
			kept = append(kept, x)
		}
	}
	return kept
}

func with(l []int, n int) []int { return append(without(l, n), n) }

func (m model) step(o api.LocalOp) (model, int, api.Errno) {
	switch {
	case !m.right():
		return model{}, 0, api.ErrForm
	case o.Kind == 1 && o.N >= 32 && o.N <= 255:
		m.asked = with(m.asked, o.N)
		return m, -1, api.OK
	case o.Kind == 1 || o.Kind == 4 && (o.N < 0 || o.N > 15):
		return model{}, 0, api.ErrRange
	case o.Kind == 4:
		m.class = o.N
		return m, -1, api.OK
	case o.Kind == 2:
		v := m.would()
		if v == -1 {
			return model{}, 0, api.ErrAgain
		}
		m.asked, m.served = without(m.asked, v), with(m.served, v)
		return m, v, api.OK
	case o.Kind == 3 && len(m.served) == 0:
		return model{}, 0, api.ErrNone
	case o.Kind == 3:
		v := slices.Max(m.served)
		m.served = without(m.served, v)
		return m, v, api.OK
	}
	return model{}, 0, api.ErrKind
}

// compare holds all three functions against the model in one state.
func compare(t *testing.T, m model, ops ...api.LocalOp) {
	t.Helper()
	l := m.local()
	if got := apic.Right(l); got != m.right() {
		t.Errorf("Right(%v) = %v", l, got)
	}
	if got := apic.Would(l); got != m.would() {
		t.Errorf("Would(%v) = %d, not %d", l, got, m.would())
	}
	for _, o := range ops {
		want, wantVec, wantErr := m.step(o)
		if got, vec, err := apic.Step(l, o); got != want.local() || vec != wantVec || err != wantErr {
			t.Errorf("Step(%v, %v) = %v, %d, %d, not %v, %d, %d", l, o, got, vec, err, want.local(), wantVec, wantErr)
		}
	}
}

// numbers are those around the ends of each range, and those that a narrower integer or a remainder would bring into it.
func numbers() []int {
	return []int{
		math.MinInt, math.MinInt + 64, -1 << 32, -1<<32 + 64, -256, -64, -16, -1,
		0, 1, 2, 3, 4, 14, 15, 16, 17, 31, 32, 33, 47, 48, 63, 64, 70, 127, 128, 191, 192, 200, 239, 240, 254, 255,
		256, 257, 288, 320, math.MaxInt32, 1 << 32, 1<<32 + 2, 1<<32 + 64, 1 << 62, math.MaxInt - 1, math.MaxInt,
	}
}

// ops are all kinds and several that there are not, with all numbers.
func ops() []api.LocalOp {
	var l []api.LocalOp
	for _, kind := range []int{math.MinInt, -1<<32 + 1, -4, -3, -2, -1, 0, 1, 2, 3, 4, 5, 6, 256, 257, 1<<32 + 1, 1<<32 + 4, math.MaxInt} {
		for _, n := range numbers() {
			l = append(l, api.LocalOp{Kind: kind, N: n})
		}
	}
	return l
}

func TestChapterExample(t *testing.T) {
	l := api.Local{Asked: set(70), Served: set(64)}
	if got := apic.Would(l); got != -1 {
		t.Errorf("while 64 is in service, Would is %d", got)
	}
	if got, vec, err := apic.Step(l, api.LocalOp{Kind: api.LocalTake}); got != (api.Local{}) || vec != 0 || err != api.ErrAgain {
		t.Errorf("while 64 is in service, a take gives %v, %d, %d", got, vec, err)
	}
	l, vec, err := apic.Step(l, api.LocalOp{Kind: api.LocalEnd})
	if l != (api.Local{Asked: set(70)}) || vec != 64 || err != api.OK {
		t.Errorf("the end of 64 gives %v, %d, %d", l, vec, err)
	}
	l, vec, err = apic.Step(l, api.LocalOp{Kind: api.LocalTake})
	if l != (api.Local{Served: set(70)}) || vec != 70 || err != api.OK {
		t.Errorf("the take of 70 gives %v, %d, %d", l, vec, err)
	}
}

func TestRightByClass(t *testing.T) {
	for _, c := range numbers() {
		l := api.Local{Asked: set(255), Served: set(32), Class: c}
		if got, want := apic.Right(l), c >= 0 && c <= 15; got != want {
			t.Errorf("with class %d, Right is %v", c, got)
		}
	}
}

func TestRightByVector(t *testing.T) {
	for v := range api.Vectors {
		if got, want := apic.Right(api.Local{Asked: set(v)}), v >= 32; got != want {
			t.Errorf("with %d pending, Right is %v", v, got)
		}
		if got, want := apic.Right(api.Local{Served: set(v)}), v >= 32; got != want {
			t.Errorf("with %d in service, Right is %v", v, got)
		}
		// Another vector that is allowed does not hide one that is not.
		if got, want := apic.Right(api.Local{Asked: set(v, 250), Served: set(240)}), v >= 32; got != want {
			t.Errorf("with %d and 250 pending, Right is %v", v, got)
		}
	}
}

func TestRightByPairsInService(t *testing.T) {
	for v := 32; v < api.Vectors; v++ {
		for w := 32; w < api.Vectors; w++ {
			want := v == w || v/16 != w/16
			if got := apic.Right(api.Local{Served: set(v, w)}); got != want {
				t.Errorf("with %d and %d in service, Right is %v", v, w, got)
			}
			// Pending vectors may share a class, with each other and with one in service.
			if !apic.Right(api.Local{Asked: set(v, w), Served: set(v)}) {
				t.Errorf("with %d and %d pending and %d in service, Right is false", v, w, v)
			}
		}
	}
}

func TestRightFull(t *testing.T) {
	var one, all []int
	for v := 32; v < api.Vectors; v++ {
		all = append(all, v)
		if v%16 == v/16 {
			one = append(one, v)
		}
	}
	for _, c := range []int{0, 15} {
		if l := (api.Local{Asked: set(all...), Served: set(one...), Class: c}); !apic.Right(l) {
			t.Errorf("with one vector of each class in service and all pending, Right is false at class %d", c)
		}
	}
	if apic.Right(api.Local{Served: set(all...)}) {
		t.Error("with all vectors in service, Right is true")
	}
	if !apic.Right(api.Local{}) {
		t.Error("with nothing pending or in service, Right is false")
	}
}

func TestWouldByThreshold(t *testing.T) {
	for v := 32; v < api.Vectors; v++ {
		for c := range 16 {
			want := -1
			if v/16 > c {
				want = v
			}
			if got := apic.Would(api.Local{Asked: set(v), Class: c}); got != want {
				t.Errorf("with %d pending and class %d, Would is %d", v, c, got)
			}
			if got := apic.Would(api.Local{Asked: set(v, 32), Class: c}); got != want {
				t.Errorf("with %d and 32 pending and class %d, Would is %d", v, c, got)
			}
		}
	}
}

func TestWouldByService(t *testing.T) {
	for v := 32; v < api.Vectors; v++ {
		for s := 32; s < api.Vectors; s++ {
			want := -1
			if v/16 > s/16 {
				want = v
			}
			if got := apic.Would(api.Local{Asked: set(v), Served: set(s)}); got != want {
				t.Errorf("with %d pending and %d in service, Would is %d", v, s, got)
			}
			// A smaller vector in service as well changes nothing.
			if s >= 48 {
				if got := apic.Would(api.Local{Asked: set(v), Served: set(32, s)}); got != want {
					t.Errorf("with %d pending and 32 and %d in service, Would is %d", v, s, got)
				}
			}
		}
	}
}

func TestWouldOfInvalid(t *testing.T) {
	for _, l := range []api.Local{
		{Asked: set(100), Class: -1},
		{Asked: set(255), Class: 16},
		{Asked: set(31, 100)},
		{Asked: set(0, 255)},
		{Asked: set(100), Served: set(31)},
		{Asked: set(255), Served: set(64, 70)},
		{Asked: set(255), Served: set(0)},
	} {
		if got := apic.Would(l); got != -1 {
			t.Errorf("Would(%v) = %d", l, got)
		}
	}
}

func TestStepFromManyStates(t *testing.T) {
	lists := [][]int{nil, {32}, {64}, {70}, {255}, {31}, {64, 70}, {47, 48}, {32, 64, 255}, {63, 64, 127, 128, 191, 192}, {0, 200}}
	for _, asked := range lists {
		for _, served := range lists {
			for _, class := range []int{math.MinInt, -1, 0, 2, 4, 14, 15, 16, math.MaxInt} {
				compare(t, model{asked, served, class}, ops()...)
			}
		}
	}
}

func TestAskEveryVector(t *testing.T) {
	for v := -300; v <= 600; v++ {
		o := api.LocalOp{Kind: api.LocalAsk, N: v}
		compare(t, model{}, o)
		compare(t, model{asked: []int{100}, served: []int{100}, class: 15}, o)
	}
}

func TestErrorsInOrder(t *testing.T) {
	wrong := api.Local{Class: 16}
	for _, c := range []struct {
		l    api.Local
		o    api.LocalOp
		want api.Errno
	}{
		{wrong, api.LocalOp{Kind: 0}, api.ErrForm},
		{wrong, api.LocalOp{Kind: api.LocalAsk, N: 31}, api.ErrForm},
		{wrong, api.LocalOp{Kind: api.LocalTake}, api.ErrForm},
		{wrong, api.LocalOp{Kind: api.LocalEnd}, api.ErrForm},
		{wrong, api.LocalOp{Kind: api.LocalClass, N: 3}, api.ErrForm},
		{api.Local{}, api.LocalOp{Kind: 5, N: -1}, api.ErrKind},
		{api.Local{}, api.LocalOp{Kind: api.LocalAsk, N: 31}, api.ErrRange},
		{api.Local{}, api.LocalOp{Kind: api.LocalTake}, api.ErrAgain},
		{api.Local{}, api.LocalOp{Kind: api.LocalEnd}, api.ErrNone},
		{api.Local{}, api.LocalOp{Kind: api.LocalClass, N: 16}, api.ErrRange},
	} {
		if got, vec, err := apic.Step(c.l, c.o); got != (api.Local{}) || vec != 0 || err != c.want {
			t.Errorf("Step(%v, %v) = %v, %d, %d, not error %d", c.l, c.o, got, vec, err, c.want)
		}
	}
}

// Long runs of operations without a pattern, the same ones each time.
func TestStepInSequence(t *testing.T) {
	for seed := range uint32(20) {
		next := func(n int) int {
			seed = seed*1664525 + 1013904223
			return int(seed>>8) % n
		}
		var m model
		for range 1500 {
			o := api.LocalOp{Kind: 1 + next(4), N: next(300) - 20}
			if o.Kind == api.LocalClass {
				o.N = next(18) - 1
			}
			compare(t, m, o)
			if after, _, err := m.step(o); err == api.OK {
				m = after
			}
		}
	}
}

// No pending vector is lost: each is delivered once, and only by interrupting smaller classes.
func TestEveryPendingVectorIsDelivered(t *testing.T) {
	var l api.Local
	for v := 32; v < api.Vectors; v++ {
		l, _, _ = apic.Step(l, api.LocalOp{Kind: api.LocalAsk, N: v})
	}
	for v := api.Vectors - 1; v >= 32; v-- {
		after, vec, err := apic.Step(l, api.LocalOp{Kind: api.LocalTake})
		if vec != v || err != api.OK {
			t.Fatalf("%d, %d comes, not %d", vec, err, v)
		}
		if _, _, err := apic.Step(after, api.LocalOp{Kind: api.LocalTake}); err != api.ErrAgain {
			t.Errorf("while %d is in service, a take of a smaller one gives error %d", v, err)
		}
		if l, vec, err = apic.Step(after, api.LocalOp{Kind: api.LocalEnd}); vec != v || err != api.OK {
			t.Fatalf("%d, %d ends, not %d", vec, err, v)
		}
	}
	if l != (api.Local{}) {
		t.Errorf("behind them all there is %v", l)
	}
}

// A vector that is asked for again while it is in service is delivered again behind its end, and services nest.
func TestNestedService(t *testing.T) {
	var m model
	for _, c := range []struct {
		kind, n, want int
	}{
		{api.LocalAsk, 40, -1}, {api.LocalTake, 0, 40}, {api.LocalAsk, 40, -1}, {api.LocalAsk, 100, -1}, {api.LocalTake, 0, 100},
		{api.LocalAsk, 255, -1}, {api.LocalTake, 0, 255}, {api.LocalEnd, 0, 255}, {api.LocalEnd, 0, 100}, {api.LocalEnd, 0, 40},
		{api.LocalTake, 0, 40}, {api.LocalEnd, 0, 40},
	} {
		o := api.LocalOp{Kind: c.kind, N: c.n}
		compare(t, m, o)
		after, vec, err := m.step(o)
		if vec != c.want || err != api.OK {
			t.Fatalf("%v gives %d, %d, not %d", o, vec, err, c.want)
		}
		m = after
	}
}
