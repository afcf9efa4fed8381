package ticket_test

import (
	"math"
	"slices"
	"testing"

	"corebell/api"
	"corebell/ticket"
)

// queue is the lock told in another way: the cores with a ticket in the order of their tickets, and how many have left.
type queue struct {
	left   int
	cores  []int
	inside bool // the first one is
}

func (q queue) lock() api.Lock {
	l := api.Lock{Next: q.left + len(q.cores), Now: q.left, Mine: [8]int{-1, -1, -1, -1, -1, -1, -1, -1}}
	for i, c := range q.cores {
		l.Mine[c] = q.left + i
	}
	if q.inside {
		l.In[q.cores[0]] = true
	}
	return l
}

// step returns the queue behind an operation, and whether the core is inside then.
func (q queue) step(o api.LockOp) (queue, bool, api.Errno) {
	if o.Kind < 1 || o.Kind > 3 {
		return q, false, api.ErrKind
	}
	if o.Core < 0 || o.Core > 7 {
		return q, false, api.ErrRange
	}
	place := slices.Index(q.cores, o.Core)
	switch o.Kind {
	case api.LockAsk:
		if place >= 0 {
			return q, false, api.ErrHeld
		}
		if q.left+len(q.cores) == 1<<40 {
			return q, false, api.ErrFull
		}
		q.cores = append(slices.Clone(q.cores), o.Core)
		return q, false, api.OK
	case api.LockLook:
		if place < 0 {
			return q, false, api.ErrNone
		}
		q.inside = q.inside || place == 0
		return q, place == 0, api.OK
	}
	if place != 0 || !q.inside {
		return q, false, api.ErrNone
	}
	return queue{left: q.left + 1, cores: q.cores[1:]}, false, api.OK
}

// right says again, clause by clause, what the chapter asks of a lock.
func right(l api.Lock) bool {
	if l.Now < 0 || l.Now > l.Next || l.Next > 1<<40 || l.Next-l.Now > 8 {
		return false
	}
	owners := map[int]int{}
	for c, mine := range l.Mine {
		owners[mine]++
		if mine != -1 && (mine < l.Now || mine > l.Next-1) {
			return false
		}
		if l.In[c] && mine != l.Now {
			return false
		}
	}
	for n := l.Now; n < l.Next; n++ {
		if owners[n] != 1 {
			return false
		}
	}
	return true
}

// scatter returns a function whose results are below its argument, and the same in each run.
func scatter(seed uint32) func(n int) int {
	return func(n int) int {
		seed = seed*1664525 + 1013904223
		return int(seed>>8) % n
	}
}

// numbers are those around the ends of each range, and those that a narrower integer or a remainder would bring into it.
func numbers() []int {
	return []int{
		math.MinInt, math.MinInt + 1, -1 << 40, -1 << 32, -1<<32 + 1, -256, -8, -7, -3, -2, -1,
		0, 1, 2, 3, 4, 5, 6, 7, 8, 9, 15, 16, 255, 256, 257, 258, math.MaxInt32, 1 << 32, 1<<32 + 1, 1<<32 + 2, 1<<32 + 3,
		1<<40 - 1, 1 << 40, 1<<40 + 1, 1 << 62, math.MaxInt - 1, math.MaxInt,
	}
}

// someQueues are states in many forms: all lengths, both ends of the tickets, with and without a core inside.
func someQueues() []queue {
	var out []queue
	roll := scatter(6)
	for _, left := range []int{0, 1, 7, 8, 9, 1 << 32, 1<<40 - 9, 1<<40 - 8, 1<<40 - 7, 1<<40 - 1, 1 << 40} {
		for n := range 9 {
			if left+n > 1<<40 {
				continue
			}
			cores := []int{0, 1, 2, 3, 4, 5, 6, 7}
			for i := range cores {
				j := i + roll(8-i)
				cores[i], cores[j] = cores[j], cores[i]
			}
			out = append(out, queue{left: left, cores: cores[:n]})
			if n > 0 {
				out = append(out, queue{left: left, cores: cores[:n], inside: true})
			}
		}
	}
	return out
}

func expectStep(t *testing.T, q queue, o api.LockOp) {
	t.Helper()
	l := q.lock()
	after, in, e := ticket.Step(l, o)
	next, wantIn, want := q.step(o)
	wantAfter := api.Lock{}
	if want == api.OK {
		wantAfter = next.lock()
	}
	if after != wantAfter || in != wantIn || e != want {
		t.Errorf("Step(%v, %v) = %v, %v, %v, not %v, %v, %v", l, o, after, in, e, wantAfter, wantIn, want)
	}
}

// F1

func TestNew(t *testing.T) {
	l := ticket.New()
	want := api.Lock{Next: 0, Now: 0, Mine: [8]int{-1, -1, -1, -1, -1, -1, -1, -1}, In: [8]bool{}}
	if l != want || !ticket.Right(l) {
		t.Errorf("New() = %v, %v", l, ticket.Right(l))
	}
	l.Mine[3], l.In[3] = 0, true
	if ticket.New() != want {
		t.Errorf("what is done to a lock changes New")
	}
}

func TestRightOfStates(t *testing.T) {
	for _, q := range someQueues() {
		if l := q.lock(); !ticket.Right(l) || !right(l) {
			t.Errorf("Right(%v) = %v", l, ticket.Right(l))
		}
	}
}

func TestRightByHand(t *testing.T) {
	none := [8]int{-1, -1, -1, -1, -1, -1, -1, -1}
	for _, c := range []struct {
		l    api.Lock
		want bool
	}{
		{api.Lock{}, false}, // all cores would have ticket 0
		{api.Lock{Mine: none}, true},
		{api.Lock{Next: 5, Now: 5, Mine: none}, true},
		{api.Lock{Next: 5, Now: 6, Mine: none}, false},
		{api.Lock{Next: 5, Now: 4, Mine: none}, false},
		{api.Lock{Next: -1, Now: -1, Mine: none}, false},
		{api.Lock{Next: 0, Now: -1, Mine: none}, false},
		{api.Lock{Next: 1 << 40, Now: 1 << 40, Mine: none}, true},
		{api.Lock{Next: 1<<40 + 1, Now: 1<<40 + 1, Mine: none}, false},
		{api.Lock{Next: 5, Now: 4, Mine: [8]int{4, -1, -1, -1, -1, -1, -1, -1}}, true},
		{api.Lock{Next: 5, Now: 4, Mine: [8]int{4, -1, -1, -1, -1, -1, -1, 4}}, false},
		{api.Lock{Next: 5, Now: 4, Mine: [8]int{4, -2, -1, -1, -1, -1, -1, -1}}, false},
		{api.Lock{Next: 5, Now: 4, Mine: [8]int{4, 3, -1, -1, -1, -1, -1, -1}}, false},
		{api.Lock{Next: 5, Now: 4, Mine: [8]int{4, 5, -1, -1, -1, -1, -1, -1}}, false},
		{api.Lock{Next: 6, Now: 4, Mine: [8]int{4, -1, -1, -1, -1, -1, -1, -1}}, false},
		{api.Lock{Next: 6, Now: 4, Mine: [8]int{4, -1, -1, -1, 4, -1, -1, -1}}, false},
		{api.Lock{Next: 6, Now: 4, Mine: [8]int{5, -1, -1, -1, 4, -1, -1, -1}, In: [8]bool{4: true}}, true},
		{api.Lock{Next: 6, Now: 4, Mine: [8]int{5, -1, -1, -1, 4, -1, -1, -1}, In: [8]bool{0: true}}, false},
		{api.Lock{Next: 6, Now: 4, Mine: [8]int{5, -1, -1, -1, 4, -1, -1, -1}, In: [8]bool{0: true, 4: true}}, false},
		{api.Lock{Next: 6, Now: 4, Mine: [8]int{5, -1, -1, -1, 4, -1, -1, -1}, In: [8]bool{7: true}}, false},
		{api.Lock{Next: 5, Now: 5, Mine: none, In: [8]bool{0: true}}, false},
		{api.Lock{Next: 8, Mine: [8]int{3, 1, 4, 0, 5, 7, 2, 6}}, true},
		{api.Lock{Next: 8, Mine: [8]int{3, 1, 4, 0, 5, 7, 2, 7}}, false},
		{api.Lock{Next: 9, Mine: [8]int{3, 1, 4, 0, 5, 7, 2, 6}}, false},
		{api.Lock{Next: 9, Mine: [8]int{3, 1, 4, 0, 5, 7, 2, 8}}, false},
		{api.Lock{Next: 9, Mine: [8]int{8, 1, 4, 3, 5, 7, 2, 6}}, false},
	} {
		if ticket.Right(c.l) != c.want || right(c.l) != c.want {
			t.Errorf("Right(%v) = %v", c.l, ticket.Right(c.l))
		}
	}
}

// TestRightOfAllSmall looks at all locks of three cores with small numbers, the other cores having no ticket.
func TestRightOfAllSmall(t *testing.T) {
	valid := 0
	for n := range 5 * 5 * 6 * 6 * 6 * 8 {
		next := func(m int) int {
			r := n % m
			n /= m
			return r
		}
		l := queue{}.lock()
		l.Now, l.Next = next(5)-1, next(5)-1
		for _, c := range []int{0, 3, 7} {
			l.Mine[c], l.In[c] = next(6)-2, next(2) == 1
		}
		if ticket.Right(l) != right(l) {
			t.Fatalf("Right(%v) = %v", l, ticket.Right(l))
		}
		if right(l) {
			valid++
		}
	}
	// Of 4 numbers that Now may be: with w cores waiting, 4 - w of them, 3! / (3 - w)! orders, and twice as many if one may be inside.
	if want := 4*1 + 3*3*2 + 2*6*2 + 1*6*2; valid != want {
		t.Errorf("%d are valid, not %d", valid, want)
	}
}

func TestRightOfChanged(t *testing.T) {
	for _, q := range someQueues() {
		for _, x := range numbers() {
			l := q.lock()
			for c := range 8 {
				m := l
				m.Mine[c] = x
				expectRight(t, m)
				m.In[c] = !m.In[c]
				expectRight(t, m)
			}
			m := l
			m.Now = x
			expectRight(t, m)
			m = l
			m.Next = x
			expectRight(t, m)
			m.Now = x
			expectRight(t, m)
		}
	}
	for _, now := range numbers() {
		for _, next := range numbers() {
			l := queue{}.lock()
			l.Now, l.Next = now, next
			expectRight(t, l)
		}
	}
}

// expectRight also looks at Step, which refuses what is not valid, whatever the operation.
func expectRight(t *testing.T, l api.Lock) {
	t.Helper()
	if ticket.Right(l) != right(l) {
		t.Errorf("Right(%v) = %v", l, ticket.Right(l))
	}
	if right(l) {
		return
	}
	for _, o := range []api.LockOp{{Kind: api.LockAsk}, {Kind: api.LockLook, Core: 2}, {Kind: api.LockFree, Core: 8}, {}} {
		if after, in, e := ticket.Step(l, o); after != (api.Lock{}) || in || e != api.ErrForm {
			t.Errorf("Step(%v, %v) = %v, %v, %v", l, o, after, in, e)
		}
	}
}

// F2

func TestStepByHand(t *testing.T) {
	l := api.Lock{Next: 6, Now: 4, Mine: [8]int{5, -1, -1, -1, 4, -1, -1, -1}}
	for _, c := range []struct {
		o     api.LockOp
		after api.Lock
		in    bool
		e     api.Errno
	}{
		{api.LockOp{Kind: api.LockAsk, Core: 7}, api.Lock{Next: 7, Now: 4, Mine: [8]int{5, -1, -1, -1, 4, -1, -1, 6}}, false, api.OK},
		{api.LockOp{Kind: api.LockAsk, Core: 4}, api.Lock{}, false, api.ErrHeld},
		{api.LockOp{Kind: api.LockLook, Core: 0}, l, false, api.OK},
		{api.LockOp{Kind: api.LockLook, Core: 7}, api.Lock{}, false, api.ErrNone},
		{api.LockOp{Kind: api.LockFree, Core: 4}, api.Lock{}, false, api.ErrNone}, // its turn, but it has not looked
		{api.LockOp{Kind: api.LockFree, Core: 0}, api.Lock{}, false, api.ErrNone},
		{api.LockOp{Kind: api.LockLook, Core: 4}, api.Lock{Next: 6, Now: 4, Mine: [8]int{5, -1, -1, -1, 4, -1, -1, -1}, In: [8]bool{4: true}}, true, api.OK},
	} {
		after, in, e := ticket.Step(l, c.o)
		if after != c.after || in != c.in || e != c.e {
			t.Errorf("Step(%v) = %v, %v, %v", c.o, after, in, e)
		}
	}
	l.In[4] = true
	again, in, e := ticket.Step(l, api.LockOp{Kind: api.LockLook, Core: 4})
	if again != l || !in || e != api.OK {
		t.Errorf("a core that is inside looks again: %v, %v, %v", again, in, e)
	}
	free, in, e := ticket.Step(l, api.LockOp{Kind: api.LockFree, Core: 4})
	if free != (api.Lock{Next: 6, Now: 5, Mine: [8]int{5, -1, -1, -1, -1, -1, -1, -1}}) || in || e != api.OK {
		t.Errorf("a core leaves: %v, %v, %v", free, in, e)
	}
}

func TestStepFromAllStates(t *testing.T) {
	for _, q := range someQueues() {
		for kind := -1; kind <= 5; kind++ {
			for core := -2; core <= 9; core++ {
				expectStep(t, q, api.LockOp{Kind: kind, Core: core})
			}
		}
	}
}

func TestStepOfFarNumbers(t *testing.T) {
	for _, q := range []queue{{}, {left: 3, cores: []int{1, 0, 2}, inside: true}, {left: 1<<40 - 1, cores: []int{3}}} {
		for _, kind := range numbers() {
			for _, core := range numbers() {
				expectStep(t, q, api.LockOp{Kind: kind, Core: core})
			}
		}
	}
}

func TestLastTicket(t *testing.T) {
	q := queue{left: 1<<40 - 2, cores: []int{6}}
	expectStep(t, q, api.LockOp{Kind: api.LockAsk, Core: 2})
	full := queue{left: 1<<40 - 2, cores: []int{6, 2}, inside: true}
	for core := range 8 {
		// Who has a ticket hears that first.
		want := api.ErrFull
		if core == 6 || core == 2 {
			want = api.ErrHeld
		}
		if _, _, e := ticket.Step(full.lock(), api.LockOp{Kind: api.LockAsk, Core: core}); e != want {
			t.Errorf("core %d asks for one too many: %v", core, e)
		}
	}
	expectStep(t, full, api.LockOp{Kind: api.LockFree, Core: 6})
	l, _, _ := ticket.Step(queue{left: 1<<40 - 1, cores: []int{2}, inside: true}.lock(), api.LockOp{Kind: api.LockFree, Core: 2})
	if l != (queue{left: 1 << 40}).lock() || !ticket.Right(l) {
		t.Errorf("behind the last ticket: %v", l)
	}
}

func TestPlayByHand(t *testing.T) {
	ask, look, free := api.LockAsk, api.LockLook, api.LockFree
	ops := []api.LockOp{
		{Kind: ask, Core: 3}, {Kind: ask, Core: 1}, {Kind: look, Core: 1}, {Kind: look, Core: 3}, {Kind: look, Core: 3},
		{Kind: ask, Core: 3}, {Kind: free, Core: 1}, {Kind: free, Core: 3}, {Kind: ask, Core: 3}, {Kind: 9, Core: 1}, {Kind: look, Core: 8},
		{Kind: look, Core: 3}, {Kind: look, Core: 1}, {Kind: free, Core: 1}, {Kind: look, Core: 3},
	}
	in, l := ticket.Play(ops)
	want := api.Lock{Next: 3, Now: 2, Mine: [8]int{-1, -1, -1, 2, -1, -1, -1, -1}, In: [8]bool{3: true}}
	if !slices.Equal(in, []int{3, 1, 3}) || l != want {
		t.Errorf("Play = %v, %v", in, l)
	}
}

func TestPlayOfNothing(t *testing.T) {
	for _, ops := range [][]api.LockOp{nil, {}, {{}}, {{Kind: api.LockLook}, {Kind: api.LockFree}, {Kind: 4}, {Kind: api.LockAsk, Core: -1}}} {
		if in, l := ticket.Play(ops); len(in) != 0 || l != ticket.New() {
			t.Errorf("Play(%v) = %v, %v", ops, in, l)
		}
	}
}

func scatteredOps(roll func(int) int, n int) []api.LockOp {
	ops := make([]api.LockOp, n)
	for i := range ops {
		ops[i] = api.LockOp{Kind: 1 + roll(3), Core: roll(8)}
		if roll(16) == 0 {
			ops[i] = api.LockOp{Kind: roll(6) - 1, Core: roll(12) - 2}
		}
	}
	return ops
}

// TestPlayAgainstQueue also sees that the lock is exclusive and fair: cores enter one behind the other, as they asked.
func TestPlayAgainstQueue(t *testing.T) {
	for seed := range uint32(150) {
		ops := scatteredOps(scatter(seed), 40+int(seed)*4)
		q, l := queue{}, ticket.New()
		var asked, entered []int
		for i, o := range ops {
			expectStep(t, q, o)
			next, in, e := q.step(o)
			if o.Kind == api.LockAsk && e == api.OK {
				asked = append(asked, o.Core)
			}
			if in && !q.inside {
				entered = append(entered, o.Core)
			}
			q = next
			if after, _, e := ticket.Step(l, o); e == api.OK {
				l = after
			}
			if !ticket.Right(l) || l != q.lock() {
				t.Fatalf("seed %d, behind operation %d: %v, not %v", seed, i, l, q.lock())
			}
		}
		got, last := ticket.Play(ops)
		if !slices.Equal(got, entered) || last != l || !slices.Equal(got, asked[:len(got)]) {
			t.Errorf("seed %d: Play = %v, %v, not %v, %v", seed, got, last, entered, l)
		}
	}
}

func TestPlayOfPrefixes(t *testing.T) {
	ops := scatteredOps(scatter(77), 120)
	for n := range len(ops) {
		before, l := ticket.Play(ops[:n])
		next, _, e := ticket.Step(l, ops[n])
		if e != api.OK {
			next = l
		}
		in, last := ticket.Play(ops[:n+1])
		if last != next || len(in) < len(before) || !slices.Equal(in[:len(before)], before) {
			t.Errorf("operation %d: %v, %v behind %v, %v", n, in, last, before, l)
		}
	}
}

// Z1

func TestManyOperations(t *testing.T) {
	const rounds = 20000
	var ops []api.LockOp
	for i := range rounds {
		for kind := 1; kind <= 3; kind++ {
			ops = append(ops, api.LockOp{Kind: kind, Core: i % 8})
		}
	}
	in, l := ticket.Play(ops)
	if len(in) != rounds || l != (queue{left: rounds}).lock() {
		t.Errorf("%d entered, %v", len(in), l)
	}
	for i, c := range in {
		if c != i%8 {
			t.Fatalf("entry %d is that of core %d", i, c)
		}
	}
}

func TestNothingIsKept(t *testing.T) {
	ops := scatteredOps(scatter(3), 60)
	in, l := ticket.Play(ops)
	ticket.Play(scatteredOps(scatter(4), 60))
	ticket.Step(queue{left: 9, cores: []int{1, 2}}.lock(), api.LockOp{Kind: api.LockAsk, Core: 5})
	again, m := ticket.Play(ops)
	if !slices.Equal(in, again) || l != m {
		t.Errorf("Play = %v, %v, and then %v, %v", in, l, again, m)
	}
}

// Z2

func TestArgumentsStay(t *testing.T) {
	room := scatteredOps(scatter(5), 80)
	kept := slices.Clone(room)
	in, l := ticket.Play(room[:50])
	if !slices.Equal(room, kept) {
		t.Errorf("the operations, or what is behind them, have changed")
	}
	clear(room[50:])
	again, m := ticket.Play(room[:50])
	if !slices.Equal(in, again) || l != m {
		t.Errorf("what is behind the operations matters")
	}
	clear(again)
	if third, _ := ticket.Play(kept[:50]); !slices.Equal(in, third) {
		t.Errorf("results share memory")
	}
}
