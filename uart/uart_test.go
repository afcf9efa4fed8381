package uart_test

import (
	"bytes"
	"math"
	"slices"
	"testing"

	"corebell/api"
	"corebell/uart"
)

// tape is a device told in another way: all bytes for which there was room, how many of them are gone, and how many were lost.
type tape struct {
	came, wrote string
	read, sent  int
	lost        int
}

func (p tape) device() api.Uart {
	return api.Uart{In: []byte(p.came[p.read:]), Out: []byte(p.wrote[p.sent:]), Lost: p.lost, Asks: p.read < len(p.came)}
}

// step returns the tape behind an operation, and the byte that it answers.
func (p tape) step(o api.UartOp) (tape, byte, api.Errno) {
	switch o.Kind {
	case 1:
		if p.read+16 > len(p.came) {
			p.came += string([]byte{o.Byte})
			return p, 0, api.OK
		}
		if p.lost == 1<<40 {
			return p, 0, api.ErrFull
		}
		p.lost++
		return p, 0, api.OK
	case 2:
		if p.read == len(p.came) {
			return p, 0, api.ErrNone
		}
		p.read++
		return p, p.came[p.read-1], api.OK
	case 3:
		if p.sent+16 == len(p.wrote) {
			return p, 0, api.ErrAgain
		}
		p.wrote += string([]byte{o.Byte})
		return p, 0, api.OK
	case 4:
		if p.sent == len(p.wrote) {
			return p, 0, api.ErrNone
		}
		p.sent++
		return p, p.wrote[p.sent-1], api.OK
	}
	return p, 0, api.ErrKind
}

// right says again, clause by clause, what the chapter asks of a device.
func right(u api.Uart) bool {
	if len(u.In) >= 17 || len(u.Out) >= 17 {
		return false
	}
	if u.Lost < 0 || u.Lost > 1<<40 {
		return false
	}
	if len(u.In) == 0 {
		return !u.Asks
	}
	return u.Asks
}

func in(b byte) api.UartOp  { return api.UartOp{Kind: api.UartIn, Byte: b} }
func out(b byte) api.UartOp { return api.UartOp{Kind: api.UartOut, Byte: b} }

var (
	read = api.UartOp{Kind: api.UartRead}
	send = api.UartOp{Kind: api.UartSend}
)

// scatter returns a function whose results are below its argument, and the same in each run.
func scatter(seed uint32) func(n int) int {
	return func(n int) int {
		seed = seed*1664525 + 1013904223
		return int(seed>>8) % n
	}
}

// scattered returns n operations; of 10 that are about a queue, so many fill it, and some are of no kind.
func scattered(roll func(int) int, n, fill int) []api.UartOp {
	ops := make([]api.UartOp, n)
	for i := range ops {
		kind := 1 + 2*roll(2)
		if roll(10) >= fill {
			kind++
		}
		if roll(20) == 0 {
			kind = roll(8) - 2
		}
		ops[i] = api.UartOp{Kind: kind, Byte: byte(roll(256))}
	}
	return ops
}

// numbers are those around the ends of each range, and those that a narrower integer would bring into it.
func numbers() []int {
	return []int{
		math.MinInt, math.MinInt + 1, -1 << 40, -1 << 32, -1<<32 + 1, -256, -255, -254, -4, -3, -2, -1,
		0, 1, 2, 3, 4, 5, 6, 7, 8, 15, 16, 17, 255, 256, 257, 258, 259, 260, 1<<16 + 1, math.MaxInt32, 1 << 32, 1<<32 + 1, 1<<32 + 2, 1<<32 + 3, 1<<32 + 4,
		1<<40 - 1, 1 << 40, 1<<40 + 1, 1 << 41, 1 << 62, math.MaxInt - 1, math.MaxInt,
	}
}

// full returns the tape of a device with so many bytes in its queues, all of them different.
func full(in, out, lost int) tape {
	p := tape{lost: lost}
	for n := range in {
		p.came += string([]byte{byte(10 + n)})
	}
	for n := range out {
		p.wrote += string([]byte{byte(200 + n)})
	}
	return p
}

// tapes are the devices with all numbers of bytes, at both ends of what may be lost.
func tapes() []tape {
	var l []tape
	for in := range 17 {
		for out := range 17 {
			for _, lost := range []int{0, 1, 16, 1 << 32, 1<<40 - 1, 1 << 40} {
				l = append(l, full(in, out, lost))
			}
		}
	}
	return l
}

func same(a, b api.Uart) bool {
	return bytes.Equal(a.In, b.In) && bytes.Equal(a.Out, b.Out) && a.Lost == b.Lost && a.Asks == b.Asks
}

func copied(u api.Uart) api.Uart {
	u.In, u.Out = bytes.Clone(u.In), bytes.Clone(u.Out)
	return u
}

func expectStep(t *testing.T, p tape, o api.UartOp) {
	t.Helper()
	u := p.device()
	after, b, e := uart.Step(u, o)
	next, wantB, want := p.step(o)
	wantAfter := api.Uart{}
	if want == api.OK {
		wantAfter = next.device()
	}
	if !same(after, wantAfter) || b != wantB || e != want {
		t.Errorf("Step(%v, %v) = %v, %d, %d, not %v, %d, %d", u, o, after, b, e, wantAfter, wantB, want)
	}
	if !same(u, p.device()) {
		t.Errorf("Step(%v, %v) changes its argument to %v", p.device(), o, u)
	}
	if e == api.OK && !uart.Right(after) {
		t.Errorf("Step(%v, %v) = %v, which is not valid", u, o, after)
	}
}

// expectRight also looks at Step, which refuses what is not valid, whatever the operation.
func expectRight(t *testing.T, u api.Uart) {
	t.Helper()
	if uart.Right(u) != right(u) {
		t.Errorf("Right of %d and %d bytes, %d, %v = %v", len(u.In), len(u.Out), u.Lost, u.Asks, uart.Right(u))
	}
	if right(u) {
		return
	}
	for kind := -1; kind <= 6; kind++ {
		after, b, e := uart.Step(u, api.UartOp{Kind: kind, Byte: 9})
		if !same(after, api.Uart{}) || b != 0 || e != api.ErrForm {
			t.Errorf("Step of %d and %d bytes, %d, %v with %d = %v, %d, %d", len(u.In), len(u.Out), u.Lost, u.Asks, kind, after, b, e)
		}
	}
}

// expectPlay holds Play against the tape.
func expectPlay(t *testing.T, ops []api.UartOp) {
	t.Helper()
	var p tape
	for _, o := range ops {
		p, _, _ = p.step(o)
	}
	in, out, u := uart.Play(ops)
	if string(in) != p.came[:p.read] || string(out) != p.wrote[:p.sent] || !same(u, p.device()) {
		t.Errorf("Play(%v) = %v, %v, %v, not %v, %v, %v", ops, in, out, u, []byte(p.came[:p.read]), []byte(p.wrote[:p.sent]), p.device())
	}
	if !uart.Right(u) {
		t.Errorf("Play(%v) leaves %v, which is not valid", ops, u)
	}
}

// P1

func TestRightByHand(t *testing.T) {
	some, most, many := []byte{7}, make([]byte, 16), make([]byte, 17)
	for _, c := range []struct {
		u    api.Uart
		want bool
	}{
		{api.Uart{}, true},
		{api.Uart{In: []byte{}, Out: []byte{}}, true},
		{api.Uart{Asks: true}, false},
		{api.Uart{In: []byte{}, Asks: true}, false},
		{api.Uart{Out: some}, true},
		{api.Uart{Out: some, Asks: true}, false},
		{api.Uart{In: some}, false},
		{api.Uart{In: some, Asks: true}, true},
		{api.Uart{In: []byte{0}, Asks: true}, true},
		{api.Uart{In: some, Out: some, Asks: true}, true},
		{api.Uart{In: some, Out: some}, false},
		{api.Uart{In: most, Out: most, Asks: true}, true},
		{api.Uart{In: most, Out: most}, false},
		{api.Uart{In: many, Asks: true}, false},
		{api.Uart{In: many}, false},
		{api.Uart{Out: many}, false},
		{api.Uart{In: most, Out: many, Asks: true}, false},
		{api.Uart{In: many, Out: most, Asks: true}, false},
		{api.Uart{Lost: 1}, true},
		{api.Uart{Lost: -1}, false},
		{api.Uart{Lost: 1 << 40}, true},
		{api.Uart{Lost: 1<<40 + 1}, false},
		{api.Uart{In: most, Lost: 1 << 40, Asks: true}, true},
		{api.Uart{In: most, Lost: 1<<40 + 1, Asks: true}, false},
		{api.Uart{In: some, Lost: -1, Asks: true}, false},
	} {
		if uart.Right(c.u) != c.want || right(c.u) != c.want {
			t.Errorf("Right(%v) = %v", c.u, uart.Right(c.u))
		}
		expectRight(t, c.u)
	}
}

func TestRightOfAllSizes(t *testing.T) {
	var sizes []int
	for n := range 20 {
		sizes = append(sizes, n)
	}
	sizes = append(sizes, 31, 32, 33, 255, 256, 257, 272, 1<<16, 1<<16+16)
	for _, in := range sizes {
		for _, out := range sizes {
			for _, lost := range numbers() {
				u := api.Uart{In: make([]byte, in), Out: make([]byte, out), Lost: lost}
				expectRight(t, u)
				u.Asks = true
				expectRight(t, u)
			}
		}
	}
}

// TestRightOfAnyBytes: which bytes they are does not matter.
func TestRightOfAnyBytes(t *testing.T) {
	for b := range 256 {
		for _, n := range []int{1, 16, 17} {
			l := bytes.Repeat([]byte{byte(b)}, n)
			expectRight(t, api.Uart{In: l})
			expectRight(t, api.Uart{In: l, Asks: true})
			expectRight(t, api.Uart{Out: l})
			expectRight(t, api.Uart{Out: l, Asks: true})
			expectRight(t, api.Uart{In: l, Out: l, Asks: true})
		}
	}
}

func TestStepByHand(t *testing.T) {
	none := api.Uart{}
	u := api.Uart{In: []byte{5, 6}, Out: []byte{7, 8, 9}, Lost: 3, Asks: true}
	last := api.Uart{In: []byte{5}, Out: []byte{7}, Asks: true}
	for _, c := range []struct {
		u     api.Uart
		o     api.UartOp
		after api.Uart
		b     byte
		e     api.Errno
	}{
		{none, in(4), api.Uart{In: []byte{4}, Asks: true}, 0, api.OK},
		{none, out(4), api.Uart{Out: []byte{4}}, 0, api.OK},
		{none, read, none, 0, api.ErrNone},
		{none, send, none, 0, api.ErrNone},
		{u, in(4), api.Uart{In: []byte{5, 6, 4}, Out: []byte{7, 8, 9}, Lost: 3, Asks: true}, 0, api.OK},
		{u, out(4), api.Uart{In: []byte{5, 6}, Out: []byte{7, 8, 9, 4}, Lost: 3, Asks: true}, 0, api.OK},
		{u, read, api.Uart{In: []byte{6}, Out: []byte{7, 8, 9}, Lost: 3, Asks: true}, 5, api.OK},
		{u, send, api.Uart{In: []byte{5, 6}, Out: []byte{8, 9}, Lost: 3, Asks: true}, 7, api.OK},
		{last, read, api.Uart{Out: []byte{7}}, 5, api.OK},
		{last, send, api.Uart{In: []byte{5}, Asks: true}, 7, api.OK},
		{u, api.UartOp{}, none, 0, api.ErrKind},
		{u, api.UartOp{Kind: 5, Byte: 4}, none, 0, api.ErrKind},
	} {
		after, b, e := uart.Step(c.u, c.o)
		if !same(after, c.after) || b != c.b || e != c.e {
			t.Errorf("Step(%v, %v) = %v, %d, %d", c.u, c.o, after, b, e)
		}
	}
}

func TestStepOfFullQueues(t *testing.T) {
	l := []byte("0123456789abcdef")
	u := api.Uart{In: l, Out: l, Lost: 1<<40 - 1, Asks: true}
	after, b, e := uart.Step(u, in('x'))
	if !same(after, api.Uart{In: l, Out: l, Lost: 1 << 40, Asks: true}) || b != 0 || e != api.OK {
		t.Errorf("one more is lost: %v, %d, %d", after, b, e)
	}
	again, b, e := uart.Step(after, in('x'))
	if !same(again, api.Uart{}) || b != 0 || e != api.ErrFull {
		t.Errorf("one too many is lost: %v, %d, %d", again, b, e)
	}
	again, b, e = uart.Step(after, out('x'))
	if !same(again, api.Uart{}) || b != 0 || e != api.ErrAgain {
		t.Errorf("one too many is to go out: %v, %d, %d", again, b, e)
	}
	// What was lost does not matter as soon as there is room.
	after, b, e = uart.Step(after, read)
	if !same(after, api.Uart{In: l[1:], Out: l, Lost: 1 << 40, Asks: true}) || b != '0' || e != api.OK {
		t.Errorf("one is read: %v, %d, %d", after, b, e)
	}
	after, b, e = uart.Step(after, in('x'))
	if !same(after, api.Uart{In: []byte("123456789abcdefx"), Out: l, Lost: 1 << 40, Asks: true}) || b != 0 || e != api.OK {
		t.Errorf("there is room again: %v, %d, %d", after, b, e)
	}
}

func TestStepFromAllSizes(t *testing.T) {
	for _, p := range tapes() {
		for kind := -1; kind <= 6; kind++ {
			for _, b := range []byte{0, 1, 127, 128, 255} {
				expectStep(t, p, api.UartOp{Kind: kind, Byte: b})
			}
		}
	}
}

func TestStepOfFarKinds(t *testing.T) {
	for _, p := range []tape{{}, full(1, 1, 0), full(3, 5, 8), full(16, 16, 0), full(16, 16, 1<<40)} {
		for _, kind := range numbers() {
			expectStep(t, p, api.UartOp{Kind: kind, Byte: 3})
		}
	}
}

// TestEveryByte: all bytes are alike, in either queue and at each place; and those that an operation does not use do not matter.
func TestEveryByte(t *testing.T) {
	for b := range 256 {
		for n := range 17 {
			p := full(n, n, 2)
			expectStep(t, p, in(byte(b)))
			expectStep(t, p, out(byte(b)))
			expectStep(t, p, api.UartOp{Kind: api.UartRead, Byte: byte(b)})
			expectStep(t, p, api.UartOp{Kind: api.UartSend, Byte: byte(b)})
			p.came = string([]byte{byte(b)}) + p.came[min(1, n):]
			p.wrote = string([]byte{byte(255 - b)}) + p.wrote[min(1, n):]
			expectStep(t, p, read)
			expectStep(t, p, send)
		}
	}
}

// TestOrderOfErrors: each operation has two errors, of which the first in the chapter's order is told.
func TestOrderOfErrors(t *testing.T) {
	most, many := make([]byte, 16), make([]byte, 17)
	for _, c := range []struct {
		u    api.Uart
		o    api.UartOp
		want api.Errno
	}{
		{api.Uart{Asks: true}, api.UartOp{}, api.ErrForm},
		{api.Uart{Lost: -1}, api.UartOp{Kind: 5}, api.ErrForm},
		{api.Uart{In: most, Lost: 1 << 40}, in(1), api.ErrForm},
		{api.Uart{In: many, Lost: 1 << 40, Asks: true}, in(1), api.ErrForm},
		{api.Uart{In: most, Lost: 1<<40 + 1, Asks: true}, in(1), api.ErrForm},
		{api.Uart{Asks: true}, read, api.ErrForm},
		{api.Uart{Asks: true}, send, api.ErrForm},
		{api.Uart{Out: most, Asks: true}, out(1), api.ErrForm},
		{api.Uart{Out: many}, out(1), api.ErrForm},
		{api.Uart{In: most, Out: most, Lost: 1 << 40, Asks: true}, api.UartOp{Kind: 5}, api.ErrKind},
		{api.Uart{In: most, Out: most, Lost: 1 << 40, Asks: true}, api.UartOp{}, api.ErrKind},
		{api.Uart{}, api.UartOp{Kind: -1}, api.ErrKind},
	} {
		after, b, e := uart.Step(c.u, c.o)
		if !same(after, api.Uart{}) || b != 0 || e != c.want {
			t.Errorf("Step(%v, %v) = %v, %d, %d, not %d", c.u, c.o, after, b, e, c.want)
		}
	}
}

// TestItAsksUntilAllIsRead: Asks is that of the byte which came last until it is read, too, whatever goes out.
func TestItAsksUntilAllIsRead(t *testing.T) {
	for n := 1; n <= 20; n++ {
		var u api.Uart
		do := func(o api.UartOp, asks bool) {
			t.Helper()
			after, _, e := uart.Step(u, o)
			if e != api.OK || after.Asks != asks {
				t.Fatalf("%d bytes, Step(%v, %v) = %v, %d", n, u, o, after, e)
			}
			u = after
		}
		do(out(1), false)
		do(out(2), false)
		for range n {
			do(in(0), true)
		}
		do(send, true)
		do(out(3), true)
		for left := min(n, 16); left > 0; left-- {
			do(read, left > 1)
		}
		do(send, false)
		do(out(4), false)
	}
}

// P2

func TestPlayByHand(t *testing.T) {
	ops := []api.UartOp{
		read, send, in('a'), out('x'), in('b'), read, {}, out('y'), send, in('c'), {Kind: 5, Byte: 'q'}, read, out('z'), send,
	}
	gotIn, gotOut, u := uart.Play(ops)
	if string(gotIn) != "ab" || string(gotOut) != "xy" || !same(u, api.Uart{In: []byte("c"), Out: []byte("z"), Asks: true}) {
		t.Errorf("Play = %q, %q, %v", gotIn, gotOut, u)
	}
	ops = append(ops, read, read, send, send)
	gotIn, gotOut, u = uart.Play(ops)
	if string(gotIn) != "abc" || string(gotOut) != "xyz" || !same(u, api.Uart{}) {
		t.Errorf("Play = %q, %q, %v", gotIn, gotOut, u)
	}
}

// TestTooMany: what comes in and finds no room is lost, and counted; what is to go out is refused.
func TestTooMany(t *testing.T) {
	for n := range 40 {
		var ops []api.UartOp
		var all []byte
		for b := range byte(n) {
			ops = append(ops, in(b), out(b))
			all = append(all, b)
		}
		gotIn, gotOut, u := uart.Play(ops)
		has := all[:min(n, 16)]
		if len(gotIn) != 0 || len(gotOut) != 0 || !same(u, api.Uart{In: has, Out: has, Lost: max(0, n-16), Asks: n > 0}) {
			t.Errorf("%d bytes: %v, %v, %v", n, gotIn, gotOut, u)
		}
		ops = append(ops, slices.Repeat([]api.UartOp{send, read}, 20)...)
		gotIn, gotOut, u = uart.Play(ops)
		if !bytes.Equal(gotIn, has) || !bytes.Equal(gotOut, has) || !same(u, api.Uart{Lost: max(0, n-16)}) {
			t.Errorf("%d bytes, and all are taken: %v, %v, %v", n, gotIn, gotOut, u)
		}
	}
}

func TestPlayOfNothing(t *testing.T) {
	for _, ops := range [][]api.UartOp{nil, {}, {{}}, {read, send, {Kind: 5}, {Kind: -1, Byte: 3}, {Byte: 3}, {Kind: math.MinInt}, {Kind: 1<<32 + 1}}} {
		if in, out, u := uart.Play(ops); len(in) != 0 || len(out) != 0 || !same(u, api.Uart{}) {
			t.Errorf("Play(%v) = %v, %v, %v", ops, in, out, u)
		}
	}
}

// TestAllShortRuns also begins with queues that are almost full.
func TestAllShortRuns(t *testing.T) {
	const most = 6
	for _, begun := range []int{0, 14, 15, 16} {
		var ops []api.UartOp
		for b := range byte(begun) {
			ops = append(ops, in(b), out(b+100))
		}
		var longer func()
		longer = func() {
			expectPlay(t, ops)
			if len(ops) == 2*begun+most {
				return
			}
			for kind := range 5 {
				ops = append(ops, api.UartOp{Kind: kind, Byte: byte(50 + len(ops))})
				longer()
				ops = ops[:len(ops)-1]
			}
		}
		longer()
	}
}

func TestLongRuns(t *testing.T) {
	for seed := range uint32(300) {
		for fill := 3; fill <= 7; fill++ {
			roll := scatter(seed)
			expectPlay(t, scattered(roll, 1+roll(400), fill))
		}
	}
	for seed := range uint32(5) {
		expectPlay(t, scattered(scatter(seed), 20000, 5))
	}
}

// TestPlayIsManySteps: Play does what Step does to one device after another, with errors passed over.
func TestPlayIsManySteps(t *testing.T) {
	for seed := range uint32(100) {
		ops := scattered(scatter(seed), 300, 4+int(seed%3))
		var u api.Uart
		var allRead, allSent []byte
		var p tape
		for n, o := range ops {
			expectStep(t, p, o)
			p, _, _ = p.step(o)
			if after, b, e := uart.Step(u, o); e == api.OK {
				u = after
				switch o.Kind {
				case api.UartRead:
					allRead = append(allRead, b)
				case api.UartSend:
					allSent = append(allSent, b)
				}
			}
			gotIn, gotOut, last := uart.Play(ops[:n+1])
			if !bytes.Equal(gotIn, allRead) || !bytes.Equal(gotOut, allSent) || !same(last, u) {
				t.Fatalf("seed %d, operation %d: Play = %v, %v, %v, not %v, %v, %v", seed, n, gotIn, gotOut, last, allRead, allSent, u)
			}
		}
	}
}

// TestErrorsHaveNoEffect: without the operations that have an error, all is the same.
func TestErrorsHaveNoEffect(t *testing.T) {
	for seed := range uint32(200) {
		ops := scattered(scatter(seed), 200, 4+int(seed%3))
		var kept []api.UartOp
		var p tape
		for _, o := range ops {
			next, _, e := p.step(o)
			p = next
			if e == api.OK {
				kept = append(kept, o)
			}
		}
		gotIn, gotOut, u := uart.Play(ops)
		keptIn, keptOut, v := uart.Play(kept)
		if !bytes.Equal(gotIn, keptIn) || !bytes.Equal(gotOut, keptOut) || !same(u, v) || len(kept) == len(ops) {
			t.Errorf("Play(%v) = %v, %v, %v, not %v, %v, %v", kept, keptIn, keptOut, v, gotIn, gotOut, u)
		}
	}
}

// TestBytesAreReadAsTheyArrived: what was read and what is there are the bytes that came, in their order, without those that were lost; and the same is true of what goes out, where none is lost.
func TestBytesAreReadAsTheyArrived(t *testing.T) {
	for seed := range uint32(300) {
		roll := scatter(seed)
		ops := make([]api.UartOp, 120)
		came := 0
		for i := range ops {
			ops[i].Kind = 1 + roll(2)
			if roll(3) == 0 {
				ops[i].Kind = 1
			}
			if ops[i].Kind == api.UartIn {
				ops[i].Byte = byte(came)
				came++
			}
		}
		gotIn, _, u := uart.Play(ops)
		all := slices.Concat(gotIn, u.In)
		if len(all)+u.Lost != came {
			t.Errorf("Play(%v) = %v, %v: %d came", ops, gotIn, u, came)
		}
		for i := 1; i < len(all); i++ {
			if all[i-1] >= all[i] {
				t.Errorf("Play(%v) = %v, %v: %d is ahead of %d", ops, gotIn, u, all[i-1], all[i])
			}
		}
		for i := range ops {
			ops[i].Kind += 2
		}
		_, gotOut, v := uart.Play(ops)
		if !bytes.Equal(gotOut, gotIn) || !same(v, api.Uart{Out: u.In}) {
			t.Errorf("Play(%v) = %v, %v, not %v, %v", ops, gotOut, v, gotIn, u.In)
		}
	}
}

// TestQueuesAreApart: each way is as if there was nothing on the other one.
func TestQueuesAreApart(t *testing.T) {
	for seed := range uint32(200) {
		ops := scattered(scatter(seed), 300, 4+int(seed%3))
		gotIn, gotOut, u := uart.Play(ops)
		inward := slices.DeleteFunc(slices.Clone(ops), func(o api.UartOp) bool { return o.Kind > api.UartRead })
		outward := slices.DeleteFunc(slices.Clone(ops), func(o api.UartOp) bool { return o.Kind <= api.UartRead })
		onlyIn, nothing, v := uart.Play(inward)
		if !bytes.Equal(onlyIn, gotIn) || len(nothing) != 0 || !same(v, api.Uart{In: u.In, Lost: u.Lost, Asks: u.Asks}) {
			t.Errorf("Play(%v) = %v, %v, %v", inward, onlyIn, nothing, v)
		}
		nothing, onlyOut, v := uart.Play(outward)
		if !bytes.Equal(onlyOut, gotOut) || len(nothing) != 0 || !same(v, api.Uart{Out: u.Out}) {
			t.Errorf("Play(%v) = %v, %v, %v", outward, nothing, onlyOut, v)
		}
	}
}

// Z1

// TestManyOperations: MaxOps is no limit for operations, nor for bytes.
func TestManyOperations(t *testing.T) {
	const rounds = 200_000
	var ops []api.UartOp
	var inward, outward []byte
	for n := range rounds {
		if n >= 16 {
			ops = append(ops, read, send)
		}
		inward, outward = append(inward, byte(n)), append(outward, byte(n>>3))
		ops = append(ops, in(byte(n)), out(byte(n>>3)))
	}
	left := rounds - 16
	gotIn, gotOut, u := uart.Play(ops)
	if !bytes.Equal(gotIn, inward[:left]) || !bytes.Equal(gotOut, outward[:left]) || !same(u, api.Uart{In: inward[left:], Out: outward[left:], Asks: true}) {
		t.Errorf("%d read, %d sent, %v", len(gotIn), len(gotOut), u)
	}
	_, _, u = uart.Play(slices.Repeat([]api.UartOp{in(3)}, rounds))
	if !same(u, api.Uart{In: bytes.Repeat([]byte{3}, 16), Lost: left, Asks: true}) {
		t.Errorf("%d bytes come in: %v", rounds, u)
	}
	_, _, u = uart.Play(slices.Repeat([]api.UartOp{out(3)}, rounds))
	if !same(u, api.Uart{Out: bytes.Repeat([]byte{3}, 16)}) {
		t.Errorf("%d bytes go out: %v", rounds, u)
	}
	for _, n := range []int{399, 400, 401, 65536, 65537} {
		for _, o := range []api.UartOp{{}, in(1), out(1), read, send, {Kind: 5}} {
			expectPlay(t, slices.Repeat([]api.UartOp{o}, n))
		}
	}
}

func TestNothingIsKept(t *testing.T) {
	ops := scattered(scatter(3), 300, 6)
	gotIn, gotOut, u := uart.Play(ops)
	uart.Play([]api.UartOp{in(1), out(2), in(3), out(4), read})
	uart.Step(full(16, 16, 4).device(), in(9))
	againIn, againOut, v := uart.Play(ops)
	if !bytes.Equal(gotIn, againIn) || !bytes.Equal(gotOut, againOut) || !same(u, v) {
		t.Errorf("Play = %v, %v, %v, and then %v, %v, %v", gotIn, gotOut, u, againIn, againOut, v)
	}
	if gotIn, gotOut, u := uart.Play([]api.UartOp{read, send}); len(gotIn) != 0 || len(gotOut) != 0 || !same(u, api.Uart{}) {
		t.Errorf("what an earlier call left is there: %v, %v, %v", gotIn, gotOut, u)
	}
}

// Z2

// fill writes to all memory that a slice can reach.
func fill(l []byte, b byte) {
	l = l[:cap(l)]
	for i := range l {
		l[i] = b
	}
}

// TestStepLeavesItsArgument: neither what the caller does to its device later reaches the result, nor the other way round.
func TestStepLeavesItsArgument(t *testing.T) {
	for _, p := range tapes() {
		for kind := range 6 {
			o := api.UartOp{Kind: kind, Byte: 77}
			roomIn, roomOut := make([]byte, 40), make([]byte, 40)
			fill(roomIn, 251)
			fill(roomOut, 252)
			u := api.Uart{In: roomIn[:copy(roomIn, p.device().In)], Out: roomOut[:copy(roomOut, p.device().Out)], Lost: p.lost, Asks: p.device().Asks}
			wholeIn, wholeOut := bytes.Clone(roomIn), bytes.Clone(roomOut)
			after, _, e := uart.Step(u, o)
			if !bytes.Equal(roomIn, wholeIn) || !bytes.Equal(roomOut, wholeOut) {
				t.Fatalf("Step(%v, %v) changes the queues, or what is behind them", p.device(), o)
			}
			kept := copied(after)
			fill(roomIn, 1)
			fill(roomOut, 2)
			if next, _, want := p.step(o); want == api.OK && !same(after, next.device()) || e != want || !same(after, kept) {
				t.Fatalf("the result of Step(%v, %v) is in the caller's memory: %v", p.device(), o, after)
			}
			copy(roomIn, wholeIn)
			copy(roomOut, wholeOut)
			fill(after.In, 3)
			if !bytes.Equal(after.Out, kept.Out) {
				t.Fatalf("the queues behind Step(%v, %v) share memory", p.device(), o)
			}
			fill(after.Out, 4)
			if !bytes.Equal(roomIn, wholeIn) || !bytes.Equal(roomOut, wholeOut) {
				t.Fatalf("the argument of Step(%v, %v) is in its result", p.device(), o)
			}
		}
	}
}

// TestQueuesInOneMemory: of a device whose queues are one behind the other in memory, neither reaches into the other.
func TestQueuesInOneMemory(t *testing.T) {
	room := []byte("abcdefgh")
	u := api.Uart{In: room[:4], Out: room[4:], Asks: true}
	after, _, _ := uart.Step(u, in('x'))
	if !same(after, api.Uart{In: []byte("abcdx"), Out: []byte("efgh"), Asks: true}) || string(room) != "abcdefgh" {
		t.Errorf("%v, and %q is left", after, room)
	}
	u = api.Uart{In: room[2:6], Out: room[2:6], Asks: true}
	after, _, _ = uart.Step(u, out('x'))
	if !same(after, api.Uart{In: []byte("cdef"), Out: []byte("cdefx"), Asks: true}) || string(room) != "abcdefgh" {
		t.Errorf("%v, and %q is left", after, room)
	}
}

// TestTwoStepsFromOneDevice: the results of two calls share no memory.
func TestTwoStepsFromOneDevice(t *testing.T) {
	ops := []api.UartOp{in(1), out(2), read, send}
	for _, p := range []tape{full(3, 5, 0), full(15, 15, 0), full(16, 15, 9), full(1, 1, 0)} {
		for _, first := range ops {
			for _, second := range ops {
				for _, third := range ops {
					u, _, _ := uart.Step(p.device(), first)
					kept := copied(u)
					a, _, _ := uart.Step(u, second)
					b, _, _ := uart.Step(u, third)
					keptB := copied(b)
					fill(a.In, 91)
					fill(a.Out, 92)
					if !same(u, kept) || !same(b, keptB) {
						t.Fatalf("%v, then %v and %v: %v and %v, not %v and %v", first, second, third, u, b, kept, keptB)
					}
				}
			}
		}
	}
}

// TestPlayLeavesItsArgument: it does not change, what is behind it does not matter, and the results are in memory of their own.
func TestPlayLeavesItsArgument(t *testing.T) {
	for n := range 120 {
		room := scattered(scatter(uint32(n)), n+9, 6)
		room[n] = in(55)
		whole := slices.Clone(room)
		gotIn, gotOut, u := uart.Play(room[:n])
		wantIn, wantOut, want := uart.Play(slices.Clip(slices.Clone(room[:n])))
		if !bytes.Equal(gotIn, wantIn) || !bytes.Equal(gotOut, wantOut) || !same(u, want) {
			t.Fatalf("what is behind %d operations matters", n)
		}
		if !slices.Equal(room, whole) {
			t.Fatalf("%d operations, or what is behind them, have changed", n)
		}
		clear(room)
		parts := [][]byte{gotIn, gotOut, u.In, u.Out}
		wanted := [][]byte{wantIn, wantOut, want.In, want.Out}
		for i, part := range parts {
			if !bytes.Equal(part, wanted[i]) {
				t.Fatalf("%d operations: result %d is in other memory, too", n, i)
			}
			fill(part, 99)
		}
		if again, _, v := uart.Play(whole[:n]); !bytes.Equal(again, wantIn) || !same(v, want) {
			t.Fatalf("%d operations: what is done to the results matters", n)
		}
	}
}

// Z3

func TestNilAndEmptyQueues(t *testing.T) {
	for _, l := range [][]byte{nil, {}} {
		for kind := range 6 {
			o := api.UartOp{Kind: kind, Byte: 8}
			for _, u := range []api.Uart{{In: l}, {Out: l}, {In: l, Out: l}, {In: l, Out: []byte{1}}, {In: []byte{1}, Out: l, Asks: true}} {
				p := tape{came: string(u.In), wrote: string(u.Out)}
				next, wantB, want := p.step(o)
				wantAfter := api.Uart{}
				if want == api.OK {
					wantAfter = next.device()
				}
				if after, b, e := uart.Step(u, o); !uart.Right(u) || !same(after, wantAfter) || b != wantB || e != want {
					t.Errorf("Step(%#v, %v) = %v, %d, %d", u, o, after, b, e)
				}
			}
		}
	}
}
