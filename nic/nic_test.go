package nic_test

import (
	"math"
	"slices"
	"testing"

	"corebell/api"
	"corebell/nic"
)

// tape is a device told in another way: all packets for which there was room, how many of them are taken, and how many others were lost; whether the driver has yet to find it empty, and how often that began.
type tape struct {
	room        int
	kept        []int
	taken, lost int
	polled      bool
	asked       int
}

func (p tape) device() api.Nic {
	return api.Nic{Has: slices.Clone(p.kept[p.taken:]), Room: p.room, Lost: p.lost, May: !p.polled, Due: p.polled, Asked: p.asked}
}

// step returns the tape behind an operation, and the packets that it answers.
func (p tape) step(o api.NicOp) (tape, []int, api.Errno) {
	switch o.Kind {
	case 1:
		if p.lost == 1<<40 || p.asked == 1<<40 {
			return p, nil, api.ErrFull
		}
		if p.taken+p.room > len(p.kept) {
			p.kept = append(slices.Clip(p.kept), o.N)
		} else {
			p.lost++
		}
		if !p.polled {
			p.polled = true
			p.asked++
		}
		return p, nil, api.OK
	case 2:
		if o.N <= 0 {
			return p, nil, api.ErrRange
		}
		if !p.polled {
			return p, nil, api.ErrAgain
		}
		var packets []int
		for left := o.N; left > 0; left-- {
			if p.taken == len(p.kept) {
				p.polled = false
				break
			}
			packets = append(packets, p.kept[p.taken])
			p.taken++
		}
		return p, packets, api.OK
	}
	return p, nil, api.ErrKind
}

// right says again, clause by clause, what the chapter asks of a device.
func right(n api.Nic) bool {
	if n.Room <= 0 || n.Room >= 65 {
		return false
	}
	if len(n.Has) > n.Room {
		return false
	}
	for _, count := range []int{n.Lost, n.Asked} {
		if count <= -1 || count >= 1<<40+1 {
			return false
		}
	}
	switch {
	case n.May && n.Due, !n.May && !n.Due:
		return false
	case n.May:
		return len(n.Has) == 0
	}
	return true
}

func in(packet int) api.NicOp { return api.NicOp{Kind: api.NicIn, N: packet} }
func poll(most int) api.NicOp { return api.NicOp{Kind: api.NicPoll, N: most} }

// idle is a device that may request an interrupt, and due one that is to be polled.
func idle(room, lost, asked int) api.Nic {
	return api.Nic{Room: room, Lost: lost, Asked: asked, May: true}
}

func due(room, lost, asked int, has ...int) api.Nic {
	return api.Nic{Has: has, Room: room, Lost: lost, Asked: asked, Due: true}
}

// full returns the tape of a device with so many packets, all of them different, which is to be polled.
func full(room, has, lost, asked int) tape {
	p := tape{room: room, lost: lost, asked: asked, polled: true}
	for n := range has {
		p.kept = append(p.kept, 10+n*7)
	}
	return p
}

// empty returns the tape of a device that may request an interrupt.
func empty(room, lost, asked int) tape {
	return tape{room: room, lost: lost, asked: asked}
}

// tapes are the devices of so much room: all numbers of packets, at both ends of what is counted.
func tapes(room int) []tape {
	var l []tape
	for _, lost := range counts() {
		for _, asked := range counts() {
			l = append(l, empty(room, lost, asked))
			for has := range room + 1 {
				l = append(l, full(room, has, lost, asked))
			}
		}
	}
	return l
}

func counts() []int {
	return []int{0, 1, 1<<40 - 1, 1 << 40}
}

// scatter returns a function whose results are below its argument, and the same in each run.
func scatter(seed uint32) func(n int) int {
	return func(n int) int {
		seed = seed*1664525 + 1013904223
		return int(seed>>8) % n
	}
}

// scattered returns n operations; of 30, so many are packets, and the others are mostly polls of at most so many.
func scattered(roll func(int) int, n, packets, most int) []api.NicOp {
	ops := make([]api.NicOp, n)
	for i := range ops {
		ops[i] = poll(1 + roll(most))
		if roll(30) < packets {
			ops[i] = in(roll(1<<20) - 1<<19)
		}
		switch roll(40) {
		case 0:
			ops[i].Kind = roll(9) - 3
		case 1:
			ops[i] = poll(-roll(3))
		}
	}
	return ops
}

// numbers are those around the ends of each range, and those that a narrower integer would bring into it.
func numbers() []int {
	return []int{
		math.MinInt, math.MinInt + 1, -1 << 40, -1 << 32, -1<<32 + 1, -1<<32 + 2, -256, -255, -254, -65, -64, -63, -3, -2, -1,
		0, 1, 2, 3, 4, 5, 31, 32, 33, 62, 63, 64, 65, 66, 127, 128, 129, 255, 256, 257, 258, 259, 320, 1<<16 + 1, 1<<16 + 2, math.MaxInt32, 1 << 32, 1<<32 + 1, 1<<32 + 2, 1<<32 + 64,
		1<<40 - 1, 1 << 40, 1<<40 + 1, 1 << 41, 1 << 62, math.MaxInt - 1, math.MaxInt,
	}
}

func same(a, b api.Nic) bool {
	return slices.Equal(a.Has, b.Has) && a.Room == b.Room && a.Lost == b.Lost && a.May == b.May && a.Due == b.Due && a.Asked == b.Asked
}

func isZero(n api.Nic) bool {
	return same(n, api.Nic{})
}

func copied(n api.Nic) api.Nic {
	n.Has = slices.Clone(n.Has)
	return n
}

func expectStep(t *testing.T, p tape, o api.NicOp) {
	t.Helper()
	n := p.device()
	after, packets, e := nic.Step(n, o)
	next, wantPackets, want := p.step(o)
	wantAfter := api.Nic{}
	if want == api.OK {
		wantAfter = next.device()
	}
	if !same(after, wantAfter) || !slices.Equal(packets, wantPackets) || e != want {
		t.Fatalf("Step(%v, %v) = %v, %v, %d, not %v, %v, %d", n, o, after, packets, e, wantAfter, wantPackets, want)
	}
	if !same(n, p.device()) {
		t.Fatalf("Step(%v, %v) changes its argument to %v", p.device(), o, n)
	}
	if e == api.OK && !nic.Right(after) {
		t.Fatalf("Step(%v, %v) = %v, which is not valid", n, o, after)
	}
}

// expectRight also looks at Step, which refuses what is not valid, whatever the operation.
func expectRight(t *testing.T, n api.Nic) {
	t.Helper()
	want := right(n)
	if nic.Right(n) != want {
		t.Fatalf("Right(%v) = %v", n, !want)
	}
	if want {
		return
	}
	for _, o := range []api.NicOp{{}, in(9), poll(1), poll(0), {Kind: 3}} {
		after, packets, e := nic.Step(n, o)
		if !isZero(after) || len(packets) != 0 || e != api.ErrForm {
			t.Fatalf("Step(%v, %v) = %v, %v, %d", n, o, after, packets, e)
		}
	}
}

// outcome is what Play returns.
type outcome struct {
	taken []int
	last  api.Nic
	e     api.Errno
}

func play(room int, ops []api.NicOp) outcome {
	taken, last, e := nic.Play(room, ops)
	return outcome{taken, last, e}
}

func (a outcome) is(b outcome) bool {
	return slices.Equal(a.taken, b.taken) && same(a.last, b.last) && a.e == b.e
}

func (a outcome) copied() outcome {
	return outcome{slices.Clone(a.taken), copied(a.last), a.e}
}

// modelled tells the outcome by the tape.
func modelled(room int, ops []api.NicOp) outcome {
	p := empty(room, 0, 0)
	for _, o := range ops {
		p, _, _ = p.step(o)
	}
	return outcome{p.kept[:p.taken], p.device(), api.OK}
}

func expectPlay(t *testing.T, room int, ops []api.NicOp) {
	t.Helper()
	got, want := play(room, ops), modelled(room, ops)
	if !got.is(want) {
		t.Fatalf("Play(%d, %v) = %v, not %v", room, ops, got, want)
	}
	if !nic.Right(got.last) {
		t.Fatalf("Play(%d, %v) leaves %v, which is not valid", room, ops, got.last)
	}
}

// T1

func TestNew(t *testing.T) {
	sizes := numbers()
	for n := range 70 {
		sizes = append(sizes, n)
	}
	for _, room := range sizes {
		n, e := nic.New(room)
		if room < 1 || room > 64 {
			if !isZero(n) || e != api.ErrRange {
				t.Errorf("New(%d) = %v, %d", room, n, e)
			}
			continue
		}
		if !same(n, api.Nic{Room: room, May: true}) || e != api.OK {
			t.Errorf("New(%d) = %v, %d", room, n, e)
		}
		if !nic.Right(n) {
			t.Errorf("New(%d) is not valid", room)
		}
	}
}

func TestRightByHand(t *testing.T) {
	most, many := make([]int, 64), make([]int, 65)
	for _, c := range []struct {
		n    api.Nic
		want bool
	}{
		{api.Nic{}, false},
		{api.Nic{May: true}, false},
		{api.Nic{Due: true}, false},
		{api.Nic{Room: 1}, false},
		{api.Nic{Room: 1, May: true}, true},
		{api.Nic{Room: 1, Due: true}, true},
		{api.Nic{Room: 1, May: true, Due: true}, false},
		{api.Nic{Room: 1, Has: []int{}, May: true}, true},
		{api.Nic{Room: 1, Has: []int{0}, May: true}, false},
		{api.Nic{Room: 1, Has: []int{0}}, false},
		{api.Nic{Room: 1, Has: []int{0}, May: true, Due: true}, false},
		{due(1, 0, 0, 0), true},
		{due(1, 0, 1, 7), true},
		{due(1, 0, 1, 7, 8), false},
		{due(2, 0, 1, 7, 8), true},
		{due(2, 0, 1, 7, 8, 9), false},
		{due(64, 0, 1, most...), true},
		{due(63, 0, 1, most...), false},
		{due(64, 0, 1, many...), false},
		{due(65, 0, 1, many...), false},
		{due(65, 0, 1), false},
		{idle(65, 0, 0), false},
		{idle(64, 0, 0), true},
		{idle(0, 0, 0), false},
		{idle(-1, 0, 0), false},
		{idle(1, 3, 0), true},
		{idle(1, 0, 3), true},
		{idle(1, 1<<40, 0), true},
		{idle(1, 0, 1<<40), true},
		{idle(1, 1<<40, 1<<40), true},
		{idle(1, 1<<40+1, 0), false},
		{idle(1, 0, 1<<40+1), false},
		{idle(1, -1, 0), false},
		{idle(1, 0, -1), false},
		{due(1, -1, 0, 4), false},
		{due(1, 0, -1, 4), false},
		{due(1, 1<<40, 1<<40, 4), true},
		{due(1, 1<<40+1, 1, 4), false},
		{due(1, 1, 1<<40+1, 4), false},
	} {
		if nic.Right(c.n) != c.want || right(c.n) != c.want {
			t.Errorf("Right(%v) = %v", c.n, nic.Right(c.n))
		}
		expectRight(t, c.n)
	}
}

// TestRightOfAllSizes: of each room with each number of packets, and with each pair of flags.
func TestRightOfAllSizes(t *testing.T) {
	rooms := numbers()
	for n := range 70 {
		rooms = append(rooms, n)
	}
	sizes := []int{127, 128, 129, 255, 256, 257, 300, 1 << 16, 1<<16 + 1}
	for n := range 70 {
		sizes = append(sizes, n)
	}
	for _, room := range rooms {
		for _, has := range sizes {
			n := api.Nic{Has: make([]int, has), Room: room, Lost: 2, Asked: 3}
			for flags := range 4 {
				n.May, n.Due = flags&1 > 0, flags&2 > 0
				if nic.Right(n) != right(n) {
					t.Errorf("Right of %d packets, room %d, %v, %v = %v", has, room, n.May, n.Due, nic.Right(n))
				}
			}
		}
	}
}

func TestRightOfAllCounts(t *testing.T) {
	for _, lost := range numbers() {
		for _, asked := range numbers() {
			for _, has := range [][]int{nil, {5}, {5, 6}, {5, 6, 7}} {
				for flags := range 4 {
					expectRight(t, api.Nic{Has: has, Room: 2, Lost: lost, Asked: asked, May: flags&1 > 0, Due: flags&2 > 0})
				}
			}
		}
	}
}

// TestRightOfAnyPackets: which packets they are does not matter.
func TestRightOfAnyPackets(t *testing.T) {
	for _, packet := range numbers() {
		for _, has := range []int{1, 2, 3} {
			n := due(2, 0, 1, slices.Repeat([]int{packet}, has)...)
			expectRight(t, n)
			n.May, n.Due = true, false
			expectRight(t, n)
		}
	}
}

// T2

func TestStepByHand(t *testing.T) {
	none := api.Nic{}
	n := due(3, 4, 5, 7, 8)
	for _, c := range []struct {
		n       api.Nic
		o       api.NicOp
		after   api.Nic
		packets []int
		e       api.Errno
	}{
		{idle(3, 4, 5), in(9), due(3, 4, 6, 9), nil, api.OK},
		{idle(3, 4, 5), poll(1), none, nil, api.ErrAgain},
		{due(3, 4, 5), in(9), due(3, 4, 5, 9), nil, api.OK},
		{due(3, 4, 5), poll(1), idle(3, 4, 5), nil, api.OK},
		{n, in(9), due(3, 4, 5, 7, 8, 9), nil, api.OK},
		{n, in(-9), due(3, 4, 5, 7, 8, -9), nil, api.OK},
		{n, poll(1), due(3, 4, 5, 8), []int{7}, api.OK},
		{n, poll(2), due(3, 4, 5), []int{7, 8}, api.OK},
		{n, poll(3), idle(3, 4, 5), []int{7, 8}, api.OK},
		{n, poll(math.MaxInt), idle(3, 4, 5), []int{7, 8}, api.OK},
		{n, poll(0), none, nil, api.ErrRange},
		{n, poll(-1), none, nil, api.ErrRange},
		{due(2, 4, 5, 7, 8), in(9), due(2, 5, 5, 7, 8), nil, api.OK},
		{due(1, 0, 1, 7), in(9), due(1, 1, 1, 7), nil, api.OK},
		{due(1, 0, 1, 7), poll(1), due(1, 0, 1), []int{7}, api.OK},
		{due(1, 0, 1, 7), poll(2), idle(1, 0, 1), []int{7}, api.OK},
		{n, api.NicOp{}, none, nil, api.ErrKind},
		{n, api.NicOp{Kind: 3, N: 1}, none, nil, api.ErrKind},
	} {
		after, packets, e := nic.Step(c.n, c.o)
		if !same(after, c.after) || !slices.Equal(packets, c.packets) || e != c.e {
			t.Errorf("Step(%v, %v) = %v, %v, %d", c.n, c.o, after, packets, e)
		}
	}
}

func TestStepFromAllSizes(t *testing.T) {
	for room := 1; room <= 64; room++ {
		for _, p := range tapes(room) {
			has := len(p.kept)
			for _, o := range []api.NicOp{{}, in(1000), {Kind: 3, N: 1}, {Kind: -1, N: 1}} {
				expectStep(t, p, o)
			}
			for _, most := range []int{-1, 0, 1, 2, 63, 64, 65, has - 1, has, has + 1, has + 2, room, room + 1, math.MaxInt} {
				expectStep(t, p, poll(most))
			}
		}
	}
}

// TestPollsOfAllSizes: of few packets or many, and of less, as many, or more than there are.
func TestPollsOfAllSizes(t *testing.T) {
	for _, room := range []int{1, 2, 3, 16, 63, 64} {
		for has := range room + 1 {
			for most := -2; most <= 70; most++ {
				expectStep(t, full(room, has, 3, 4), poll(most))
			}
		}
		for most := -2; most <= 70; most++ {
			expectStep(t, empty(room, 3, 4), poll(most))
		}
	}
}

// TestAnyNumber: all packets are alike, all numbers may be polled, and N does not matter for other kinds.
func TestAnyNumber(t *testing.T) {
	for _, p := range []tape{empty(1, 0, 0), full(1, 0, 0, 1), full(1, 1, 0, 1), empty(64, 1, 2), full(64, 3, 1, 2), full(64, 63, 1, 2), full(64, 64, 1, 2)} {
		for _, n := range numbers() {
			for kind := -1; kind <= 4; kind++ {
				expectStep(t, p, api.NicOp{Kind: kind, N: n})
			}
			if len(p.kept) > 0 {
				p.kept[0] = n
				expectStep(t, p, in(5))
				expectStep(t, p, poll(1))
				expectStep(t, p, poll(99))
			}
		}
	}
}

func TestStepOfFarKinds(t *testing.T) {
	for _, p := range []tape{empty(1, 0, 0), full(1, 1, 0, 1), full(5, 3, 4, 2), full(64, 64, 1<<40, 1<<40)} {
		for _, kind := range numbers() {
			for _, n := range []int{-1, 0, 1, 9} {
				expectStep(t, p, api.NicOp{Kind: kind, N: n})
			}
		}
	}
}

// TestFullCounts: no packet is accepted with a full count, not even one that would leave it as it is; polls go on.
func TestFullCounts(t *testing.T) {
	const most = 1 << 40
	for _, n := range []api.Nic{
		idle(2, most, 0), idle(2, 0, most), idle(2, most, most), due(2, most, 0), due(2, 0, most), due(2, most, most),
		due(2, most, 1, 7), due(2, 1, most, 7), due(2, most, 1, 7, 8), due(2, 1, most, 7, 8), due(2, most, most, 7, 8),
	} {
		after, packets, e := nic.Step(n, in(9))
		if !isZero(after) || len(packets) != 0 || e != api.ErrFull {
			t.Errorf("Step(%v, in) = %v, %v, %d", n, after, packets, e)
		}
		if n.May {
			continue
		}
		after, packets, e = nic.Step(n, poll(3))
		if !same(after, idle(2, n.Lost, n.Asked)) || !slices.Equal(packets, n.Has) || e != api.OK {
			t.Errorf("Step(%v, poll) = %v, %v, %d", n, after, packets, e)
		}
	}
	for _, c := range []struct{ n, after api.Nic }{
		{due(1, most-1, most-1, 7), due(1, most, most-1, 7)},
		{due(2, most-1, most-1, 7), due(2, most-1, most-1, 7, 9)},
		{idle(1, most-1, most-1), due(1, most-1, most, 9)},
	} {
		after, packets, e := nic.Step(c.n, in(9))
		if !same(after, c.after) || len(packets) != 0 || e != api.OK {
			t.Errorf("Step(%v, in) = %v, %v, %d", c.n, after, packets, e)
		}
	}
}

// TestOrderOfErrors: each operation has two errors, of which the first in the chapter's order is told.
func TestOrderOfErrors(t *testing.T) {
	const most = 1 << 40
	for _, c := range []struct {
		n    api.Nic
		o    api.NicOp
		want api.Errno
	}{
		{api.Nic{}, api.NicOp{}, api.ErrForm},
		{due(1, 0, 0, 1, 2), api.NicOp{Kind: 3}, api.ErrForm},
		{due(1, most+1, 0), in(1), api.ErrForm},
		{due(1, 0, most+1), in(1), api.ErrForm},
		{due(65, most, 0), in(1), api.ErrForm},
		{api.Nic{Room: 2}, poll(0), api.ErrForm},
		{api.Nic{Room: 2}, poll(1), api.ErrForm},
		{api.Nic{Room: 2, May: true, Has: []int{1}}, poll(1), api.ErrForm},
		{due(1, most, most), api.NicOp{}, api.ErrKind},
		{idle(1, most, most), api.NicOp{Kind: 3}, api.ErrKind},
		{idle(1, 0, 0), api.NicOp{Kind: 3, N: -1}, api.ErrKind},
		{idle(1, 0, 0), poll(0), api.ErrRange},
		{idle(1, most, most), poll(-5), api.ErrRange},
		{idle(1, most, most), poll(1), api.ErrAgain},
	} {
		after, packets, e := nic.Step(c.n, c.o)
		if !isZero(after) || len(packets) != 0 || e != c.want {
			t.Errorf("Step(%v, %v) = %v, %v, %d, not %d", c.n, c.o, after, packets, e, c.want)
		}
	}
}

// TestExample: with two packets polled with N = 2, the device may request an interrupt again only after one more poll.
func TestExample(t *testing.T) {
	ops := []api.NicOp{in(7), in(8), poll(2)}
	if got := play(4, ops); !got.is(outcome{[]int{7, 8}, due(4, 0, 1), api.OK}) {
		t.Errorf("Play = %v", got)
	}
	if got := play(4, append(ops, in(9))); !got.is(outcome{[]int{7, 8}, due(4, 0, 1, 9), api.OK}) {
		t.Errorf("a packet comes, and Play = %v", got)
	}
	ops = append(ops, poll(2))
	if got := play(4, ops); !got.is(outcome{[]int{7, 8}, idle(4, 0, 1), api.OK}) {
		t.Errorf("one more poll, and Play = %v", got)
	}
	if got := play(4, append(ops, in(9))); !got.is(outcome{[]int{7, 8}, due(4, 0, 2, 9), api.OK}) {
		t.Errorf("one more poll and a packet, and Play = %v", got)
	}
}

func TestPlayByHand(t *testing.T) {
	got := play(2, []api.NicOp{
		poll(1), in(1), in(2), in(3), {}, poll(0), poll(1), in(4), in(5), {Kind: 3, N: 2}, poll(9), poll(9), in(6), poll(-1), poll(1), in(7),
	})
	if !got.is(outcome{[]int{1, 2, 4, 6}, due(2, 2, 2, 7), api.OK}) {
		t.Errorf("Play = %v", got)
	}
}

// TestPlayErrors: its error is that of New, whatever the operations, and nothing comes with it.
func TestPlayErrors(t *testing.T) {
	rooms := numbers()
	for n := range 70 {
		rooms = append(rooms, n)
	}
	for _, room := range rooms {
		for _, ops := range [][]api.NicOp{nil, {}, {{}}, {in(5), in(6), poll(1), {Kind: 9}}} {
			got := play(room, ops)
			if room >= 1 && room <= 64 {
				expectPlay(t, room, ops)
			} else if !got.is(outcome{e: api.ErrRange}) {
				t.Errorf("Play(%d, %v) = %v", room, ops, got)
			}
		}
	}
}

func TestAllShortRuns(t *testing.T) {
	const most = 7
	for room := 1; room <= 4; room++ {
		var ops []api.NicOp
		var longer func()
		longer = func() {
			expectPlay(t, room, ops)
			if len(ops) == most {
				return
			}
			for _, o := range []api.NicOp{{}, in(50 + len(ops)), poll(0), poll(1), poll(2)} {
				ops = append(ops, o)
				longer()
				ops = ops[:len(ops)-1]
			}
		}
		longer()
	}
}

func TestLongRuns(t *testing.T) {
	for room := 1; room <= 64; room++ {
		for seed := range uint32(10) {
			for packets := 8; packets <= 28; packets += 4 {
				roll := scatter(seed)
				expectPlay(t, room, scattered(roll, 1+roll(400), packets, 1+room/2+int(seed)))
			}
		}
	}
}

// TestPlayIsManySteps: Play does what Step does to one device after another, with errors passed over.
func TestPlayIsManySteps(t *testing.T) {
	for _, room := range []int{1, 2, 3, 7, 20, 64} {
		for seed := range uint32(8) {
			ops := scattered(scatter(seed), 300, 12+int(seed)*2, 1+room)
			n, _ := nic.New(room)
			var taken []int
			for i, o := range ops {
				after, packets, e := nic.Step(n, o)
				if e == api.OK {
					n = after
					taken = append(taken, packets...)
				}
				if got := play(room, ops[:i+1]); !got.is(outcome{taken, n, api.OK}) {
					t.Fatalf("room %d, seed %d, operation %d: Play = %v, not %v, %v", room, seed, i, got, taken, n)
				}
			}
		}
	}
}

// TestErrorsHaveNoEffect: without the operations that have an error, all is the same.
func TestErrorsHaveNoEffect(t *testing.T) {
	for seed := range uint32(200) {
		room := 1 + int(seed)%9
		ops := scattered(scatter(seed), 200, 8+int(seed%20), 6)
		var kept []api.NicOp
		p := empty(room, 0, 0)
		for _, o := range ops {
			next, _, e := p.step(o)
			p = next
			if e == api.OK {
				kept = append(kept, o)
			}
		}
		got, again := play(room, ops), play(room, kept)
		if !again.is(got) || len(kept) == len(ops) {
			t.Errorf("Play(%d, %v) = %v, not %v", room, kept, again, got)
		}
	}
}

// TestPacketsAreTakenAsTheyCame: what was taken and what is there are the packets that came, in their order, without those that were lost.
func TestPacketsAreTakenAsTheyCame(t *testing.T) {
	for seed := range uint32(300) {
		room := 1 + int(seed)%64
		ops := scattered(scatter(seed), 400, 10+int(seed%19), 1+room/3)
		came := 0
		for i := range ops {
			if ops[i].Kind == api.NicIn {
				ops[i].N = came
				came++
			}
		}
		got := play(room, ops)
		all := slices.Concat(got.taken, got.last.Has)
		if len(all)+got.last.Lost != came {
			t.Errorf("Play(%d, %v) = %v: %d came", room, ops, got, came)
		}
		for i := 1; i < len(all); i++ {
			if all[i-1] >= all[i] {
				t.Errorf("Play(%d, %v) = %v: %d is ahead of %d", room, ops, got, all[i-1], all[i])
			}
		}
	}
}

// TestNoPacketIsStuck: whenever there is a packet, a poll is due, and a driver that polls until none is due has all of them.
func TestNoPacketIsStuck(t *testing.T) {
	for seed := range uint32(100) {
		room := 1 + int(seed)%64
		ops := scattered(scatter(seed), 200, 10+int(seed%19), 1+room/3)
		for n := range len(ops) + 1 {
			before := play(room, ops[:n])
			if len(before.last.Has) > 0 && !before.last.Due {
				t.Fatalf("Play(%d, %v) = %v", room, ops[:n], before)
			}
			want := slices.Concat(before.taken, before.last.Has)
			for _, most := range []int{1, 2, 7, 64, 65} {
				// So many polls are enough to find too few.
				polls := slices.Repeat([]api.NicOp{poll(most)}, room/most+1)
				after := play(room, slices.Concat(ops[:n], polls))
				if !after.is(outcome{want, idle(room, before.last.Lost, before.last.Asked), api.OK}) {
					t.Fatalf("%d operations, seed %d, then polls of %d: %v, not %v", n, seed, most, after, want)
				}
			}
		}
	}
}

// TestOneInterruptUntilItIsEmpty: however many packets come, only the first one asks, until a poll has found too few.
func TestOneInterruptUntilItIsEmpty(t *testing.T) {
	for _, room := range []int{1, 2, 5, 64} {
		for packets := 1; packets <= 70; packets++ {
			asked := 0
			n, _ := nic.New(room)
			do := func(o api.NicOp, isDue bool) {
				t.Helper()
				after, _, e := nic.Step(n, o)
				if e != api.OK || after.Due != isDue || after.May == isDue || after.Asked != asked {
					t.Fatalf("room %d, %d packets, Step(%v, %v) = %v, %d", room, packets, n, o, after, e)
				}
				n = after
			}
			for range 3 {
				asked++
				for range packets {
					do(in(3), true)
				}
				do(poll(min(room, packets)), true)
				do(in(4), true)
				do(poll(1), true)
				do(poll(1), false)
			}
		}
	}
}

// Z1

// TestManyOperations: MaxOps is no limit for operations, nor for packets.
func TestManyOperations(t *testing.T) {
	const rounds = 200_000
	for _, room := range []int{1, 2, 64} {
		var ops []api.NicOp
		var taken []int
		for i := range rounds {
			ops = append(ops, in(i), poll(1), poll(1))
			taken = append(taken, i)
		}
		if got := play(room, ops); !got.is(outcome{taken, idle(room, 0, rounds), api.OK}) {
			t.Errorf("room %d, %d rounds: %d taken, %v, %d", room, rounds, len(got.taken), got.last, got.e)
		}
		got := play(room, slices.Repeat([]api.NicOp{in(3)}, rounds))
		if !got.is(outcome{nil, due(room, rounds-room, 1, slices.Repeat([]int{3}, room)...), api.OK}) {
			t.Errorf("room %d, %d packets: %d taken, %v, %d", room, rounds, len(got.taken), got.last, got.e)
		}
	}
	for _, n := range []int{399, 400, 401, 65536, 65537} {
		for _, o := range []api.NicOp{{}, poll(1), {Kind: 3}} {
			expectPlay(t, 5, slices.Repeat([]api.NicOp{o}, n))
		}
		got := play(5, slices.Repeat([]api.NicOp{in(1), poll(2)}, n))
		if !got.is(outcome{slices.Repeat([]int{1}, n), idle(5, 0, n), api.OK}) {
			t.Errorf("%d packets, each one polled: %d taken, %v, %d", n, len(got.taken), got.last, got.e)
		}
	}
}

func TestNothingIsKept(t *testing.T) {
	ops := scattered(scatter(3), 300, 20, 4)
	first := play(9, ops)
	play(9, []api.NicOp{in(1), in(2), poll(1), in(3)})
	nic.Step(full(9, 3, 8, 5).device(), poll(2))
	if again := play(9, ops); !again.is(first) {
		t.Errorf("Play = %v, and then %v", first, again)
	}
	if got := play(9, []api.NicOp{poll(1), poll(2)}); !got.is(outcome{last: idle(9, 0, 0)}) {
		t.Errorf("what an earlier call left is there: %v", got)
	}
}

// Z2

// fill writes to all memory that a slice can reach.
func fill(l []int, x int) {
	l = l[:cap(l)]
	for i := range l {
		l[i] = x
	}
}

// TestStepLeavesItsArgument: neither what the caller does to its device later reaches the results, nor the other way round, and what is behind the packets stays.
func TestStepLeavesItsArgument(t *testing.T) {
	for _, room := range []int{1, 2, 5, 63, 64} {
		for _, p := range tapes(room) {
			for _, o := range []api.NicOp{{}, in(66), poll(1), poll(2), poll(room), poll(99)} {
				memory := slices.Concat(p.device().Has, slices.Repeat([]int{251}, 70))
				whole := slices.Clone(memory)
				n := p.device()
				n.Has = memory[:len(n.Has)]
				after, packets, e := nic.Step(n, o)
				kept, keptPackets := copied(after), slices.Clone(packets)
				if !slices.Equal(memory, whole) {
					t.Fatalf("Step(%v, %v) changes the packets, or what is behind them", p.device(), o)
				}
				fill(memory, 1)
				if !same(after, kept) || !slices.Equal(packets, keptPackets) {
					t.Fatalf("the results of Step(%v, %v) are in the caller's memory", p.device(), o)
				}
				copy(memory, whole)
				fill(packets, 2)
				if !same(after, kept) {
					t.Fatalf("the results of Step(%v, %v) share memory", p.device(), o)
				}
				fill(after.Has, 3)
				if !slices.Equal(memory, whole) {
					t.Fatalf("the argument of Step(%v, %v) is in its results", p.device(), o)
				}
				if next, wantPackets, want := p.step(o); e != want || want == api.OK && (!same(kept, next.device()) || !slices.Equal(keptPackets, wantPackets)) {
					t.Fatalf("Step(%v, %v) = %v, %v, %d", p.device(), o, kept, keptPackets, e)
				}
			}
		}
	}
}

// TestPacketsBehindAreNotRead: only the length of the packets counts, not what there is room for.
func TestPacketsBehindAreNotRead(t *testing.T) {
	for _, has := range []int{0, 1, 2, 3} {
		n := due(2, 0, 1, make([]int, has, 200)...)
		fill(n.Has[has:], 9)
		if want := has <= 2; nic.Right(n) != want {
			t.Errorf("Right of %d packets = %v", has, !want)
		}
		n.May, n.Due = true, false
		if want := has == 0; nic.Right(n) != want {
			t.Errorf("Right of %d packets, and it may ask = %v", has, !want)
		}
		expectRight(t, n)
	}
}

// TestTwoStepsFromOneDevice: the results of two calls share no memory.
func TestTwoStepsFromOneDevice(t *testing.T) {
	ops := []api.NicOp{in(1), in(2), poll(1), poll(2), poll(9)}
	for _, p := range []tape{empty(1, 0, 0), full(1, 1, 0, 1), full(5, 3, 0, 1), full(5, 5, 2, 1), full(64, 63, 0, 1), full(64, 64, 9, 1)} {
		for _, first := range ops {
			for _, second := range ops {
				for _, third := range ops {
					n, _, _ := nic.Step(p.device(), first)
					kept := copied(n)
					a, packets, _ := nic.Step(n, second)
					b, others, _ := nic.Step(n, third)
					keptB, keptOthers := copied(b), slices.Clone(others)
					fill(a.Has, 91)
					fill(packets, 92)
					if !same(n, kept) || !same(b, keptB) || !slices.Equal(others, keptOthers) {
						t.Fatalf("%v, then %v and %v: %v and %v, not %v and %v", first, second, third, n, b, kept, keptB)
					}
				}
			}
		}
	}
}

// TestPlayLeavesItsArgument: it does not change, what is behind it does not matter, and the results are in memory of their own.
func TestPlayLeavesItsArgument(t *testing.T) {
	for n := range 120 {
		room := 1 + n%9
		memory := scattered(scatter(uint32(n)), n+9, 20, 5)
		memory[n] = in(55)
		whole := slices.Clone(memory)
		got := play(room, memory[:n])
		want := play(room, slices.Clip(slices.Clone(memory[:n]))).copied()
		if !got.is(want) {
			t.Fatalf("what is behind %d operations matters", n)
		}
		if !slices.Equal(memory, whole) {
			t.Fatalf("%d operations, or what is behind them, have changed", n)
		}
		clear(memory)
		if !got.is(want) {
			t.Fatalf("the results of %d operations are in the caller's memory", n)
		}
		fill(got.taken, 98)
		if !same(got.last, want.last) {
			t.Fatalf("the results of %d operations share memory", n)
		}
		fill(got.last.Has, 97)
		if again := play(room, whole[:n]); !again.is(want) {
			t.Fatalf("%d operations: what is done to the results matters", n)
		}
	}
}

// Z3

func TestNilAndEmpty(t *testing.T) {
	for _, has := range [][]int{nil, {}} {
		for _, n := range []api.Nic{idle(1, 0, 0), due(1, 0, 1), {Room: 1}, {}} {
			n.Has = has
			expectRight(t, n)
		}
		n := due(1, 0, 1)
		n.Has = has
		if after, packets, e := nic.Step(n, poll(1)); !same(after, idle(1, 0, 1)) || len(packets) != 0 || e != api.OK {
			t.Errorf("Step(%#v, poll) = %v, %v, %d", n, after, packets, e)
		}
		if after, packets, e := nic.Step(n, in(4)); !same(after, due(1, 0, 1, 4)) || len(packets) != 0 || e != api.OK {
			t.Errorf("Step(%#v, in) = %v, %v, %d", n, after, packets, e)
		}
	}
	for _, ops := range [][]api.NicOp{nil, {}} {
		for room := 1; room <= 64; room++ {
			if got := play(room, ops); !got.is(outcome{last: idle(room, 0, 0)}) {
				t.Errorf("Play(%d, %#v) = %v", room, ops, got)
			}
		}
	}
}
