package line_test

import (
	"math"
	"slices"
	"testing"

	"corebell/api"
	"corebell/line"
)

// right says again, clause by clause, what the chapter asks of one line.
func right(p api.Pin) bool {
	switch {
	case p.Core < 0 || p.Core > 7:
		return false
	case p.Vec < 32 || p.Vec > 255:
		return false
	case p.Level && p.Kept:
		return false
	case !p.Level && p.Sent:
		return false
	case p.Kept && !p.Masked:
		return false
	case p.Level && p.Up && !p.Masked && !p.Sent:
		return false
	}
	return true
}

// The flags of a line, as bits of a number.
const (
	up = 1 << iota
	masked
	kept
	sent
	level
	flagsEnd
)

func pinOf(flags int) api.Pin {
	return api.Pin{
		Core: 3, Vec: 77, Level: flags&level != 0, Masked: flags&masked != 0,
		Up: flags&up != 0, Kept: flags&kept != 0, Sent: flags&sent != 0,
	}
}

// row is a state of a line, written as flags, an operation, the state behind it, and whether the line sends.
type row struct {
	from, kind, to int
	sends          bool
}

// rows are all transitions of the valid states, written out by hand.
func rows() []row {
	const u, m, k, s, l = up, masked, kept, sent, level
	return []row{
		// By its edge.
		{0, api.PinUp, u, true},
		{0, api.PinDown, 0, false},
		{0, api.PinMask, m, false},
		{0, api.PinUnmask, 0, false},
		{0, api.PinEnd, 0, false},
		{u, api.PinUp, u, false},
		{u, api.PinDown, 0, false},
		{u, api.PinMask, u | m, false},
		{u, api.PinUnmask, u, false},
		{u, api.PinEnd, u, false},
		{m, api.PinUp, u | m | k, false},
		{m, api.PinDown, m, false},
		{m, api.PinMask, m, false},
		{m, api.PinUnmask, 0, false},
		{m, api.PinEnd, m, false},
		{u | m, api.PinUp, u | m, false},
		{u | m, api.PinDown, m, false},
		{u | m, api.PinMask, u | m, false},
		{u | m, api.PinUnmask, u, false},
		{u | m, api.PinEnd, u | m, false},
		{m | k, api.PinUp, u | m | k, false},
		{m | k, api.PinDown, m | k, false},
		{m | k, api.PinMask, m | k, false},
		{m | k, api.PinUnmask, 0, true},
		{m | k, api.PinEnd, m | k, false},
		{u | m | k, api.PinUp, u | m | k, false},
		{u | m | k, api.PinDown, m | k, false},
		{u | m | k, api.PinMask, u | m | k, false},
		{u | m | k, api.PinUnmask, u, true},
		{u | m | k, api.PinEnd, u | m | k, false},
		// By its level.
		{l, api.PinUp, l | u | s, true},
		{l, api.PinDown, l, false},
		{l, api.PinMask, l | m, false},
		{l, api.PinUnmask, l, false},
		{l, api.PinEnd, l, false},
		{l | s, api.PinUp, l | u | s, false},
		{l | s, api.PinDown, l | s, false},
		{l | s, api.PinMask, l | m | s, false},
		{l | s, api.PinUnmask, l | s, false},
		{l | s, api.PinEnd, l, false},
		{l | u | s, api.PinUp, l | u | s, false},
		{l | u | s, api.PinDown, l | s, false},
		{l | u | s, api.PinMask, l | u | m | s, false},
		{l | u | s, api.PinUnmask, l | u | s, false},
		{l | u | s, api.PinEnd, l | u | s, true},
		{l | m, api.PinUp, l | u | m, false},
		{l | m, api.PinDown, l | m, false},
		{l | m, api.PinMask, l | m, false},
		{l | m, api.PinUnmask, l, false},
		{l | m, api.PinEnd, l | m, false},
		{l | u | m, api.PinUp, l | u | m, false},
		{l | u | m, api.PinDown, l | m, false},
		{l | u | m, api.PinMask, l | u | m, false},
		{l | u | m, api.PinUnmask, l | u | s, true},
		{l | u | m, api.PinEnd, l | u | m, false},
		{l | m | s, api.PinUp, l | u | m | s, false},
		{l | m | s, api.PinDown, l | m | s, false},
		{l | m | s, api.PinMask, l | m | s, false},
		{l | m | s, api.PinUnmask, l | s, false},
		{l | m | s, api.PinEnd, l | m, false},
		{l | u | m | s, api.PinUp, l | u | m | s, false},
		{l | u | m | s, api.PinDown, l | m | s, false},
		{l | u | m | s, api.PinMask, l | u | m | s, false},
		{l | u | m | s, api.PinUnmask, l | u | s, false},
		{l | u | m | s, api.PinEnd, l | u | m, false},
	}
}

// table finds a row by the line's state and the kind.
type table map[[2]int]row

func tableOf(l []row) table {
	t := table{}
	for _, r := range l {
		t[[2]int{r.from, r.kind}] = r
	}
	return t
}

func flagsOf(p api.Pin) int {
	flags := 0
	for flag, on := range map[int]bool{up: p.Up, masked: p.Masked, kept: p.Kept, sent: p.Sent, level: p.Level} {
		if on {
			flags |= flag
		}
	}
	return flags
}

// step looks the operation up; l must be valid.
func (t table) step(l []api.Pin, o api.PinOp) ([]api.Pin, []api.Sent, api.Errno) {
	if o.Kind < 1 || o.Kind > 5 {
		return nil, nil, api.ErrKind
	}
	if o.Pin < 0 || o.Pin >= len(l) {
		return nil, nil, api.ErrNone
	}
	p := l[o.Pin]
	r := t[[2]int{flagsOf(p), o.Kind}]
	after := append([]api.Pin(nil), l...)
	after[o.Pin] = pinOf(r.to)
	after[o.Pin].Core, after[o.Pin].Vec = p.Core, p.Vec
	if !r.sends {
		return after, nil, api.OK
	}
	return after, []api.Sent{{Pin: o.Pin, Core: p.Core, Vec: p.Vec}}, api.OK
}

// numbers are those around the ends of each range, and those that a narrower integer or a remainder would bring into it.
func numbers() []int {
	return []int{
		math.MinInt, math.MinInt + 40, -1 << 32, -1<<32 + 1, -256, -216, -24, -8, -5, -2, -1,
		0, 1, 2, 3, 4, 5, 6, 7, 8, 9, 15, 16, 23, 24, 25, 30, 31, 32, 33, 254, 255,
		256, 257, 296, math.MaxInt32, 1 << 32, 1<<32 + 1, 1<<32 + 40, 1 << 62, math.MaxInt - 1, math.MaxInt,
	}
}

func same(a []api.Pin, b []api.Sent, e api.Errno, wantPins []api.Pin, wantSent []api.Sent, want api.Errno) bool {
	return slices.Equal(a, wantPins) && slices.Equal(b, wantSent) && e == want
}

// C1

func TestRightByFlags(t *testing.T) {
	valid := 0
	for flags := range flagsEnd {
		p := pinOf(flags)
		if right(p) {
			valid++
		}
		for _, l := range [][]api.Pin{{p}, {{Vec: 32}, p}, {p, {Vec: 32}}, {{Vec: 40}, p, {Vec: 50, Level: true}}} {
			if got := line.Right(l); got != right(p) {
				t.Errorf("Right(%v) = %v", l, got)
			}
		}
	}
	if valid*5 != len(rows()) {
		t.Errorf("there are %d valid states, and %d rows", valid, len(rows()))
	}
}

func TestRightByNumbers(t *testing.T) {
	for flags := range flagsEnd {
		for _, n := range numbers() {
			p := pinOf(flags)
			p.Core = n
			if got := line.Right([]api.Pin{p}); got != right(p) {
				t.Errorf("Right(%v) = %v", p, got)
			}
			p = pinOf(flags)
			p.Vec = n
			if got := line.Right([]api.Pin{{Vec: 200}, p}); got != right(p) {
				t.Errorf("Right(%v) = %v", p, got)
			}
		}
	}
}

func TestRightByEveryVector(t *testing.T) {
	for v := -300; v < 600; v++ {
		if got, want := line.Right([]api.Pin{{Vec: v}}), v >= 32 && v <= 255; got != want {
			t.Errorf("with vector %d, Right is %v", v, got)
		}
	}
}

func TestRightByLength(t *testing.T) {
	for n := range 60 {
		l := make([]api.Pin, n)
		for i := range l {
			l[i] = api.Pin{Core: i % 8, Vec: 32 + i, Level: i%2 == 0}
		}
		if got, want := line.Right(l), n <= 24; got != want {
			t.Errorf("with %d lines, Right is %v", n, got)
		}
		// Each line counts, the first and the last as well.
		for i := range l {
			l[i].Vec = 31
			if line.Right(l) {
				t.Errorf("with line %d of %d invalid, Right is true", i, n)
			}
			l[i].Vec = 32
		}
	}
	if !line.Right(nil) {
		t.Error("without lines, Right is false")
	}
}

// Lines may share a core and a vector: the chapter does not exclude it.
func TestRightOfEqualLines(t *testing.T) {
	if !line.Right([]api.Pin{{Vec: 40}, {Vec: 40}, {Vec: 40, Level: true}}) {
		t.Error("with three lines of one vector, Right is false")
	}
}

// C2

func TestChapterExample(t *testing.T) {
	l := []api.Pin{{Core: 2, Vec: 40, Masked: true}}
	ops := []api.PinOp{{Kind: api.PinUp}, {Kind: api.PinUnmask}, {Kind: api.PinUnmask}, {Kind: api.PinMask}, {Kind: api.PinUnmask}}
	after, sent, err := line.Play(l, ops)
	want := []api.Sent{{Pin: 0, Core: 2, Vec: 40}}
	if !same(after, sent, err, []api.Pin{{Core: 2, Vec: 40, Up: true}}, want, api.OK) {
		t.Errorf("%v, %v, %d", after, sent, err)
	}
	after, sent, err = line.Play(l, ops[:1])
	if !same(after, sent, err, []api.Pin{{Core: 2, Vec: 40, Masked: true, Up: true, Kept: true}}, nil, api.OK) {
		t.Errorf("while it is masked: %v, %v, %d", after, sent, err)
	}
}

func TestStepByRows(t *testing.T) {
	for _, r := range rows() {
		if !right(pinOf(r.from)) || !right(pinOf(r.to)) {
			t.Fatalf("row %v has a state that is not valid", r)
		}
		for at, l := range [][]api.Pin{{pinOf(r.from)}, {{Vec: 40, Masked: true, Kept: true}, pinOf(r.from), {Vec: 50, Level: true, Up: true, Sent: true}}} {
			want := slices.Clone(l)
			want[at] = pinOf(r.to)
			var wantSent []api.Sent
			if r.sends {
				wantSent = []api.Sent{{Pin: at, Core: 3, Vec: 77}}
			}
			o := api.PinOp{Kind: r.kind, Pin: at}
			if got, sent, err := line.Step(l, o); !same(got, sent, err, want, wantSent, api.OK) {
				t.Errorf("Step(%v, %v) = %v, %v, %d, not %v, %v", l, o, got, sent, err, want, wantSent)
			}
			if got, sent, err := line.Play(l, []api.PinOp{o}); !same(got, sent, err, want, wantSent, api.OK) {
				t.Errorf("Play(%v, %v) = %v, %v, %d, not %v, %v", l, o, got, sent, err, want, wantSent)
			}
		}
	}
}

func TestEveryCoreAndVectorIsSent(t *testing.T) {
	for core := range 8 {
		for vec := 32; vec < 256; vec++ {
			l := make([]api.Pin, 1+(core+vec)%24)
			for i := range l {
				l[i] = api.Pin{Vec: 32, Level: i%2 == 1}
			}
			last := len(l) - 1
			l[last].Core, l[last].Vec = core, vec
			_, sent, err := line.Step(l, api.PinOp{Kind: api.PinUp, Pin: last})
			if want := []api.Sent{{Pin: last, Core: core, Vec: vec}}; !slices.Equal(sent, want) || err != api.OK {
				t.Errorf("%v, %d comes, not %v", sent, err, want)
			}
		}
	}
}

func TestErrorsInOrder(t *testing.T) {
	wrong := [][]api.Pin{
		{{Vec: 31}}, {{Vec: 256}}, {{Vec: 40, Core: 8}}, {{Vec: 40, Core: -1}}, {{Vec: 40}, {}}, make([]api.Pin, 25),
		{{Vec: 40, Kept: true}}, {{Vec: 40, Sent: true}}, {{Vec: 40, Level: true, Up: true}}, {{Vec: 40, Level: true, Masked: true, Kept: true}},
	}
	valid := [][]api.Pin{nil, {}, {{Vec: 40}}, {{Vec: 40}, {Vec: 50, Level: true, Masked: true, Up: true}}}
	table := tableOf(rows())
	for _, kind := range numbers() {
		for _, pin := range numbers() {
			o := api.PinOp{Kind: kind, Pin: pin}
			for _, l := range wrong {
				if got, sent, err := line.Step(l, o); !same(got, sent, err, nil, nil, api.ErrForm) {
					t.Errorf("Step(%v, %v) = %v, %v, %d", l, o, got, sent, err)
				}
				if got, sent, err := line.Play(l, []api.PinOp{o}); !same(got, sent, err, nil, nil, api.ErrForm) {
					t.Errorf("Play(%v, %v) = %v, %v, %d", l, o, got, sent, err)
				}
			}
			for _, l := range valid {
				want, wantSent, wantErr := table.step(l, o)
				if got, sent, err := line.Step(l, o); !same(got, sent, err, want, wantSent, wantErr) {
					t.Errorf("Step(%v, %v) = %v, %v, %d, not %v, %v, %d", l, o, got, sent, err, want, wantSent, wantErr)
				}
				if wantErr != api.OK {
					want = l
				}
				if got, sent, err := line.Play(l, []api.PinOp{o}); !same(got, sent, err, want, wantSent, api.OK) {
					t.Errorf("Play(%v, %v) = %v, %v, %d, not %v, %v", l, o, got, sent, err, want, wantSent)
				}
			}
		}
	}
}

func TestPlayOfNothing(t *testing.T) {
	l := []api.Pin{{Vec: 40, Masked: true, Kept: true}, {Vec: 255, Core: 7, Level: true, Up: true, Sent: true}}
	for _, ops := range [][]api.PinOp{nil, {}} {
		if got, sent, err := line.Play(l, ops); !same(got, sent, err, l, nil, api.OK) {
			t.Errorf("Play(%v, none) = %v, %v, %d", l, got, sent, err)
		}
		if got, sent, err := line.Play([]api.Pin{{Vec: 31}}, ops); !same(got, sent, err, nil, nil, api.ErrForm) {
			t.Errorf("of an invalid line, Play gives %v, %v, %d", got, sent, err)
		}
		if got, sent, err := line.Play(nil, ops); !same(got, sent, err, nil, nil, api.OK) {
			t.Errorf("of no lines, Play gives %v, %v, %d", got, sent, err)
		}
	}
}

// scatter returns a source of numbers below n without a pattern; the same ones for the same seed.
func scatter(seed uint32) func(n int) int {
	return func(n int) int {
		seed = seed*1664525 + 1013904223
		return int(seed>>8) % n
	}
}

func scatteredLines(next func(n int) int) []api.Pin {
	var l []api.Pin
	count := 1 + next(24)
	for len(l) < count {
		p := pinOf(next(flagsEnd))
		p.Core, p.Vec = next(8), 32+next(224)
		if right(p) {
			l = append(l, p)
		}
	}
	return l
}

// Long runs of operations, some of them with errors, against the rows: step by step, and as a whole.
func TestPlayInSequence(t *testing.T) {
	table := tableOf(rows())
	for seed := range uint32(60) {
		next := scatter(seed)
		start := scatteredLines(next)
		now := slices.Clone(start)
		var ops []api.PinOp
		var all []api.Sent
		for range 1000 {
			o := api.PinOp{Kind: next(7), Pin: next(len(start)+2) - 1}
			ops = append(ops, o)
			want, wantSent, wantErr := table.step(now, o)
			if got, sent, err := line.Step(now, o); !same(got, sent, err, want, wantSent, wantErr) {
				t.Fatalf("Step(%v, %v) = %v, %v, %d, not %v, %v, %d", now, o, got, sent, err, want, wantSent, wantErr)
			}
			if wantErr == api.OK {
				now, all = want, append(all, wantSent...)
			}
			if !line.Right(now) {
				t.Fatalf("behind %v, %v is not valid", o, now)
			}
		}
		if got, sent, err := line.Play(start, ops); !same(got, sent, err, now, all, api.OK) {
			t.Errorf("with seed %d, Play gives %v, %v, %d, not %v, %v", seed, got, sent, err, now, all)
		}
	}
}

// A level that stays high is sent again at each end, and no longer once it is low.
func TestLevelIsSentAgain(t *testing.T) {
	ops := []api.PinOp{{Kind: api.PinUp}}
	for range 10 {
		ops = append(ops, api.PinOp{Kind: api.PinEnd})
	}
	ops = append(ops, api.PinOp{Kind: api.PinDown}, api.PinOp{Kind: api.PinEnd}, api.PinOp{Kind: api.PinEnd})
	after, sent, err := line.Play([]api.Pin{{Vec: 99, Level: true}}, ops)
	if len(sent) != 11 || err != api.OK || !slices.Equal(after, []api.Pin{{Vec: 99, Level: true}}) {
		t.Errorf("%v, %v, %d", after, sent, err)
	}
}

// Several edges that come while a line is masked are sent as one, and others come through one by one.
func TestEdgesAreNotLost(t *testing.T) {
	pulse := []api.PinOp{{Kind: api.PinUp}, {Kind: api.PinDown}}
	ops := slices.Concat(pulse, pulse, []api.PinOp{{Kind: api.PinMask}}, pulse, pulse, pulse, []api.PinOp{{Kind: api.PinUnmask}}, pulse)
	for n, want := range []int{0, 1, 1, 2, 2, 2, 2, 2, 2, 2, 2, 2, 3, 4, 4} {
		if _, sent, err := line.Play([]api.Pin{{Vec: 99}}, ops[:n]); len(sent) != want || err != api.OK {
			t.Errorf("behind %d operations, %v was sent, %d", n, sent, err)
		}
	}
}

// Z2

func TestArgumentsAndResultsAreTheCallers(t *testing.T) {
	room := []api.Pin{{Vec: 40}, {Vec: 50, Level: true}, {Vec: 60, Core: 5}, {Vec: 61}}
	moreOps := []api.PinOp{{Kind: api.PinUp}, {Kind: api.PinUp, Pin: 1}, {Kind: api.PinDown}, {Kind: api.PinUp}}
	keptRoom, keptOps := slices.Clone(room), slices.Clone(moreOps)
	l, ops := room[:2], moreOps[:2]
	if _, _, err := line.Step(l, api.PinOp{Kind: api.PinUp, Pin: 2}); err != api.ErrNone {
		t.Errorf("a line in the spare room gives error %d", err)
	}
	stepped, _, _ := line.Step(l, ops[0])
	played, sent, _ := line.Play(l, ops)
	idle, _, _ := line.Play(l, nil)
	if len(stepped) != 2 || len(played) != 2 || len(idle) != 2 || len(sent) != 2 {
		t.Fatalf("%v, %v, %v, %v", stepped, played, idle, sent)
	}
	for _, result := range [][]api.Pin{stepped, played, idle} {
		result[0], result[1] = api.Pin{Vec: 1}, api.Pin{Vec: 2}
		_ = append(result, api.Pin{Vec: 3})
	}
	if !slices.Equal(room, keptRoom) || !slices.Equal(moreOps, keptOps) {
		t.Errorf("the arguments are %v and %v now", room, moreOps)
	}
	again, _, _ := line.Play(l, ops)
	l[0].Vec, ops[0].Kind = 200, 0
	if want := []api.Pin{{Vec: 40, Up: true}, {Vec: 50, Level: true, Up: true, Sent: true}}; !slices.Equal(again, want) {
		t.Errorf("a result is %v, not %v, when the arguments have changed", again, want)
	}
}
