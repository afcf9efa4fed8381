package bits_test

import (
	"math"
	"slices"
	"testing"

	"corebell/api"
	"corebell/bits"
)

const full = math.MaxUint64

// model is a set kept in another way than the program keeps it.
type model [api.Vectors]bool

func modelOf(numbers ...int) model {
	var m model
	for _, n := range numbers {
		m[n] = true
	}
	return m
}

// packed writes a model down as the chapter says: bit n mod 64 of part n / 64.
func (m model) packed() api.Bits {
	var b api.Bits
	for n, in := range m {
		if in {
			b[n/64] += uint64(1) << (n % 64)
		}
	}
	return b
}

func (m model) numbers() []int {
	var l []int
	for n, in := range m {
		if in {
			l = append(l, n)
		}
	}
	return l
}

func (m model) has(n int) bool { return n >= 0 && n < len(m) && m[n] }

func (m model) set(n int, in bool) model {
	if n >= 0 && n < len(m) {
		m[n] = in
	}
	return m
}

func (m model) next(from int) int {
	for n, in := range m {
		if in && n >= from {
			return n
		}
	}
	return -1
}

func (m model) top() int {
	for n := len(m) - 1; n >= 0; n-- {
		if m[n] {
			return n
		}
	}
	return -1
}

// every returns the set of shift, shift + step, and so on.
func every(step, shift int) model {
	var m model
	for n := shift; n < len(m); n += step {
		m[n] = true
	}
	return m
}

// scattered returns a set without a pattern; the same one for the same seed.
func scattered(seed uint32) model {
	var m model
	for n := range m {
		seed = seed*1664525 + 1013904223
		m[n] = seed>>29 == 0
	}
	return m
}

func models() []model {
	l := []model{
		{}, every(1, 0), every(2, 0), every(2, 1), every(64, 0), every(64, 63), every(1, 64), every(1, 255),
		modelOf(3, 200), modelOf(0, 255), modelOf(63, 64), modelOf(127, 128), modelOf(191, 192), modelOf(0, 3, 191, 200),
	}
	for n := range api.Vectors {
		l = append(l, modelOf(n))
	}
	for seed := range uint32(8) {
		l = append(l, scattered(seed))
	}
	return l
}

// numbers are those of the range, those beside it, and those that a narrower integer or a remainder would bring into it.
func numbers() []int {
	l := []int{
		math.MinInt, math.MinInt + 1, math.MinInt + 64, math.MinInt32, -1 << 62, -1 << 32, -1<<32 + 3, -513, -512, -257, -256, -255, -65, -64, -63, -2, -1,
		256, 257, 319, 320, 511, 512, 1 << 16, math.MaxInt32, 1 << 32, 1<<32 + 3, 1<<32 + 200, 1 << 62, math.MaxInt - 63, math.MaxInt - 1, math.MaxInt,
	}
	for n := range api.Vectors {
		l = append(l, n)
	}
	return l
}

func TestChapterExample(t *testing.T) {
	want := api.Bits{8, 0, 0, 256}
	if got := bits.With(bits.With(api.Bits{}, 3), 200); got != want {
		t.Errorf("3 and 200 are %v, not %v", got, want)
	}
	if got := bits.Either(bits.With(api.Bits{}, 3), bits.With(api.Bits{}, 200)); got != want {
		t.Errorf("either of 3 and 200 is %v, not %v", got, want)
	}
	if got := bits.All(want); !slices.Equal(got, []int{3, 200}) {
		t.Errorf("all of %v are %v", want, got)
	}
}

func TestPartsOfNumbers(t *testing.T) {
	for _, c := range []struct {
		n    int
		want api.Bits
	}{
		{0, api.Bits{1}},
		{63, api.Bits{1 << 63}},
		{64, api.Bits{0, 1}},
		{127, api.Bits{0, 1 << 63}},
		{128, api.Bits{0, 0, 1}},
		{191, api.Bits{0, 0, 1 << 63}},
		{192, api.Bits{0, 0, 0, 1}},
		{255, api.Bits{0, 0, 0, 1 << 63}},
	} {
		if got := bits.With(api.Bits{}, c.n); got != c.want {
			t.Errorf("With({}, %d) = %v, not %v", c.n, got, c.want)
		}
		if !bits.Has(c.want, c.n) {
			t.Errorf("Has(%v, %d) is false", c.want, c.n)
		}
		if got := bits.Without(c.want, c.n); got != (api.Bits{}) {
			t.Errorf("Without(%v, %d) = %v", c.want, c.n, got)
		}
	}
}

func TestHas(t *testing.T) {
	for _, m := range models() {
		for _, n := range numbers() {
			if got := bits.Has(m.packed(), n); got != m.has(n) {
				t.Errorf("Has(%v, %d) = %v", m.packed(), n, got)
			}
		}
	}
}

func TestWith(t *testing.T) {
	for _, m := range models() {
		for _, n := range numbers() {
			if got, want := bits.With(m.packed(), n), m.set(n, true).packed(); got != want {
				t.Errorf("With(%v, %d) = %v, not %v", m.packed(), n, got, want)
			}
		}
	}
}

func TestWithout(t *testing.T) {
	for _, m := range models() {
		for _, n := range numbers() {
			if got, want := bits.Without(m.packed(), n), m.set(n, false).packed(); got != want {
				t.Errorf("Without(%v, %d) = %v, not %v", m.packed(), n, got, want)
			}
		}
	}
}

func TestTop(t *testing.T) {
	for _, m := range models() {
		if got := bits.Top(m.packed()); got != m.top() {
			t.Errorf("Top(%v) = %d, not %d", m.packed(), got, m.top())
		}
	}
}

func TestNext(t *testing.T) {
	for _, m := range models() {
		for _, from := range numbers() {
			if got := bits.Next(m.packed(), from); got != m.next(from) {
				t.Errorf("Next(%v, %d) = %d, not %d", m.packed(), from, got, m.next(from))
			}
		}
	}
}

func TestAll(t *testing.T) {
	for _, m := range models() {
		if got := bits.All(m.packed()); !slices.Equal(got, m.numbers()) {
			t.Errorf("All(%v) = %v, not %v", m.packed(), got, m.numbers())
		}
	}
}

func TestBothAndEither(t *testing.T) {
	for _, a := range models() {
		for _, b := range models() {
			var both, either model
			for n := range a {
				both[n] = a[n] && b[n]
				either[n] = a[n] || b[n]
			}
			if got := bits.Both(a.packed(), b.packed()); got != both.packed() {
				t.Errorf("Both(%v, %v) = %v", a.packed(), b.packed(), got)
			}
			if got := bits.Either(a.packed(), b.packed()); got != either.packed() {
				t.Errorf("Either(%v, %v) = %v", a.packed(), b.packed(), got)
			}
		}
	}
}

func TestEmptySet(t *testing.T) {
	var none api.Bits
	if got := bits.Top(none); got != -1 {
		t.Errorf("the top of nothing is %d", got)
	}
	if got := bits.Next(none, 0); got != -1 {
		t.Errorf("the next of nothing is %d", got)
	}
	if got := bits.All(none); len(got) != 0 {
		t.Errorf("all of nothing are %v", got)
	}
	some := api.Bits{full, 0, 1, full}
	if got := bits.Both(none, some); got != none {
		t.Errorf("nothing and some have %v", got)
	}
	if got := bits.Either(none, some); got != some {
		t.Errorf("nothing or some is %v", got)
	}
}

// Z2: a caller's array stays as it is, and a list that was given out is the caller's own.
func TestArgumentsAndResultsAreTheCallers(t *testing.T) {
	a, b := api.Bits{full, 0, 1, 256}, api.Bits{9, full, 0, 1 << 63}
	keptA, keptB := a, b
	bits.With(a, 64)
	bits.Without(a, 0)
	bits.Next(a, 5)
	bits.Both(a, b)
	bits.Either(a, b)
	first := bits.All(a)
	if a != keptA || b != keptB {
		t.Errorf("arguments are %v and %v now", a, b)
	}
	for i := range first {
		first[i] = -7
	}
	if second := bits.All(a); slices.Contains(second, -7) {
		t.Errorf("a second list has what was written into the first: %v", second)
	}
}
