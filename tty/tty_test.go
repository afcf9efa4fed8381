package tty_test

import (
	"bytes"
	"math"
	"slices"
	"strings"
	"testing"

	"corebell/api"
	"corebell/tty"
)

// The keys, by the numbers that the given package has for them.
const (
	erase = "\x08"
	kill  = "\x15"
	end   = "\x04"
	line  = "\n"
	word  = "\x17"
)

// paper is a terminal told in another way: nothing that was typed since the last line is taken away, it is struck out.
type paper struct {
	lines  []string
	typed  []byte
	struck []bool
}

func paperOf(t api.Tty) *paper {
	p := &paper{typed: bytes.Clone(t.Edit), struck: make([]bool, len(t.Edit))}
	for _, l := range t.Lines {
		p.lines = append(p.lines, string(l))
	}
	return p
}

// remains returns what is not struck out of the line that is being written.
func (p *paper) remains() string {
	var l []byte
	for i, b := range p.typed {
		if !p.struck[i] {
			l = append(l, b)
		}
	}
	return string(l)
}

func (p *paper) terminal() api.Tty {
	return terminal(p.remains(), p.lines...)
}

func (p *paper) key(b byte) api.Errno {
	switch string([]byte{b}) {
	case line, end:
		return p.finish(b)
	case erase:
		p.strike(1)
	case kill:
		p.strike(len(p.typed))
	case word:
		p.strikeWord()
	default:
		if len(p.remains()) == 64 {
			return api.ErrFull
		}
		p.typed = append(p.typed, b)
		p.struck = append(p.struck, false)
	}
	return api.OK
}

func (p *paper) finish(b byte) api.Errno {
	if len(p.lines) == 400 {
		return api.ErrFull
	}
	l := p.remains()
	if b == 10 {
		l += line
	}
	p.lines = append(p.lines, l)
	p.typed, p.struck = nil, nil
	return api.OK
}

// strike strikes out the last n bytes that are not struck out yet, as far as there are some.
func (p *paper) strike(n int) {
	for i := len(p.typed) - 1; i >= 0 && n > 0; i-- {
		if !p.struck[i] {
			p.struck[i] = true
			n--
		}
	}
}

// strikeWord goes back until a blank is ahead of what is none.
func (p *paper) strikeWord() {
	began := false
	for i := len(p.typed) - 1; i >= 0; i-- {
		if p.struck[i] {
			continue
		}
		if p.typed[i] != 32 {
			began = true
		} else if began {
			return
		}
		p.struck[i] = true
	}
}

func (p *paper) read(most int) (string, api.Errno) {
	if most < 1 {
		return "", api.ErrRange
	}
	if len(p.lines) == 0 {
		return "", api.ErrAgain
	}
	l := p.lines[0]
	if most >= len(l) {
		p.lines = p.lines[1:]
		return l, api.OK
	}
	p.lines = slices.Concat([]string{l[most:]}, p.lines[1:])
	return l[:most], api.OK
}

// right says again, clause by clause, what the chapter asks of a terminal.
func right(t api.Tty) bool {
	wrong := len(t.Edit) >= 65 || len(t.Lines) >= 401
	for _, l := range t.Lines {
		wrong = wrong || len(l) >= 66
	}
	return !wrong
}

func terminal(edit string, lines ...string) api.Tty {
	t := api.Tty{Edit: []byte(edit)}
	for _, l := range lines {
		t.Lines = append(t.Lines, []byte(l))
	}
	return t
}

// text returns n bytes, neighbours of which differ, and none of which is a key that does something else or a blank.
func text(n int) string {
	l := make([]byte, n)
	for i := range l {
		l[i] = byte('A' + i%50)
	}
	return string(l)
}

// someLines returns n of them, of different sizes, and some of these empty.
func someLines(n int) []string {
	l := make([]string, n)
	for i := range l {
		if i%7 > 0 {
			l[i] = text((i*5)%65) + line
		}
	}
	return l
}

// terminals are those with some of all sizes of what is written, and of lines, both ends of each range among them.
func terminals() []api.Tty {
	var l []api.Tty
	for _, n := range []int{0, 1, 2, 3, 7, 398, 399, 400} {
		for _, edit := range []string{"", " ", "a", "   ", "ab ", " ab", "a b", "a b  ", "\x00\xff", "\t ", text(62), text(63), text(64), text(63) + " ", strings.Repeat(" ", 64), " " + text(63)} {
			l = append(l, terminal(edit, someLines(n)...))
		}
	}
	return append(l, terminal("ab", text(65)), terminal("", text(65), "", text(64)), terminal("", line, "a\n\nb", end))
}

// numbers are those around the ends of each range, and those that a narrower integer would bring into it.
func numbers() []int {
	return []int{
		math.MinInt, math.MinInt + 1, -1 << 40, -1 << 32, -1<<32 + 1, -256, -255, -65, -64, -2, -1,
		0, 1, 2, 3, 31, 63, 64, 65, 66, 255, 256, 257, 399, 400, 401, 1<<16 + 1, math.MaxInt32, 1 << 32, 1<<32 + 1,
		1 << 40, 1 << 62, math.MaxInt - 1, math.MaxInt,
	}
}

// scatter returns a function whose results are below its argument, and the same in each run.
func scatter(seed uint32) func(n int) int {
	return func(n int) int {
		seed = seed*1664525 + 1013904223
		return int(seed>>8) % n
	}
}

// scattered returns n keys; of 40, so many are ordinary ones, some of them blanks.
func scattered(roll func(int) int, n, ordinary int) []byte {
	const others = line + end + erase + erase + erase + word + kill
	keys := make([]byte, n)
	for i := range keys {
		switch {
		case roll(40) >= ordinary:
			keys[i] = others[roll(len(others))]
		case roll(4) == 0:
			keys[i] = 32
		default:
			keys[i] = byte(roll(256))
		}
	}
	return keys
}

func same(a, b api.Tty) bool {
	return bytes.Equal(a.Edit, b.Edit) && slices.EqualFunc(a.Lines, b.Lines, bytes.Equal)
}

func isZero(t api.Tty) bool {
	return len(t.Edit) == 0 && len(t.Lines) == 0
}

func copied(t api.Tty) api.Tty {
	return paperOf(t).terminal()
}

// size tells a terminal that is too large to be told whole.
func size(t api.Tty) (int, string) {
	return len(t.Lines), string(t.Edit)
}

func expectKey(t *testing.T, u api.Tty, b byte) {
	t.Helper()
	whole := copied(u)
	after, e := tty.Key(u, b)
	p := paperOf(u)
	want := p.key(b)
	wantAfter := api.Tty{}
	if want == api.OK {
		wantAfter = p.terminal()
	}
	n, edit := size(u)
	if !same(after, wantAfter) || e != want {
		t.Errorf("Key of %d lines and %q, %d = %q, %d, not %q, %d", n, edit, b, after, e, wantAfter, want)
	}
	if !same(u, whole) {
		t.Errorf("Key of %d lines and %q, %d changes its argument", n, edit, b)
	}
	if !tty.Right(after) {
		t.Errorf("Key of %d lines and %q, %d is not valid", n, edit, b)
	}
}

func expectRead(t *testing.T, u api.Tty, most int) {
	t.Helper()
	whole := copied(u)
	after, l, e := tty.Read(u, most)
	p := paperOf(u)
	wantL, want := p.read(most)
	wantAfter := api.Tty{}
	if want == api.OK {
		wantAfter = p.terminal()
	}
	n, edit := size(u)
	if !same(after, wantAfter) || string(l) != wantL || e != want {
		t.Errorf("Read of %d lines and %q, %d = %q, %q, %d, not %q, %q, %d", n, edit, most, after, l, e, wantAfter, wantL, want)
	}
	if !same(u, whole) {
		t.Errorf("Read of %d lines and %q, %d changes its argument", n, edit, most)
	}
	if !tty.Right(after) {
		t.Errorf("Read of %d lines and %q, %d is not valid", n, edit, most)
	}
}

// expectRight also looks at Key and Read, which refuse what is not valid, whatever the key and the number.
func expectRight(t *testing.T, u api.Tty) {
	t.Helper()
	n, edit := size(u)
	if tty.Right(u) != right(u) {
		t.Errorf("Right of %d lines and %q = %v", n, edit, tty.Right(u))
	}
	if right(u) {
		return
	}
	for _, b := range []byte("x \x00\xff" + line + end + erase + kill + word) {
		if after, e := tty.Key(u, b); !isZero(after) || e != api.ErrForm {
			t.Errorf("Key of %d lines and %q, %d = %q, %d", n, edit, b, after, e)
		}
	}
	for _, most := range []int{-1, 0, 1, 64, 65, 66, math.MaxInt} {
		if after, l, e := tty.Read(u, most); !isZero(after) || len(l) != 0 || e != api.ErrForm {
			t.Errorf("Read of %d lines and %q, %d = %q, %q, %d", n, edit, most, after, l, e)
		}
	}
}

// expectType holds Type against the paper.
func expectType(t *testing.T, keys []byte) {
	t.Helper()
	p := paperOf(api.Tty{})
	for _, b := range keys {
		p.key(b)
	}
	u := tty.Type(keys)
	if !same(u, p.terminal()) {
		t.Errorf("Type(%q) = %q, not %q", keys, u, p.terminal())
	}
	if !tty.Right(u) {
		t.Errorf("Type(%q) = %q, which is not valid", keys, u)
	}
}

// Q1

func TestRightByHand(t *testing.T) {
	for _, c := range []struct {
		u    api.Tty
		want bool
	}{
		{api.Tty{}, true},
		{api.Tty{Lines: [][]byte{}, Edit: []byte{}}, true},
		{terminal(text(64)), true},
		{terminal(text(65)), false},
		{terminal("", ""), true},
		{terminal("", text(65)), true},
		{terminal("", text(66)), false},
		{terminal(text(64), text(65)), true},
		{terminal(text(65), text(65)), false},
		{terminal(text(64), text(66)), false},
		{terminal("a", "b", text(66), "c"), false},
		{terminal("a", text(66), "b", "c"), false},
		{terminal("a", "b", "c", text(66)), false},
		{api.Tty{Lines: make([][]byte, 400)}, true},
		{api.Tty{Lines: make([][]byte, 401)}, false},
		{terminal(text(64), slices.Repeat([]string{text(65)}, 400)...), true},
		{terminal(text(64), slices.Repeat([]string{text(65)}, 401)...), false},
		{terminal(text(65), slices.Repeat([]string{text(65)}, 400)...), false},
		{terminal(text(65), slices.Repeat([]string{text(66)}, 401)...), false},
	} {
		if tty.Right(c.u) != c.want || right(c.u) != c.want {
			n, edit := size(c.u)
			t.Errorf("Right of %d lines and %q = %v", n, edit, tty.Right(c.u))
		}
		expectRight(t, c.u)
	}
}

func TestRightOfAllSizes(t *testing.T) {
	var sizes []int
	for n := range 70 {
		sizes = append(sizes, n)
	}
	sizes = append(sizes, 127, 128, 129, 255, 256, 257, 320, 321, 399, 400, 401, 402, 512, 656, 1<<16, 1<<16+64)
	for _, edit := range sizes {
		for _, n := range sizes {
			expectRight(t, api.Tty{Lines: make([][]byte, n), Edit: make([]byte, edit)})
		}
		for _, n := range []int{1, 2, 3, 400} {
			for _, at := range []int{0, n / 2, n - 1} {
				u := api.Tty{Lines: make([][]byte, n)}
				u.Lines[at] = make([]byte, edit)
				expectRight(t, u)
			}
		}
	}
}

// TestRightOfAnyBytes: which bytes they are does not matter, not even those of keys.
func TestRightOfAnyBytes(t *testing.T) {
	for b := range 256 {
		for _, n := range []int{1, 64, 65, 66} {
			l := bytes.Repeat([]byte{byte(b)}, n)
			expectRight(t, api.Tty{Edit: l})
			expectRight(t, api.Tty{Lines: [][]byte{l}})
			expectRight(t, api.Tty{Lines: [][]byte{l, nil}, Edit: l})
		}
	}
}

func TestKeyByHand(t *testing.T) {
	for _, c := range []struct {
		u     api.Tty
		key   string
		after api.Tty
		e     api.Errno
	}{
		{terminal(""), "a", terminal("a"), api.OK},
		{terminal("a"), "b", terminal("ab"), api.OK},
		{terminal("ab"), erase, terminal("a"), api.OK},
		{terminal("a"), erase, terminal(""), api.OK},
		{terminal(""), erase, terminal(""), api.OK},
		{terminal("a b "), kill, terminal(""), api.OK},
		{terminal(""), kill, terminal(""), api.OK},
		{terminal("ab"), line, terminal("", "ab\n"), api.OK},
		{terminal("ab"), end, terminal("", "ab"), api.OK},
		{terminal("", "ab\n"), line, terminal("", "ab\n", "\n"), api.OK},
		{terminal("", "ab\n"), end, terminal("", "ab\n", ""), api.OK},
		{terminal("c", ""), line, terminal("", "", "c\n"), api.OK},
		{terminal("one two  "), word, terminal("one "), api.OK},
		{terminal("one two"), word, terminal("one "), api.OK},
		{terminal("one "), word, terminal(""), api.OK},
		{terminal("  one"), word, terminal("  "), api.OK},
		{terminal("  "), word, terminal(""), api.OK},
		{terminal(""), word, terminal(""), api.OK},
		{terminal("a b\tc"), word, terminal("a "), api.OK},
		{terminal("a b\t"), word, terminal("a "), api.OK},
		{terminal("a b\xa0"), word, terminal("a "), api.OK},
		{terminal("a\x00"), word, terminal(""), api.OK},
		{terminal("a b", "c d\n"), word, terminal("a ", "c d\n"), api.OK},
		{terminal("a", "b\n"), erase, terminal("", "b\n"), api.OK},
		{terminal("", "b\n"), erase, terminal("", "b\n"), api.OK},
		{terminal("", "b\n"), kill, terminal("", "b\n"), api.OK},
		{terminal("a"), "\r", terminal("a\r"), api.OK},
		{terminal("a"), "\x7f", terminal("a\x7f"), api.OK},
		{terminal("a"), "\x00", terminal("a\x00"), api.OK},
		{terminal("a"), " ", terminal("a "), api.OK},
		{terminal(text(63)), "x", terminal(text(63) + "x"), api.OK},
		{terminal(text(64)), "x", api.Tty{}, api.ErrFull},
		{terminal(text(64)), " ", api.Tty{}, api.ErrFull},
		{terminal(text(64)), line, terminal("", text(64)+line), api.OK},
		{terminal(text(64)), end, terminal("", text(64)), api.OK},
		{terminal(text(64)), erase, terminal(text(63)), api.OK},
		{terminal(text(64)), kill, terminal(""), api.OK},
		{terminal(text(64)), word, terminal(""), api.OK},
	} {
		after, e := tty.Key(c.u, c.key[0])
		if !same(after, c.after) || e != c.e {
			t.Errorf("Key(%q, %q) = %q, %d", c.u, c.key, after, e)
		}
	}
}

// TestExample: "ab", an erase and "c" leave "ac".
func TestExample(t *testing.T) {
	var u api.Tty
	for _, b := range []byte("ab" + erase + "c") {
		after, e := tty.Key(u, b)
		if e != api.OK {
			t.Fatalf("Key(%q, %q) has error %d", u, b, e)
		}
		u = after
	}
	if !same(u, terminal("ac")) || !same(tty.Type([]byte("ab"+erase+"c")), u) {
		t.Errorf("%q is left", u)
	}
}

// TestKeyOfManyLines: only a key that completes one more line needs room for it.
func TestKeyOfManyLines(t *testing.T) {
	for _, n := range []int{399, 400} {
		u := terminal("a b", someLines(n)...)
		for _, key := range []string{line, end} {
			after, e := tty.Key(u, key[0])
			if n == 400 && (!isZero(after) || e != api.ErrFull) {
				t.Errorf("%d lines, and %q: %d lines, %q, %d", n, key, len(after.Lines), after.Edit, e)
			}
			if want := "a b" + strings.Trim(key, end); n == 399 && (len(after.Lines) != 400 || string(after.Lines[399]) != want || len(after.Edit) != 0 || e != api.OK) {
				t.Errorf("%d lines, and %q: %d lines, %q, %d", n, key, len(after.Lines), after.Edit, e)
			}
		}
		for key, edit := range map[string]string{"x": "a bx", " ": "a b ", erase: "a ", word: "a ", kill: ""} {
			after, e := tty.Key(u, key[0])
			if !same(after, terminal(edit, someLines(n)...)) || e != api.OK {
				t.Errorf("%d lines, and %q: %d lines, %q, %d", n, key, len(after.Lines), after.Edit, e)
			}
		}
	}
}

// TestEveryKey: each of the 256, from terminals of all kinds.
func TestEveryKey(t *testing.T) {
	for _, u := range terminals() {
		for b := range 256 {
			expectKey(t, u, byte(b))
		}
	}
}

// TestKeyBehindEveryByte: all bytes but blanks are alike, those of keys among them, in a terminal that was not typed.
func TestKeyBehindEveryByte(t *testing.T) {
	for b := range 256 {
		c := string([]byte{byte(b)})
		for _, edit := range []string{c, c + c, "a" + c, c + " ", " " + c, "a " + c, "a" + c + "b", "a " + c + " ", "a" + c + " b", c + " " + c, text(63) + c} {
			for _, l := range []api.Tty{terminal(edit), terminal(edit, c, edit)} {
				for _, key := range []byte(line + end + erase + kill + word + "x") {
					expectKey(t, l, key)
				}
			}
		}
	}
}

// TestAllShortEdits: the keys that mend, for all that can be written with blanks and other bytes, also ahead of much else.
func TestAllShortEdits(t *testing.T) {
	const letters = " a\t\xff"
	for _, begun := range []string{"", text(57), strings.Repeat(" ", 57), text(50) + "      "} {
		var longer func(edit string)
		longer = func(edit string) {
			for _, key := range []byte(line + end + erase + kill + word + "x") {
				expectKey(t, terminal(begun+edit), key)
			}
			if len(edit) == 6 {
				return
			}
			for _, b := range []byte(letters) {
				longer(edit + string([]byte{b}))
			}
		}
		longer("")
	}
}

// TestKeyOfAllSizes: everything that fits may be written, and completed.
func TestKeyOfAllSizes(t *testing.T) {
	for n := range 65 {
		for at := range n + 1 {
			for _, edit := range []string{text(n), text(at) + strings.Repeat(" ", n-at), strings.Repeat(" ", at) + text(n-at)} {
				for _, key := range []byte(line + end + erase + kill + word + "x ") {
					expectKey(t, terminal(edit, "ab\n", "c"), key)
				}
			}
		}
	}
}

// TestOrderOfKeyErrors: what is not valid is told first.
func TestOrderOfKeyErrors(t *testing.T) {
	for _, c := range []struct {
		u    api.Tty
		key  string
		want api.Errno
	}{
		{terminal(text(65)), "x", api.ErrForm},
		{terminal(text(64), text(66)), "x", api.ErrForm},
		{terminal(text(65), someLines(400)...), line, api.ErrForm},
		{terminal("", someLines(401)...), line, api.ErrForm},
		{terminal("", someLines(401)...), end, api.ErrForm},
		{terminal(text(64), someLines(400)...), line, api.ErrFull},
		{terminal(text(64), someLines(400)...), end, api.ErrFull},
		{terminal(text(64), someLines(400)...), "x", api.ErrFull},
		{terminal(text(63), someLines(400)...), "x", api.OK},
		{terminal(text(64), someLines(399)...), line, api.OK},
	} {
		after, e := tty.Key(c.u, c.key[0])
		if e != c.want || e != api.OK && !isZero(after) {
			n, edit := size(c.u)
			t.Errorf("Key of %d lines and %q, %q = %q, %d, not %d", n, edit, c.key, after, e, c.want)
		}
	}
}

// Q2

func TestReadByHand(t *testing.T) {
	for _, c := range []struct {
		u     api.Tty
		most  int
		after api.Tty
		l     string
		e     api.Errno
	}{
		{terminal("x", "ab\n", "cd"), 1, terminal("x", "b\n", "cd"), "a", api.OK},
		{terminal("x", "ab\n", "cd"), 2, terminal("x", "\n", "cd"), "ab", api.OK},
		{terminal("x", "ab\n", "cd"), 3, terminal("x", "cd"), "ab\n", api.OK},
		{terminal("x", "ab\n", "cd"), 4, terminal("x", "cd"), "ab\n", api.OK},
		{terminal("x", "ab\n", "cd"), 99, terminal("x", "cd"), "ab\n", api.OK},
		{terminal("x", "ab\n", "cd"), math.MaxInt, terminal("x", "cd"), "ab\n", api.OK},
		{terminal("x", "ab\n", "cd"), 0, api.Tty{}, "", api.ErrRange},
		{terminal("x", "ab\n", "cd"), -1, api.Tty{}, "", api.ErrRange},
		{terminal("", "", "cd"), 1, terminal("", "cd"), "", api.OK},
		{terminal("", "", ""), 9, terminal("", ""), "", api.OK},
		{terminal("", "", "cd"), 0, api.Tty{}, "", api.ErrRange},
		{terminal("", "\n"), 1, terminal(""), "\n", api.OK},
		{terminal("x", "a\nb"), 9, terminal("x"), "a\nb", api.OK},
		{terminal("x"), 1, api.Tty{}, "", api.ErrAgain},
		{api.Tty{}, 1, api.Tty{}, "", api.ErrAgain},
		{api.Tty{}, 0, api.Tty{}, "", api.ErrRange},
		{terminal("x"), math.MinInt, api.Tty{}, "", api.ErrRange},
		{terminal("", text(65)), 64, terminal("", text(65)[64:]), text(64), api.OK},
		{terminal("", text(65)), 65, terminal(""), text(65), api.OK},
		{terminal("", text(66)), 65, api.Tty{}, "", api.ErrForm},
		{terminal(text(65), "a"), 0, api.Tty{}, "", api.ErrForm},
		{terminal(text(65)), 0, api.Tty{}, "", api.ErrForm},
		{terminal(text(65)), 1, api.Tty{}, "", api.ErrForm},
		{api.Tty{Lines: make([][]byte, 401)}, 1, api.Tty{}, "", api.ErrForm},
	} {
		after, l, e := tty.Read(c.u, c.most)
		if !same(after, c.after) || string(l) != c.l || e != c.e {
			n, edit := size(c.u)
			t.Errorf("Read of %d lines and %q, %d = %q, %q, %d", n, edit, c.most, after, l, e)
		}
	}
}

func TestReadOfAllSizes(t *testing.T) {
	for n := range 66 {
		for _, others := range [][]string{nil, {""}, {"", "x\n"}, {text(65)}} {
			u := terminal("ab", slices.Concat([]string{text(n)}, others)...)
			for most := -1; most <= 67; most++ {
				expectRead(t, u, most)
			}
			for _, most := range numbers() {
				expectRead(t, u, most)
			}
		}
	}
}

func TestReadOfFarNumbers(t *testing.T) {
	for _, u := range terminals() {
		for _, most := range numbers() {
			expectRead(t, u, most)
		}
	}
}

// TestReadInParts: whatever the sizes of the parts, a line's parts are the line, and none goes on in the next one.
func TestReadInParts(t *testing.T) {
	for seed := range uint32(300) {
		roll := scatter(seed)
		u := tty.Type(scattered(roll, 1+roll(3000), 36))
		edit := string(u.Edit)
		for _, l := range slices.Clone(u.Lines) {
			want := string(l)
			got := ""
			for first := true; first || len(got) < len(want); first = false {
				most := 1 + roll(1+roll(70))
				after, part, e := tty.Read(u, most)
				if e != api.OK || len(part) != min(most, len(want)-len(got)) || string(after.Edit) != edit {
					t.Fatalf("Read(%q, %d) = %q, %q, %d", u, most, after, part, e)
				}
				u = after
				got += string(part)
			}
			if got != want {
				t.Fatalf("seed %d: a line is %q, not %q", seed, got, want)
			}
		}
		if after, part, e := tty.Read(u, 9); !isZero(after) || len(part) != 0 || e != api.ErrAgain {
			t.Fatalf("all is read, and Read(%q) = %q, %q, %d", u, after, part, e)
		}
	}
}

func TestTypeByHand(t *testing.T) {
	for _, c := range []struct {
		keys string
		want api.Tty
	}{
		{"", api.Tty{}},
		{"ab" + erase + "c", terminal("ac")},
		{"ab" + line + "cd" + end + "ef", terminal("ef", "ab\n", "cd")},
		{line + end + line, terminal("", "\n", "", "\n")},
		{erase + kill + word, api.Tty{}},
		{"ab" + line + erase + "c", terminal("c", "ab\n")},
		{"ab" + line + kill + "c", terminal("c", "ab\n")},
		{"ab " + line + word + "c", terminal("c", "ab \n")},
		{"a" + end + erase + line, terminal("", "a", "\n")},
		{"abc" + erase + erase + erase + erase + "d" + line, terminal("", "d\n")},
		{"one two  " + word + "three" + line, terminal("", "one three\n")},
		{"one two" + word + word + "three" + line, terminal("", "three\n")},
		{"one two" + kill + "three" + end, terminal("", "three")},
		{text(70) + line, terminal("", text(64)+line)},
		{text(70) + erase + "!" + line, terminal("", text(63)+"!\n")},
		{text(70) + kill + "a", terminal("a")},
		{text(63) + "  " + word + "b", terminal("b")},
		{"a " + text(70) + word + "b", terminal("a b")},
		{strings.Repeat("ab", 40) + end + "c", terminal("c", strings.Repeat("ab", 32))},
	} {
		if u := tty.Type([]byte(c.keys)); !same(u, c.want) {
			t.Errorf("Type(%q) = %q, not %q", c.keys, u, c.want)
		}
		expectType(t, []byte(c.keys))
	}
}

// TestTooManyLines: a line for which there is no room stays as it is, and may still be mended.
func TestTooManyLines(t *testing.T) {
	for _, key := range []string{line, end} {
		full := strings.Repeat("q"+key, 400)
		want := slices.Repeat([]string{"q" + strings.Trim(key, end)}, 400)
		for n := range 4 {
			for keys, edit := range map[string]string{
				"": "", "ab c": "ab c", "ab c" + line: "ab c", "ab c" + end + "d": "ab cd", "ab c" + word + line: "ab ",
				"ab" + erase + line + "c" + end: "ac", "ab" + line + kill + end + "c": "c", text(65) + line + "x": text(64),
			} {
				u := tty.Type([]byte(full + strings.Repeat(key, n) + keys))
				if !same(u, terminal(edit, want...)) {
					t.Errorf("%d more, %q: %d lines, %q", n, keys, len(u.Lines), u.Edit)
				}
			}
		}
	}
	for _, n := range []int{398, 399, 400, 401, 402, 1000} {
		u := tty.Type(slices.Repeat([]byte(end+line), n))
		if len(u.Lines) != 400 || len(u.Edit) != 0 || len(u.Lines[398]) != 0 || string(u.Lines[399]) != line {
			t.Errorf("%d keys leave %d lines, %q", 2*n, len(u.Lines), u.Edit)
		}
	}
}

func TestTypeOfEveryByte(t *testing.T) {
	for a := range 256 {
		expectType(t, []byte{byte(a)})
		for b := range 256 {
			expectType(t, []byte{byte(a), byte(b)})
			expectType(t, []byte{'p', ' ', byte(a), byte(b), 10, byte(b), byte(a), 4, 'q'})
		}
	}
}

// TestAllShortRuns also begins with an edit buffer that is almost full.
func TestAllShortRuns(t *testing.T) {
	const letters = "a " + line + end + erase + kill + word
	for _, begun := range []string{"", text(62), "a " + text(60) + " "} {
		keys := []byte(begun)
		var longer func()
		longer = func() {
			expectType(t, keys)
			if len(keys) == len(begun)+6 {
				return
			}
			for _, b := range []byte(letters) {
				keys = append(keys, b)
				longer()
				keys = keys[:len(keys)-1]
			}
		}
		longer()
	}
}

func TestLongRuns(t *testing.T) {
	for seed := range uint32(400) {
		for _, ordinary := range []int{20, 30, 36, 38, 39} {
			roll := scatter(seed)
			expectType(t, scattered(roll, 1+roll(600), ordinary))
		}
	}
	for seed := range uint32(20) {
		expectType(t, scattered(scatter(seed), 20000, 30+int(seed%10)))
	}
}

// TestTypeIsManyKeys: Type does what Key does to one terminal after another, with errors passed over.
func TestTypeIsManyKeys(t *testing.T) {
	for seed := range uint32(100) {
		keys := scattered(scatter(seed), 300, 25+3*int(seed%5))
		var u api.Tty
		for n, b := range keys {
			expectKey(t, u, b)
			if after, e := tty.Key(u, b); e == api.OK {
				u = after
			}
			if last := tty.Type(keys[:n+1]); !same(last, u) {
				t.Fatalf("seed %d, key %d: Type = %q, not %q", seed, n, last, u)
			}
		}
	}
}

// TestErrorsHaveNoEffect: without the keys that have an error, all is the same.
func TestErrorsHaveNoEffect(t *testing.T) {
	for seed := range uint32(100) {
		keys := slices.Concat(scattered(scatter(seed), 3000, 39), slices.Repeat([]byte("xy"+line), 500))
		var kept []byte
		p := paperOf(api.Tty{})
		for _, b := range keys {
			if p.key(b) == api.OK {
				kept = append(kept, b)
			}
		}
		if u, v := tty.Type(keys), tty.Type(kept); !same(u, v) || len(kept) == len(keys) {
			t.Errorf("seed %d: Type of %d keys = %q, and of the %d without error = %q", seed, len(keys), u, len(kept), v)
		}
	}
}

// TestErasedInputWasNeverTyped: what is typed and taken away again at once leaves no trace.
func TestErasedInputWasNeverTyped(t *testing.T) {
	for seed := range uint32(200) {
		roll := scatter(seed)
		keys := scattered(roll, 1+roll(200), 30)
		want := tty.Type(keys)
		for range 10 {
			at := roll(len(keys) + 1)
			begun := tty.Type(keys[:at]).Edit
			n := roll(65 - len(begun))
			taken := text(n) + strings.Repeat(erase, n)
			switch {
			case len(begun) == 0 && roll(2) == 0:
				taken = text(roll(70)) + kill
			case (len(begun) == 0 || begun[len(begun)-1] == 32) && n > 0 && roll(2) == 0:
				taken = text(roll(n)+1) + strings.Repeat(" ", 64) + word
			}
			more := slices.Concat(keys[:at], []byte(taken), keys[at:])
			if u := tty.Type(more); !same(u, want) {
				t.Errorf("Type(%q) = %q, and with %q at %d %q", keys, want, taken, at, u)
			}
		}
	}
}

// TestLinesAreApart: each line is what its own keys leave, whatever was typed ahead of it.
func TestLinesAreApart(t *testing.T) {
	for seed := range uint32(200) {
		keys := scattered(scatter(seed), 800, 34)
		whole := tty.Type(keys)
		var lines [][]byte
		from := 0
		for n, b := range keys {
			if b == 10 || b == 4 {
				lines = append(lines, tty.Type(keys[from:n+1]).Lines...)
				from = n + 1
			}
		}
		if last := tty.Type(keys[from:]); !same(whole, api.Tty{Lines: lines, Edit: last.Edit}) {
			t.Errorf("Type(%q) = %q, and line by line %q, %q", keys, whole, lines, last.Edit)
		}
	}
}

// Z1

// TestManyKeys: MaxOps is no limit for keys.
func TestManyKeys(t *testing.T) {
	const many = 3_000_000
	for _, c := range []struct {
		keys string
		want api.Tty
	}{
		{"a", terminal(strings.Repeat("a", 64))},
		{" ", terminal(strings.Repeat(" ", 64))},
		{erase, api.Tty{}},
		{kill, api.Tty{}},
		{word, api.Tty{}},
		{line, terminal("", slices.Repeat([]string{line}, 400)...)},
		{end, terminal("", make([]string, 400)...)},
		{"a" + erase, api.Tty{}},
		{"ab" + erase, terminal(strings.Repeat("a", 63))},
		{"a b" + word + kill, api.Tty{}},
		{"a b" + word, terminal(strings.Repeat("a ", 31))},
	} {
		if u := tty.Type(slices.Repeat([]byte(c.keys), many/len(c.keys))); !same(u, c.want) {
			t.Errorf("many of %q leave %d lines, %q", c.keys, len(u.Lines), u.Edit)
		}
	}
}

func TestNothingIsKept(t *testing.T) {
	keys := scattered(scatter(3), 500, 34)
	u := tty.Type(keys)
	tty.Type([]byte("ab" + line + "cd"))
	tty.Key(terminal("xy", "z"), 10)
	tty.Read(terminal("xy", "z"), 1)
	if again := tty.Type(keys); !same(u, again) {
		t.Errorf("Type = %q, and then %q", u, again)
	}
	if u := tty.Type(nil); !isZero(u) {
		t.Errorf("what an earlier call left is there: %q", u)
	}
	if u, e := tty.Key(api.Tty{}, 'a'); !same(u, terminal("a")) || e != api.OK {
		t.Errorf("what an earlier call left is there: %q, %d", u, e)
	}
}

// Z2

// fill writes to all memory that a slice can reach.
func fill(l []byte, b byte) {
	l = l[:cap(l)]
	for i := range l {
		l[i] = b
	}
}

// roomy returns the terminal with other bytes and other lines behind all that it has, and all those.
func roomy(t api.Tty) (api.Tty, [][]byte) {
	var rooms [][]byte
	room := func(l []byte) []byte {
		r := bytes.Repeat([]byte{251}, len(l)+9)
		rooms = append(rooms, r)
		return r[:copy(r, l)]
	}
	u := api.Tty{Edit: room(t.Edit), Lines: make([][]byte, len(t.Lines)+3)}
	for i := range u.Lines {
		u.Lines[i] = room([]byte("??"))
	}
	for i, l := range t.Lines {
		u.Lines[i] = room(l)
	}
	u.Lines = u.Lines[:len(t.Lines)]
	return u, rooms
}

// parts are all byte slices of a terminal.
func parts(t api.Tty) [][]byte {
	return slices.Concat([][]byte{t.Edit}, t.Lines)
}

func cloned(l [][]byte) [][]byte {
	var c [][]byte
	for _, part := range l {
		c = append(c, bytes.Clone(part))
	}
	return c
}

// expectOwn: neither what a caller does to its terminal reaches what a call answered, nor the other way round, nor do two parts of the answer reach each other.
func expectOwn(t *testing.T, u api.Tty, call func(api.Tty) (api.Tty, []byte)) {
	t.Helper()
	r, rooms := roomy(u)
	behind := r.Lines[:cap(r.Lines)]
	headers, whole := cloned(behind), cloned(rooms)
	after, l := call(r)
	if !slices.EqualFunc(rooms, whole, bytes.Equal) || !slices.EqualFunc(behind, headers, bytes.Equal) {
		t.Fatalf("%q, or what is behind it, is changed", u)
	}
	all := slices.Concat([][]byte{l}, parts(after))
	want := cloned(all)
	for _, room := range rooms {
		fill(room, 1)
	}
	clear(behind)
	if !slices.EqualFunc(slices.Concat([][]byte{l}, parts(after)), want, bytes.Equal) {
		t.Fatalf("what is answered for %q is in the caller's memory", u)
	}
	for i, part := range all {
		fill(part, byte(2+i%200))
		for j, other := range all[i+1:] {
			if !bytes.Equal(other, want[i+1+j]) {
				t.Fatalf("two parts of what is answered for %q share memory", u)
			}
		}
		for _, room := range rooms {
			if len(bytes.Trim(room, "\x01")) > 0 {
				t.Fatalf("the argument %q is in the result", u)
			}
		}
	}
}

func TestResultsAreOnTheirOwn(t *testing.T) {
	for _, edit := range []string{"", "a", "ab ", " ", "ab cd", text(63), text(64)} {
		for _, lines := range [][]string{nil, {""}, {"ab\n"}, {"", ""}, {"ab\n", "", "cd", "e\n"}, {text(65), text(65)}} {
			u := terminal(edit, lines...)
			for _, b := range []byte("x " + line + end + erase + kill + word) {
				expectOwn(t, u, func(v api.Tty) (api.Tty, []byte) {
					after, e := tty.Key(v, b)
					p := paperOf(u)
					if want := p.key(b); e != want || e == api.OK && !same(after, p.terminal()) {
						t.Fatalf("what is behind %q matters for %q: %q, %d", u, b, after, e)
					}
					return after, nil
				})
			}
			for _, most := range []int{-1, 0, 1, 2, 3, 64, 65, 66} {
				expectOwn(t, u, func(v api.Tty) (api.Tty, []byte) {
					after, l, e := tty.Read(v, most)
					p := paperOf(u)
					if wantL, want := p.read(most); string(l) != wantL || e != want || e == api.OK && !same(after, p.terminal()) {
						t.Fatalf("what is behind %q matters for %d: %q, %q, %d", u, most, after, l, e)
					}
					return after, l
				})
			}
		}
	}
}

// TestPartsInOneMemory: of a terminal whose parts are one behind the other in memory, or the same, none reaches into another.
func TestPartsInOneMemory(t *testing.T) {
	for _, key := range []byte("x" + line + end + erase + kill + word) {
		for _, c := range [][3][2]int{{{0, 4}, {4, 8}, {8, 12}}, {{8, 12}, {0, 4}, {4, 8}}, {{2, 7}, {2, 7}, {2, 7}}, {{0, 3}, {3, 3}, {3, 3}}} {
			room := []byte("ab cdef ghij")
			part := func(i int) []byte { return room[c[i][0]:c[i][1]] }
			u := api.Tty{Edit: part(0), Lines: [][]byte{part(1), part(2)}}
			expectKey(t, u, key)
			expectRead(t, u, 2)
			after, _ := tty.Key(u, key)
			tty.Key(after, 'y')
			if string(room) != "ab cdef ghij" {
				t.Errorf("%q is left behind %q", room, key)
			}
		}
	}
}

// TestTwoKeysForOneTerminal: the results of two calls share no memory.
func TestTwoKeysForOneTerminal(t *testing.T) {
	const all = "x " + line + end + erase + kill + word
	for _, begun := range []api.Tty{terminal("ab c", "de\n"), terminal("", "de\n", ""), terminal(text(63)), terminal("a")} {
		for _, first := range []byte(all) {
			for _, second := range []byte(all) {
				for _, third := range []byte(all) {
					u, _ := tty.Key(begun, first)
					kept := copied(u)
					a, _ := tty.Key(u, second)
					b, _ := tty.Key(u, third)
					c, l, _ := tty.Read(u, 1)
					keptB, keptC, keptL := copied(b), copied(c), string(l)
					for _, part := range parts(a) {
						fill(part, 91)
					}
					clear(a.Lines[:cap(a.Lines)])
					if !same(u, kept) || !same(b, keptB) || !same(c, keptC) || string(l) != keptL {
						t.Fatalf("%q, then %q and %q: %q and %q, not %q and %q", first, second, third, u, b, kept, keptB)
					}
				}
			}
		}
	}
}

// TestTypeLeavesItsArgument: it does not change, what is behind it does not matter, and the results are in memory of their own.
func TestTypeLeavesItsArgument(t *testing.T) {
	for n := range 300 {
		room := scattered(scatter(uint32(n)), n+9, 32)
		room[n] = 10
		whole := bytes.Clone(room)
		u := tty.Type(room[:n])
		want := copied(tty.Type(slices.Clip(bytes.Clone(room[:n]))))
		if !same(u, want) {
			t.Fatalf("what is behind %d keys matters", n)
		}
		if !bytes.Equal(room, whole) {
			t.Fatalf("%d keys, or what is behind them, have changed", n)
		}
		fill(room, 1)
		all, wanted := parts(u), parts(want)
		for i, part := range all {
			if !bytes.Equal(part, wanted[i]) {
				t.Fatalf("%d keys: part %d is in other memory, too", n, i)
			}
			fill(part, 99)
		}
		if again := tty.Type(whole[:n]); !same(again, want) || len(bytes.Trim(room, "\x01")) > 0 {
			t.Fatalf("%d keys: what is done to the result matters", n)
		}
	}
}

// Z3

func TestNilAndEmptyParts(t *testing.T) {
	for _, edit := range [][]byte{nil, {}} {
		for _, lines := range [][][]byte{nil, {}, {nil}, {{}}, {nil, {}}, {{}, nil}, {nil, []byte("ab")}, {[]byte("ab"), {}}} {
			u := api.Tty{Lines: lines, Edit: edit}
			expectRight(t, u)
			for _, key := range []byte("x " + line + end + erase + kill + word) {
				expectKey(t, u, key)
			}
			for most := -1; most <= 3; most++ {
				expectRead(t, u, most)
			}
		}
	}
	if u, v := tty.Type(nil), tty.Type([]byte{}); !isZero(u) || !isZero(v) {
		t.Errorf("without a key: %q and %q", u, v)
	}
}
