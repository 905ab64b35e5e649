package delta

import (
	"bytes"
	"math"
	"runtime"
	"slices"
	"strings"
	"testing"

	"satchel/api"
	"satchel/code"
)

func join(parts ...[]byte) []byte { return slices.Concat(parts...) }

func vars(numbers ...uint64) []byte {
	w := code.New()
	for _, n := range numbers {
		w.Var(n)
	}
	return w.Out()
}

// copying and adding: a command in bytes.
func copying(length, place uint64) []byte { return vars(2*length+1, place) }

func adding(text string) []byte { return join(vars(2*uint64(len(text))), []byte(text)) }

func text(n int) string { return strings.Repeat("0123456789abcdef", n/16+1)[:n] }

func TestApplyGives(t *testing.T) { // P7.1: the examples, and what is just right
	long := text(api.MaxObject)
	for _, c := range []struct {
		name, base string
		d          []byte
		want       string
	}{
		{"the first example", "hello world", []byte("\x0b\x0c\x0b\x00\x02,\x0d\x05"), "hello, world"},
		{"nothing is copied", "hello world", []byte("\x0b\x0c\x18hello, world"), "hello, world"},
		{"nothing of nothing", "", []byte{0, 0}, ""},
		{"nothing of something", "abc", []byte{3, 0}, ""},
		{"new bytes alone", "", join(vars(0, 1), adding("x")), "x"},
		{"a copy", "abc", []byte{3, 2, 5, 1}, "bc"},
		{"all of the base", "abc", join(vars(3, 3), copying(3, 0)), "abc"},
		{"the last byte", "abc", join(vars(3, 1), copying(1, 2)), "c"},
		{"one place many times", "abc", join(vars(3, 8), copying(2, 0), copying(3, 0), copying(2, 0), copying(1, 0)), "ababcaba"},
		{"backwards", "abc", join(vars(3, 3), copying(1, 2), copying(1, 1), copying(1, 0)), "cba"},
		{"new bytes in two commands", "", join(vars(0, 3), adding("xy"), adding("z")), "xyz"},
		{"new bytes that look like commands", "abc", join(vars(3, 4), adding("\x07\x00\x01\x00")), "\x07\x00\x01\x00"},
		{"the greatest base and target", long, join(vars(api.MaxObject, api.MaxObject), copying(api.MaxObject, 0)), long},
		{"the greatest target, new", "", join(vars(0, api.MaxObject), adding(long)), long},
		{"the greatest target of a small base", "ab", join(vars(2, api.MaxObject), bytes.Repeat(copying(2, 0), api.MaxObject/2)), strings.Repeat("ab", api.MaxObject/2)},
		{"the last byte of the greatest base", long, join(vars(api.MaxObject, 1), copying(1, api.MaxObject-1)), long[api.MaxObject-1:]},
	} {
		b, e := Apply([]byte(c.base), c.d)
		if string(b) != c.want || e != api.OK {
			t.Errorf("%s: %d bytes, %d", c.name, len(b), e)
		}
		if n, m, e := Size(c.d); n != len(c.base) || m != len(c.want) || e != api.OK {
			t.Errorf("%s: Size %d, %d, %d", c.name, n, m, e)
		}
	}
}

// broken: deltas of the base "abc" that are refused, by what comes first.
func broken() []struct {
	name string
	d    []byte
	want api.Errno
} {
	const most = math.MaxUint64
	return []struct {
		name string
		d    []byte
		want api.Errno
	}{
		{"nothing", nil, api.ErrDeltaForm},
		{"the first Var is cut", []byte{0x83}, api.ErrDeltaForm},
		{"the first Var is not the shortest", []byte{0x83, 0, 0}, api.ErrDeltaForm},
		{"the first Var is above 64 bits", join(bytes.Repeat([]byte{0xff}, 9), []byte{2, 0}), api.ErrDeltaForm},
		{"a base above MaxObject", vars(api.MaxObject+1, 0), api.ErrDeltaForm},
		{"a base of the greatest number", vars(most, 0), api.ErrDeltaForm},
		{"a base that is 3 but for bit 32", vars(1<<32+3, 0), api.ErrDeltaForm},
		{"a base of MaxObject", vars(api.MaxObject, 0), api.ErrDeltaBase},
		{"a shorter base", vars(2, 0), api.ErrDeltaBase},
		{"a longer base", vars(4, 0), api.ErrDeltaBase},
		{"no base", vars(0, 0), api.ErrDeltaBase},
		{"another base, and no second Var", vars(2), api.ErrDeltaBase},
		{"another base, and a second Var that is not the shortest", []byte{2, 0x80, 0}, api.ErrDeltaBase},
		{"another base, and a target above MaxObject", vars(2, most), api.ErrDeltaBase},
		{"no second Var", vars(3), api.ErrDeltaForm},
		{"the second Var is cut", []byte{3, 0x80}, api.ErrDeltaForm},
		{"the second Var is not the shortest", []byte{3, 0x81, 0, 2, 'x'}, api.ErrDeltaForm},
		{"the second Var is above 64 bits", join([]byte{3}, bytes.Repeat([]byte{0xff}, 9), []byte{2}), api.ErrDeltaForm},
		{"a target above MaxObject", []byte{3, 0x81, 0x80, 0x04}, api.ErrDeltaLong},
		{"a target above MaxObject, and a wrong command", join(vars(3, api.MaxObject+1), []byte{0x80, 0}), api.ErrDeltaLong},
		{"a target of the greatest number", vars(3, most), api.ErrDeltaLong},
		{"a target of 2^63", vars(3, 1<<63), api.ErrDeltaLong},
		{"a target that is 2 but for bit 32", join(vars(3, 1<<32+2), copying(2, 0)), api.ErrDeltaLong},
		{"no command", vars(3, 1), api.ErrDeltaForm},
		{"no second command", join(vars(3, 2), copying(1, 0)), api.ErrDeltaForm},
		{"a command is cut", []byte{3, 2, 0x85}, api.ErrDeltaForm},
		{"a command is not the shortest", []byte{3, 2, 0x85, 0, 1}, api.ErrDeltaForm},
		{"a command above 64 bits", join(vars(3, 2), bytes.Repeat([]byte{0xff}, 10)), api.ErrDeltaForm},
		{"no new bytes", []byte{3, 1, 0, 2, 'x'}, api.ErrDeltaForm},
		{"a copy of no bytes", []byte{3, 1, 1, 0, 2, 'x'}, api.ErrDeltaForm},
		{"a copy of no bytes from outside", []byte{3, 1, 1, 9, 2, 'x'}, api.ErrDeltaForm},
		{"no new bytes, a target that is whole", []byte{3, 0, 0}, api.ErrDeltaForm},
		{"a copy that is too long", []byte{3, 2, 7, 0}, api.ErrDeltaLong},
		{"a copy that is too long, and no place", []byte{3, 2, 7}, api.ErrDeltaLong},
		{"a copy that is too long, and a place that is not the shortest", []byte{3, 2, 7, 0x80, 0}, api.ErrDeltaLong},
		{"a copy that is too long, and from outside", []byte{3, 2, 7, 9}, api.ErrDeltaLong},
		{"a copy that is too long in all", join(vars(3, 3), copying(2, 0), copying(2, 0)), api.ErrDeltaLong},
		{"a copy of 2^63 - 1", join(vars(3, 2), vars(most, 0)), api.ErrDeltaLong},
		{"a copy of 2^63 - 1 behind a byte", join(vars(3, 2), copying(1, 0), vars(most, 0)), api.ErrDeltaLong},
		{"a copy that is 1 but for bit 32", join(vars(3, 1), copying(1<<32+1, 0)), api.ErrDeltaLong},
		{"new bytes that are too many", join(vars(3, 2), adding("xyz")), api.ErrDeltaLong},
		{"new bytes that are too many, and are not there", []byte{3, 2, 6}, api.ErrDeltaLong},
		{"new bytes of 2^63 - 1", join(vars(3, 2), vars(most-1)), api.ErrDeltaLong},
		{"new bytes of 2^62", join(vars(3, 2), vars(1<<63)), api.ErrDeltaLong},
		{"no place", []byte{3, 2, 5}, api.ErrDeltaForm},
		{"a place that is cut", []byte{3, 2, 5, 0x81}, api.ErrDeltaForm},
		{"a place that is not the shortest", []byte{3, 2, 5, 0x81, 0}, api.ErrDeltaForm},
		{"a place above 64 bits", join([]byte{3, 2, 5}, bytes.Repeat([]byte{0xff}, 9), []byte{2}), api.ErrDeltaForm},
		{"a copy beyond the base", []byte{3, 2, 5, 2}, api.ErrDeltaCopy},
		{"a copy behind the base", []byte{3, 2, 5, 3}, api.ErrDeltaCopy},
		{"a copy far behind the base", []byte{3, 2, 5, 4}, api.ErrDeltaCopy},
		{"a copy from outside, and bytes that are left", []byte{3, 2, 5, 2, 0}, api.ErrDeltaCopy},
		{"a copy longer than the base", join(vars(3, 9), copying(4, 0)), api.ErrDeltaCopy},
		{"a copy whose sum wraps to 1", join(vars(3, 2), copying(2, most)), api.ErrDeltaCopy},
		{"a copy whose sum wraps to 0", join(vars(3, 2), copying(2, most-1)), api.ErrDeltaCopy},
		{"a copy from 2^63", join(vars(3, 2), copying(2, 1<<63)), api.ErrDeltaCopy},
		{"a copy from 2^63 - 1", join(vars(3, 2), copying(2, 1<<63-1)), api.ErrDeltaCopy},
		{"a copy from 2^63 - 3", join(vars(3, 2), copying(2, 1<<63-3)), api.ErrDeltaCopy},
		{"a place that is 0 but for bit 32", join(vars(3, 2), copying(2, 1<<32)), api.ErrDeltaCopy},
		{"too few new bytes", []byte{3, 2, 4, 'x'}, api.ErrDeltaForm},
		{"new bytes that are not there", []byte{3, 2, 4}, api.ErrDeltaForm},
		{"the greatest number of new bytes, one is missing", join(vars(3, api.MaxObject, 2*api.MaxObject), []byte(text(api.MaxObject-1))), api.ErrDeltaForm},
		{"a command is left", []byte{3, 2, 5, 1, 2, 'x'}, api.ErrDeltaForm},
		{"a 0 is left", []byte{3, 2, 5, 1, 0}, api.ErrDeltaForm},
		{"a byte is left behind no target", []byte{3, 0, 7, 0}, api.ErrDeltaForm},
	}
}

func TestApplyRefuses(t *testing.T) { // P7.1, R4
	for _, c := range broken() {
		b, e := Apply([]byte("abc"), c.d)
		if len(b) != 0 || e != c.want {
			t.Errorf("%s: %q, %d, want %d", c.name, b, e, c.want)
		}
	}
}

func TestApplyToAnotherBase(t *testing.T) { // P7.1
	over := []byte(text(api.MaxObject + 1))
	for _, c := range []struct {
		name    string
		base, d []byte
		want    api.Errno
	}{
		{"a byte, none is meant", []byte("a"), vars(0, 0), api.ErrDeltaBase},
		{"the same, and no target", []byte("a"), vars(0), api.ErrDeltaBase},
		{"none, a byte is meant", nil, vars(1, 0), api.ErrDeltaBase},
		{"of MaxObject and one, and told so", over, vars(api.MaxObject+1, 0), api.ErrDeltaForm},
		{"of MaxObject and one, MaxObject is meant", over, vars(api.MaxObject, 0), api.ErrDeltaBase},
		{"of MaxObject, one less is meant", over[1:], vars(api.MaxObject-1, 0), api.ErrDeltaBase},
		{"of MaxObject, as is meant", over[1:], vars(api.MaxObject, 0), api.OK},
		{"of MaxObject, copied from beyond", over[1:], join(vars(api.MaxObject, 2), copying(2, api.MaxObject-1)), api.ErrDeltaCopy},
		{"none, copied from", nil, join(vars(0, 1), copying(1, 0)), api.ErrDeltaCopy},
	} {
		if b, e := Apply(c.base, c.d); len(b) != 0 || e != c.want {
			t.Errorf("a base %s: %d bytes, %d, want %d", c.name, len(b), e, c.want)
		}
	}
}

func TestCutAndLengthened(t *testing.T) { // P7.1: with the last byte of the target the delta ends, not ahead of it and not behind
	base := []byte(text(300))
	for _, d := range [][]byte{
		join(vars(300, 0)),
		join(vars(300, 300), copying(300, 0)),
		join(vars(300, 450), copying(200, 100), adding(text(150)), copying(100, 150)),
		join(vars(300, 3), adding("x"), adding("y"), copying(1, 299)),
	} {
		if _, e := Apply(base, d); e != api.OK {
			t.Fatalf("%x: %d", d, e)
		}
		for cut := range d {
			if b, e := Apply(base, d[:cut]); len(b) != 0 || e != api.ErrDeltaForm {
				t.Errorf("%x cut at %d: %q, %d", d, cut, b, e)
			}
		}
		for _, more := range [][]byte{{0}, {1}, {0x80}, {0xff}, adding("x"), copying(1, 0), d} {
			if b, e := Apply(base, join(d, more)); len(b) != 0 || e != api.ErrDeltaForm {
				t.Errorf("%x with %x behind it: %q, %d", d, more, b, e)
			}
		}
	}
}

func TestSize(t *testing.T) { // P7.2
	over := api.MaxObject + 1
	for _, c := range []struct {
		name string
		d    []byte
		n, m int
		want api.Errno
	}{
		{"two lengths", []byte{11, 12}, 11, 12, api.OK},
		{"both 0", []byte{0, 0}, 0, 0, api.OK},
		{"both of MaxObject", vars(api.MaxObject, api.MaxObject), api.MaxObject, api.MaxObject, api.OK},
		{"one", []byte{11}, 0, 0, api.ErrDeltaForm},
		{"none", nil, 0, 0, api.ErrDeltaForm},
		{"the first is cut", []byte{0x80}, 0, 0, api.ErrDeltaForm},
		{"the first is not the shortest", []byte{0x80, 0, 1}, 0, 0, api.ErrDeltaForm},
		{"the first is above MaxObject", vars(uint64(over), 1), 0, 0, api.ErrDeltaForm},
		{"the first is the greatest number", vars(math.MaxUint64, 1), 0, 0, api.ErrDeltaForm},
		{"both are above MaxObject", vars(uint64(over), uint64(over)), 0, 0, api.ErrDeltaForm},
		{"the second is cut", []byte{1, 0x80}, 0, 0, api.ErrDeltaForm},
		{"the second is not the shortest", []byte{1, 0x80, 0}, 0, 0, api.ErrDeltaForm},
		{"the second is above 64 bits", join([]byte{1}, bytes.Repeat([]byte{0xff}, 10)), 0, 0, api.ErrDeltaForm},
		{"the second is above MaxObject", vars(1, uint64(over)), 0, 0, api.ErrDeltaLong},
		{"the second is the greatest number", vars(1, math.MaxUint64), 0, 0, api.ErrDeltaLong},
		{"the second is 1 but for bit 32", vars(1, 1<<32+1), 0, 0, api.ErrDeltaLong},
	} {
		behind := [][]byte{nil}
		if c.want != api.ErrDeltaForm || len(c.d) > 2 {
			behind = append(behind, []byte{0}, []byte{0xff, 0xff}, adding("x"), []byte(text(500)))
		}
		for _, more := range behind {
			n, m, e := Size(join(c.d, more))
			if n != c.n || m != c.m || e != c.want {
				t.Errorf("%s, with %d bytes behind: %d, %d, %d", c.name, len(more), n, m, e)
			}
		}
	}
}

// spoil overwrites a list and the spare room behind its end.
func spoil(b []byte) {
	for i := range b[:cap(b)] {
		b[:cap(b)][i] = 'z'
	}
}

// roomy: a text in a list with spare room behind its end, and the whole of it.
func roomy(s string) (list, whole []byte) {
	whole = append([]byte(s), "spare room"...)
	return whole[:len(s)], whole
}

// calls: those that answer bytes.
func calls() map[string]func(a, b []byte) ([]byte, api.Errno) {
	return map[string]func(a, b []byte) ([]byte, api.Errno){"Make": Make, "Apply": Apply}
}

func TestMemory(t *testing.T) { // P7.4, R2
	for _, c := range []struct{ call, a, b string }{
		{"Make", text(64), text(64)},
		{"Make", text(64), "ahead of it" + text(40) + text(64)[30:]},
		{"Make", "", text(64)},
		{"Make", text(64), ""},
		{"Apply", "abc", string(join(vars(3, 3), copying(3, 0)))},
		{"Apply", "abc", string(join(vars(3, 6), adding("xyz"), copying(3, 0)))},
		{"Apply", "abc", string(join(vars(3, 3), adding("xyz")))},
		{"Apply", "abc", string(join(vars(3, 2), copying(1, 0), copying(1, 3)))},
	} {
		call := calls()[c.call]
		want, f := call([]byte(c.a), []byte(c.b))
		want = bytes.Clone(want)
		a, wholeA := roomy(c.a)
		b, wholeB := roomy(c.b)
		one, e := call(a, b)
		two, _ := call(a, b)
		if e != f || !bytes.Equal(one, want) || !bytes.Equal(two, want) {
			t.Errorf("%s(%q, %q) hangs on the spare room: %x, %x", c.call, c.a, c.b, one, two)
		}
		spoil(one)
		if !bytes.Equal(two, want) {
			t.Errorf("%s(%q, %q): two answers share memory", c.call, c.a, c.b)
		}
		if string(wholeA) != c.a+"spare room" || string(wholeB) != c.b+"spare room" {
			t.Errorf("%s(%q, %q) changes what is handed in, or shares it: %q, %q", c.call, c.a, c.b, wholeA, wholeB)
		}
		spoil(wholeA)
		spoil(wholeB)
		if !bytes.Equal(two, want) {
			t.Errorf("%s(%q, %q) keeps what is handed in", c.call, c.a, c.b)
		}
	}
	d, whole := roomy("\x0b\x0c")
	if n, m, e := Size(d); n != 11 || m != 12 || e != api.OK || string(whole) != "\x0b\x0cspare room" {
		t.Errorf("Size with spare room: %d, %d, %d, %q", n, m, e, whole)
	}
	if _, _, e := Size(d[:1]); e != api.ErrDeltaForm {
		t.Errorf("Size reads the spare room: %d", e)
	}
	if _, e := Apply(whole[:11], d); e != api.ErrDeltaForm {
		t.Errorf("Apply reads the spare room: %d", e)
	}
}

func TestGreatLengthsTakeNoMemory(t *testing.T) { // R6
	var before, behind runtime.MemStats
	runtime.ReadMemStats(&before)
	for _, d := range [][]byte{
		vars(0, math.MaxUint64), vars(0, 1<<40), vars(0, api.MaxObject, 1<<41), vars(0, api.MaxObject, math.MaxUint64-1),
		vars(math.MaxUint64, 0), vars(0, api.MaxObject, 2*api.MaxObject),
	} {
		Apply(nil, d)
		Size(d)
	}
	runtime.ReadMemStats(&behind)
	if took := behind.TotalAlloc - before.TotalAlloc; took > 1<<20 {
		t.Errorf("%d bytes are taken for a target that is not there", took)
	}
}
