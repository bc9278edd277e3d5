package bits_test

import (
	"math"
	"slices"
	"testing"

	"wakeman/api"
	"wakeman/bits"
)

// full is the set of all numbers; a variable, so that shifts drop the bits that do not fit.
var full uint64 = math.MaxUint64

// set returns the set of some numbers from 0 to 63, one bit after the other.
func set(l ...int) uint64 {
	s := uint64(0)
	for _, v := range l {
		s |= uint64(1) << v
	}
	return s
}

// has is the definition: the number v, from 0 to 63, is in the set if its bit is set.
func has(s uint64, v int) bool {
	for n := range 64 {
		if n == v {
			return s&(uint64(1)<<n) != 0
		}
	}
	return false
}

// list returns the numbers of a set, found by looking at each of them.
func list(s uint64) []int {
	var l []int
	for v := range 64 {
		if has(s, v) {
			l = append(l, v)
		}
	}
	return l
}

// outside returns numbers that no set has; among them those that a shift takes for numbers from 0 to 63, or that wrap around when something is added to them.
func outside() []int {
	return []int{
		-1, -2, -3, -61, -62, -63, -64, -65, -127, -128, -129, -255, -256, -257, -1 << 31, -1<<31 - 1, -1 << 32, -1 << 62, math.MinInt + 64, math.MinInt + 63, math.MinInt + 1, math.MinInt,
		64, 65, 66, 67, 69, 100, 126, 127, 128, 129, 191, 192, 255, 256, 257, 319, 1<<31 - 1, 1 << 31, 1 << 32, 1<<32 + 3, 1<<32 + 63, 1 << 62, 1<<62 + 5, math.MaxInt - 64, math.MaxInt - 63, math.MaxInt - 62, math.MaxInt - 1, math.MaxInt,
	}
}

// numbers returns those from 0 to 63, and those outside.
func numbers() []int {
	l := outside()
	for v := range 64 {
		l = append(l, v)
	}
	return l
}

// random returns sets that follow a fixed rule: thin ones, thick ones, and what lies between.
func random(n int) []uint64 {
	var l []uint64
	x := uint64(1)
	next := func() uint64 {
		x = x*6364136223846793005 + 1442695040888963407
		return x ^ x>>29
	}
	for range n {
		a, b, c := next(), next(), next()
		l = append(l, a, a&b, a&b&c, a|b, a|b|c)
	}
	return l
}

// sets returns the empty set, the full one, those of one number and of two, those without one, the beginnings and the ends, and random ones.
func sets() []uint64 {
	l := []uint64{0, full, 0x5555555555555555, 0xaaaaaaaaaaaaaaaa, set(0, 63), set(0, 15, 30, 45), set(3, 5), set(0, 2, 4, 5, 6), set(1, 2, 3, 9)}
	for a := range 64 {
		l = append(l, full&^set(a), full<<a, full>>a)
		for b := range a + 1 {
			l = append(l, set(a, b))
		}
	}
	return append(l, random(200)...)
}

// someSets returns fewer of them.
func someSets() []uint64 {
	return append([]uint64{0, full, 1, 1 << 63, 1<<63 | 1, 2, 1 << 62, 1<<31 | 1<<32, 0x5555555555555555, 0xaaaaaaaaaaaaaaaa, full << 1, full >> 1, full << 32, full >> 32, set(3, 5)}, random(20)...)
}

// everySmall calls f with all sets of 16 neighbouring numbers, at the lower end, at the upper one, and between.
func everySmall(f func(s uint64)) {
	for _, from := range []int{0, 1, 24, 47, 48} {
		for s := range uint64(1 << 16) {
			f(s << from)
		}
	}
}

func checkRange(t *testing.T, lo, hi, step int, want uint64, err api.Errno) {
	t.Helper()
	if s, e := bits.Range(lo, hi, step); s != want || e != err {
		t.Errorf("Range(%d, %d, %d) = %#x, %d, want %#x, %d", lo, hi, step, s, e, want, err)
	}
}

func checkOf(t *testing.T, l []int, want uint64, err api.Errno) {
	t.Helper()
	if s, e := bits.Of(l); s != want || e != err {
		t.Errorf("Of(%v) = %#x, %d, want %#x, %d", l, s, e, want, err)
	}
}

func checkList(t *testing.T, s uint64, want []int) {
	t.Helper()
	if l := bits.List(s); !slices.Equal(l, want) {
		t.Errorf("List(%#x) = %v, want %v", s, l, want)
	}
}

func checkNext(t *testing.T, s uint64, from, want int, is bool) {
	t.Helper()
	if v, ok := bits.Next(s, from); v != want || ok != is {
		t.Errorf("Next(%#x, %d) = %d, %t, want %d, %t", s, from, v, ok, want, is)
	}
}

func checkPrev(t *testing.T, s uint64, to, want int, is bool) {
	t.Helper()
	if v, ok := bits.Prev(s, to); v != want || ok != is {
		t.Errorf("Prev(%#x, %d) = %d, %t, want %d, %t", s, to, v, ok, want, is)
	}
}

func checkTurn(t *testing.T, s uint64, from, size, want, steps int, is bool) {
	t.Helper()
	if v, n, ok := bits.Turn(s, from, size); v != want || n != steps || ok != is {
		t.Errorf("Turn(%#x, %d, %d) = %d, %d, %t, want %d, %d, %t", s, from, size, v, n, ok, want, steps, is)
	}
}

func checkRuns(t *testing.T, s uint64, want ...[3]int) {
	t.Helper()
	if l := bits.Runs(s); !slices.Equal(l, want) {
		t.Errorf("Runs(%#x) = %v, want %v", s, l, want)
	}
}

// P4.1 at the edges that the chapter names.
func TestRange(t *testing.T) {
	for _, x := range []struct {
		lo, hi, step int
		want         uint64
	}{
		{0, 59, 15, set(0, 15, 30, 45)}, {0, 60, 15, set(0, 15, 30, 45, 60)}, {1, 8, 3, set(1, 4, 7)}, {1, 7, 3, set(1, 4, 7)}, {1, 6, 3, set(1, 4)}, {60, 63, 1, set(60, 61, 62, 63)},
		{0, 63, 1, full}, {0, 63, 2, 0x5555555555555555}, {1, 63, 2, 0xaaaaaaaaaaaaaaaa}, {0, 62, 1, full >> 1}, {1, 63, 1, full << 1}, {0, 31, 1, math.MaxUint32},
		{0, 0, 1, 1}, {0, 0, 64, 1}, {63, 63, 1, 1 << 63}, {63, 63, 63, 1 << 63}, {31, 31, 7, 1 << 31},
		{3, 5, 2, set(3, 5)}, {3, 5, 3, set(3)}, {3, 5, 9, set(3)}, {0, 63, 62, set(0, 62)}, {0, 63, 63, set(0, 63)}, {0, 63, 64, set(0)}, {0, 63, 65, set(0)}, {1, 63, 62, set(1, 63)}, {1, 63, 63, set(1)},
		{0, 63, math.MaxInt, set(0)}, {1, 63, math.MaxInt, set(1)}, {63, 63, math.MaxInt, set(63)}, {63, 63, math.MaxInt - 62, set(63)}, {63, 63, 1 << 62, set(63)}, {5, 60, 1 << 32, set(5)}, {5, 60, 1<<32 + 1, set(5)}, {5, 60, 1<<62 + 2, set(5)},
	} {
		checkRange(t, x.lo, x.hi, x.step, x.want, api.OK)
	}
}

// P4.1: ErrRange for each end, before ErrArg.
func TestRangeErrors(t *testing.T) {
	for _, x := range []struct {
		lo, hi, step int
		err          api.Errno
	}{
		{-1, 3, 1, api.ErrRange}, {0, 64, 1, api.ErrRange}, {64, 64, 1, api.ErrRange}, {-1, -1, 1, api.ErrRange}, {-1, 64, 1, api.ErrRange},
		{0, 64, 0, api.ErrRange}, {-1, 3, 0, api.ErrRange}, {-1, 3, -1, api.ErrRange}, {64, 3, 1, api.ErrRange}, {3, -1, 1, api.ErrRange}, {64, -1, 0, api.ErrRange}, {-1, -2, math.MinInt, api.ErrRange},
		{5, 3, 1, api.ErrArg}, {63, 0, 1, api.ErrArg}, {1, 0, 1, api.ErrArg}, {1, 0, 0, api.ErrArg}, {1, 0, -1, api.ErrArg}, {5, 3, math.MaxInt, api.ErrArg},
		{0, 3, 0, api.ErrArg}, {0, 3, -1, api.ErrArg}, {3, 3, 0, api.ErrArg}, {3, 3, -1, api.ErrArg}, {0, 63, -64, api.ErrArg}, {0, 63, math.MinInt, api.ErrArg},
	} {
		checkRange(t, x.lo, x.hi, x.step, 0, x.err)
	}
	for _, v := range outside() {
		for _, step := range []int{1, 2, 64, math.MaxInt, 0, -1, math.MinInt} {
			for _, w := range numbers() {
				checkRange(t, v, w, step, 0, api.ErrRange)
				checkRange(t, w, v, step, 0, api.ErrRange)
			}
		}
		if v < 1 {
			checkRange(t, 0, 63, v, 0, api.ErrArg)
			checkRange(t, 7, 7, v, 0, api.ErrArg)
		} else {
			checkRange(t, 0, 63, v, set(0), api.OK)
			checkRange(t, 7, 7, v, set(7), api.OK)
		}
	}
}

// P4.1, by its definition, for all ends and steps from just below 0 to just beyond 63.
func TestRangeDefinition(t *testing.T) {
	for lo := range 64 {
		for hi := range 64 {
			for step := -2; step <= 130; step++ {
				if lo > hi || step < 1 {
					checkRange(t, lo, hi, step, 0, api.ErrArg)
					continue
				}
				want := uint64(0)
				for v := lo; v <= hi; v++ {
					if (v-lo)%step == 0 {
						want |= set(v)
					}
				}
				checkRange(t, lo, hi, step, want, api.OK)
			}
		}
	}
}

// P4.2: lists that are in no order, have numbers several times, or are empty.
func TestOf(t *testing.T) {
	for _, x := range []struct {
		l    []int
		want uint64
	}{
		{nil, 0}, {[]int{}, 0}, {[]int{0}, 1}, {[]int{63}, 1 << 63}, {[]int{5, 3, 5}, 40}, {[]int{5, 5, 5, 5}, 32}, {[]int{5, 5}, 32}, {[]int{0, 0}, 1}, {[]int{63, 63, 63}, 1 << 63},
		{[]int{63, 0}, 1<<63 | 1}, {[]int{1, 2, 3}, 14}, {[]int{3, 2, 1}, 14}, {[]int{2, 3, 1, 3, 2}, 14}, {list(full), full}, {append(list(full), list(full)...), full}, {[]int{31, 32, 33}, 7 << 31},
	} {
		checkOf(t, x.l, x.want, api.OK)
	}
	checkOf(t, make([]int, 1000000), 1, api.OK)
}

// P4.2: a number that no set has, at each place of a list.
func TestOfErrors(t *testing.T) {
	for _, v := range outside() {
		for _, l := range [][]int{{v}, {v, 5}, {5, v}, {5, v, 5}, {0, 63, v}, {v, 0, 63}, {v, v}, append(list(full), v), append([]int{v}, list(full)...)} {
			checkOf(t, l, 0, api.ErrRange)
		}
		for _, w := range outside() {
			checkOf(t, []int{v, w}, 0, api.ErrRange)
		}
	}
}

// P4.2: the numbers of a set.
func TestList(t *testing.T) {
	checkList(t, 0, nil)
	checkList(t, 1, []int{0})
	checkList(t, 1<<63, []int{63})
	checkList(t, set(0, 7, 63), []int{0, 7, 63})
	checkList(t, 40, []int{3, 5})
	for _, s := range sets() {
		checkList(t, s, list(s))
	}
	everySmall(func(s uint64) { checkList(t, s, list(s)) })
	var all []int
	for v := range 64 {
		all = append(all, v)
	}
	checkList(t, full, all)
}

// P4.3: Has and Count.
func TestHasAndCount(t *testing.T) {
	for _, s := range sets() {
		for _, v := range numbers() {
			if is := bits.Has(s, v); is != has(s, v) {
				t.Errorf("Has(%#x, %d) = %t", s, v, is)
			}
		}
		if n := bits.Count(s); n != len(list(s)) {
			t.Errorf("Count(%#x) = %d, want %d", s, n, len(list(s)))
		}
	}
	for _, x := range []struct {
		s    uint64
		want int
	}{{0, 0}, {1, 1}, {1 << 63, 1}, {set(0, 63), 2}, {set(3, 5), 2}, {full, 64}, {full >> 1, 63}, {full << 1, 63}} {
		if n := bits.Count(x.s); n != x.want {
			t.Errorf("Count(%#x) = %d, want %d", x.s, n, x.want)
		}
	}
	for _, v := range outside() {
		if bits.Has(full, v) || bits.Has(0, v) {
			t.Errorf("a set has %d", v)
		}
	}
	for v := range 64 {
		if !bits.Has(full, v) || bits.Has(0, v) || !bits.Has(set(v), v) || bits.Has(full&^set(v), v) {
			t.Errorf("Has is wrong with %d", v)
		}
	}
}

// P4.3: Inside, also for empty sets, for equal ones, and for those that lack a single number.
func TestInside(t *testing.T) {
	for _, x := range []struct {
		a, b uint64
		want bool
	}{
		{0, 0, true}, {0, full, true}, {full, full, true}, {full, 0, false}, {1, 0, false}, {0, 1, true}, {1 << 63, 0, false}, {1 << 63, 1 << 63, true},
		{set(3, 5), set(1, 3, 5), true}, {set(1, 3), set(3, 5), false}, {set(1, 3, 5), set(3, 5), false}, {set(1), set(2), false}, {set(0, 63), set(63), false}, {set(0, 63), set(0), false},
	} {
		if is := bits.Inside(x.a, x.b); is != x.want {
			t.Errorf("Inside(%#x, %#x) = %t", x.a, x.b, is)
		}
	}
	l := append(someSets(), set(1), set(1, 2), set(1, 2, 3))
	for _, a := range l {
		for _, b := range l {
			for _, c := range []uint64{b, a & b, a | b} {
				want := true
				for _, v := range list(a) {
					want = want && has(c, v)
				}
				if is := bits.Inside(a, c); is != want {
					t.Errorf("Inside(%#x, %#x) = %t", a, c, is)
				}
			}
		}
		for _, v := range list(a) {
			if bits.Inside(a, a&^set(v)) || !bits.Inside(a&^set(v), a) {
				t.Errorf("Inside is wrong with %#x, without %d", a, v)
			}
		}
	}
}

// P4.4 at the edges that the chapter names.
func TestNextAndPrev(t *testing.T) {
	for _, x := range []struct {
		s    uint64
		v    int
		next int
		ok   bool
		prev int
		is   bool
	}{
		{set(3, 5), math.MinInt, 3, true, 0, false}, {set(3, 5), -1, 3, true, 0, false}, {set(3, 5), 0, 3, true, 0, false}, {set(3, 5), 2, 3, true, 0, false}, {set(3, 5), 3, 3, true, 3, true},
		{set(3, 5), 4, 5, true, 3, true}, {set(3, 5), 5, 5, true, 5, true}, {set(3, 5), 6, 0, false, 5, true}, {set(3, 5), 63, 0, false, 5, true}, {set(3, 5), 64, 0, false, 5, true}, {set(3, 5), math.MaxInt, 0, false, 5, true},
		{1, -1, 0, true, 0, false}, {1, 0, 0, true, 0, true}, {1, 1, 0, false, 0, true}, {1, 64, 0, false, 0, true}, {1, math.MaxInt, 0, false, 0, true}, {1, math.MinInt, 0, true, 0, false},
		{1 << 63, -1, 63, true, 0, false}, {1 << 63, 62, 63, true, 0, false}, {1 << 63, 63, 63, true, 63, true}, {1 << 63, 64, 0, false, 63, true}, {1 << 63, math.MaxInt, 0, false, 63, true}, {1 << 63, math.MinInt, 63, true, 0, false},
		{full, math.MinInt, 0, true, 0, false}, {full, -1, 0, true, 0, false}, {full, 0, 0, true, 0, true}, {full, 63, 63, true, 63, true}, {full, 64, 0, false, 63, true}, {full, math.MaxInt, 0, false, 63, true},
		{0, math.MinInt, 0, false, 0, false}, {0, 0, 0, false, 0, false}, {0, 63, 0, false, 0, false}, {0, math.MaxInt, 0, false, 0, false},
	} {
		checkNext(t, x.s, x.v, x.next, x.ok)
		checkPrev(t, x.s, x.v, x.prev, x.is)
	}
}

// P4.4, by its definition, from all numbers and many that no set has.
func TestNextAndPrevDefinition(t *testing.T) {
	for _, s := range sets() {
		for _, v := range numbers() {
			next, ok, prev, is := 0, false, 0, false
			for _, n := range list(s) {
				if n >= v && !ok {
					next, ok = n, true
				}
				if n <= v {
					prev, is = n, true
				}
			}
			checkNext(t, s, v, next, ok)
			checkPrev(t, s, v, prev, is)
		}
	}
}

// P4.5 at the edges that the chapter names.
func TestTurn(t *testing.T) {
	for _, x := range []struct {
		s                   uint64
		from, size, v, gone int
	}{
		{set(3, 5), 6, 7, 3, 4}, {set(3, 5), 5, 7, 5, 0}, {set(3, 5), 0, 7, 3, 3}, {set(3, 5), 4, 5, 3, 4}, {set(3, 5), 4, 6, 5, 1}, {set(3, 5), 3, 4, 3, 0}, {set(3, 5), 63, 64, 3, 4},
		{1, 0, 1, 0, 0}, {full, 0, 1, 0, 0}, {1, 0, 64, 0, 0}, {1, 1, 64, 0, 63}, {1, 63, 64, 0, 1}, {1 << 63, 63, 64, 63, 0}, {1 << 63, 0, 64, 63, 63}, {1 << 62, 63, 64, 62, 63}, {1 << 62, 62, 63, 62, 0}, {1 << 62, 0, 63, 62, 62},
		{set(0, 63), 1, 63, 0, 62}, {set(0, 63), 1, 64, 63, 62}, {set(2, 60), 3, 60, 2, 59}, {set(2, 60), 3, 61, 60, 57}, {full, 63, 64, 63, 0}, {full << 6, 5, 7, 6, 1}, {set(1, 9), 2, 9, 1, 8},
	} {
		checkTurn(t, x.s, x.from, x.size, x.v, x.gone, true)
	}
	for _, x := range []struct {
		s          uint64
		from, size int
	}{
		{set(3), 0, 3}, {set(3, 5), 0, 3}, {set(3, 5), 2, 3}, {full << 1, 0, 1}, {1 << 63, 0, 63}, {1 << 63, 62, 63}, {full << 32, 31, 32}, {full << 63, 0, 1}, {0, 0, 1}, {0, 0, 64}, {0, 63, 64}, {0, 5, 9},
		{full, 0, 0}, {full, 0, -1}, {full, 0, 65}, {full, -1, 64}, {full, 64, 64}, {full, 64, 65}, {full, 1, 1}, {full, -1, 1}, {full, 7, 7}, {full, 8, 7}, {full, -1, -1}, {full, 63, 63}, {full, -7, 7}, {full, -64, 64},
	} {
		checkTurn(t, x.s, x.from, x.size, 0, 0, false)
	}
}

// P4.5, by its definition: one step after the other, in all circles.
func TestTurnDefinition(t *testing.T) {
	for _, s := range someSets() {
		for size := -2; size <= 67; size++ {
			for from := -2; from <= 67; from++ {
				v, steps, ok := 0, 0, false
				if size >= 1 && size <= 64 && from >= 0 && from < size {
					for n, at := 0, from; n < size && !ok; n, at = n+1, (at+1)%size {
						if has(s, at) {
							v, steps, ok = at, n, true
						}
					}
				}
				checkTurn(t, s, from, size, v, steps, ok)
			}
		}
	}
}

// P4.5: sizes and beginnings that are not allowed, alone and together.
func TestTurnOutside(t *testing.T) {
	for _, s := range []uint64{0, 1, full, set(3, 5), 1 << 63} {
		for _, size := range append(outside(), 0) {
			if size == 64 {
				continue // no number of a set, but the size of a circle
			}
			for _, from := range numbers() {
				checkTurn(t, s, from, size, 0, 0, false)
			}
		}
		for _, from := range outside() {
			for _, size := range numbers() {
				checkTurn(t, s, from, size, 0, 0, false)
			}
		}
	}
}

// P4.6 at the edges that the chapter names.
func TestRuns(t *testing.T) {
	checkRuns(t, 0)
	checkRuns(t, full, [3]int{0, 63, 1})
	checkRuns(t, 1, [3]int{0, 0, 1})
	checkRuns(t, 1<<63, [3]int{63, 63, 1})
	checkRuns(t, set(31), [3]int{31, 31, 1})
	checkRuns(t, set(0, 15, 30, 45), [3]int{0, 45, 15})
	checkRuns(t, set(1, 2, 3, 9), [3]int{1, 3, 1}, [3]int{9, 9, 1})
	// Two numbers: neighbours are a run, others are not.
	checkRuns(t, set(8, 9), [3]int{8, 9, 1})
	checkRuns(t, set(0, 1), [3]int{0, 1, 1})
	checkRuns(t, set(62, 63), [3]int{62, 63, 1})
	checkRuns(t, set(1, 4), [3]int{1, 1, 1}, [3]int{4, 4, 1})
	checkRuns(t, set(8, 10), [3]int{8, 8, 1}, [3]int{10, 10, 1})
	checkRuns(t, set(0, 63), [3]int{0, 0, 1}, [3]int{63, 63, 1})
	// Three numbers at one distance are a run.
	checkRuns(t, set(0, 2, 4), [3]int{0, 4, 2})
	checkRuns(t, set(1, 32, 63), [3]int{1, 63, 31})
	checkRuns(t, 0x5555555555555555, [3]int{0, 62, 2})
	checkRuns(t, 0xaaaaaaaaaaaaaaaa, [3]int{1, 63, 2})
	checkRuns(t, full<<1, [3]int{1, 63, 1})
	checkRuns(t, full>>1, [3]int{0, 62, 1})
	// The second of two numbers begins another run, or is alone.
	checkRuns(t, set(1, 4, 6, 8), [3]int{1, 1, 1}, [3]int{4, 8, 2})
	checkRuns(t, set(1, 4, 5), [3]int{1, 1, 1}, [3]int{4, 5, 1})
	checkRuns(t, set(1, 4, 6), [3]int{1, 1, 1}, [3]int{4, 4, 1}, [3]int{6, 6, 1})
	checkRuns(t, set(1, 4, 6, 9), [3]int{1, 1, 1}, [3]int{4, 4, 1}, [3]int{6, 6, 1}, [3]int{9, 9, 1})
	// A number that goes on in two ways belongs to the first run.
	checkRuns(t, set(0, 2, 4, 5, 6), [3]int{0, 4, 2}, [3]int{5, 6, 1})
	checkRuns(t, set(0, 1, 3, 5), [3]int{0, 1, 1}, [3]int{3, 3, 1}, [3]int{5, 5, 1})
	checkRuns(t, set(0, 1, 3, 5, 7), [3]int{0, 1, 1}, [3]int{3, 7, 2})
	checkRuns(t, set(0, 1, 2, 4, 6), [3]int{0, 2, 1}, [3]int{4, 4, 1}, [3]int{6, 6, 1})
	checkRuns(t, set(0, 2, 4, 7, 10, 13), [3]int{0, 4, 2}, [3]int{7, 13, 3})
	checkRuns(t, set(0, 2, 4, 7), [3]int{0, 4, 2}, [3]int{7, 7, 1})
	checkRuns(t, set(0, 2, 4, 6, 61, 62, 63), [3]int{0, 6, 2}, [3]int{61, 63, 1})
	checkRuns(t, set(0, 3, 6, 8, 10, 12), [3]int{0, 6, 3}, [3]int{8, 12, 2})
	// A gap ends a run, also one of a multiple of its step.
	checkRuns(t, set(0, 2, 4, 8, 10, 12), [3]int{0, 4, 2}, [3]int{8, 12, 2})
	checkRuns(t, set(0, 1, 2, 4, 5, 6), [3]int{0, 2, 1}, [3]int{4, 6, 1})
	checkRuns(t, set(0, 10, 20, 21), [3]int{0, 20, 10}, [3]int{21, 21, 1})
	checkRuns(t, set(0, 10, 20, 25, 30, 40), [3]int{0, 20, 10}, [3]int{25, 25, 1}, [3]int{30, 30, 1}, [3]int{40, 40, 1})
}

// runs makes the runs of a set in the words of the chapter, from a list of the numbers that are left.
func runs(s uint64) [][3]int {
	var made [][3]int
	left := list(s)
	for len(left) > 0 {
		lo := left[0]
		if len(left) == 1 {
			return append(made, [3]int{lo, lo, 1})
		}
		step := left[1] - lo
		n := 2
		for n < len(left) && left[n]-left[n-1] == step {
			n++
		}
		if n >= 3 || step == 1 {
			made = append(made, [3]int{lo, left[n-1], step})
		} else {
			n = 1
			made = append(made, [3]int{lo, lo, 1})
		}
		left = left[n:]
	}
	return made
}

// P4.6, by its definition.
func TestRunsDefinition(t *testing.T) {
	for _, s := range append(sets(), random(5000)...) {
		checkRuns(t, s, runs(s)...)
	}
	everySmall(func(s uint64) { checkRuns(t, s, runs(s)...) })
}

// numbersOf returns the numbers for which a run stands.
func numbersOf(run [3]int) []int {
	var l []int
	for v := run[0]; v <= run[1]; v += run[2] {
		l = append(l, v)
	}
	return l
}

// P4.6, P4.7: each run is one by the chapter's definition; together they are the set, and they have no number in common.
func TestRunsAreTheSet(t *testing.T) {
	check := func(s uint64) {
		var all uint64
		for _, run := range bits.Runs(s) {
			lo, hi, step := run[0], run[1], run[2]
			if lo < 0 || hi < lo || hi > 63 || step < 1 || (hi-lo)%step != 0 || lo == hi && step != 1 {
				t.Fatalf("Runs(%#x) has %v", s, run)
			}
			made := set(numbersOf(run)...)
			checkRange(t, lo, hi, step, made, api.OK)
			if all&made != 0 {
				t.Errorf("Runs(%#x) has numbers of %v twice", s, run)
			}
			all |= made
		}
		if all != s {
			t.Errorf("the runs of %#x are %#x", s, all)
		}
	}
	for _, s := range append(sets(), random(5000)...) {
		check(s)
	}
	everySmall(check)
}

// P4.7: Of the numbers of List is the set.
func TestOfList(t *testing.T) {
	check := func(s uint64) {
		l := bits.List(s)
		if len(l) != bits.Count(s) {
			t.Errorf("List(%#x) has %d numbers, Count is %d", s, len(l), bits.Count(s))
		}
		for i := 1; i < len(l); i++ {
			if l[i-1] >= l[i] {
				t.Errorf("List(%#x) = %v", s, l)
			}
		}
		checkOf(t, l, s, api.OK)
	}
	for _, s := range append(sets(), random(5000)...) {
		check(s)
	}
	everySmall(check)
}

// P4.8: between Prev of v - 1 and Next of v there is no number of the set, and each of them is found from the other one.
func TestNeighbours(t *testing.T) {
	for _, s := range sets() {
		for _, v := range numbers() {
			if v == math.MinInt {
				continue
			}
			prev, is := bits.Prev(s, v-1)
			next, ok := bits.Next(s, v)
			from, to := -1, 64
			if is {
				from = prev
			}
			if ok {
				to = next
			}
			if is && (prev >= v || !has(s, prev)) || ok && (next < v || !has(s, next)) {
				t.Errorf("%#x: Prev of %d is %d, Next is %d", s, v-1, prev, next)
			}
			for n := from + 1; n < to; n++ {
				if has(s, n) {
					t.Errorf("%#x: %d is between Prev of %d and Next of %d", s, n, v-1, v)
				}
			}
			if is && ok {
				checkNext(t, s, prev+1, next, true)
				checkPrev(t, s, next-1, prev, true)
			}
		}
	}
}

// P4.8: Turn goes at most size - 1 steps, to a number of the set, and past none.
func TestTurnSteps(t *testing.T) {
	for _, s := range random(20) {
		for size := 1; size <= 64; size++ {
			for from := range size {
				v, steps, ok := bits.Turn(s, from, size)
				if !ok {
					continue
				}
				if steps < 0 || steps > size-1 || v != (from+steps)%size || !bits.Has(s, v) {
					t.Errorf("Turn(%#x, %d, %d) = %d, %d", s, from, size, v, steps)
				}
				if steps > 0 {
					checkTurn(t, s, (from+1)%size, size, v, steps-1, true)
				}
			}
		}
	}
}

// P4.9: a range of at least three numbers, or with the step 1, has one run.
func TestRunOfRange(t *testing.T) {
	for lo := range 64 {
		for hi := lo; hi < 64; hi++ {
			for step := 1; step <= 65; step++ {
				s, _ := bits.Range(lo, hi, step)
				n := (hi-lo)/step + 1
				last := lo + (n-1)*step
				switch {
				case n >= 3 || step == 1:
					checkRuns(t, s, [3]int{lo, last, step})
				case n == 2:
					checkRuns(t, s, [3]int{lo, lo, 1}, [3]int{last, last, 1})
				default:
					checkRuns(t, s, [3]int{lo, lo, 1})
				}
			}
		}
	}
}

// R4: Of neither changes its list nor looks behind its end, and results share no memory.
func TestMemory(t *testing.T) {
	l := []int{5, 3, 5, 64, -1}
	checkOf(t, l[:3], set(3, 5), api.OK)
	checkOf(t, l, 0, api.ErrRange)
	if !slices.Equal(l, []int{5, 3, 5, 64, -1}) {
		t.Errorf("Of has changed its list to %v", l)
	}
	s := set(0, 2, 4, 5, 6)
	first, runs := bits.List(s), bits.Runs(s)
	clear(first)
	clear(runs)
	_ = append(first[:0], 9, 9, 9)
	_ = append(runs[:0], [3]int{9, 9, 9})
	checkList(t, s, []int{0, 2, 4, 5, 6})
	checkRuns(t, s, [3]int{0, 4, 2}, [3]int{5, 6, 1})
}

// P1, R8: all calls return, for all arguments, and return the same again.
func TestEveryArgument(t *testing.T) {
	type results struct {
		ranged, of         uint64
		has, inside        bool
		count              int
		next, prev, turned int
		found, left, met   bool
		steps              int
		err1, err2         api.Errno
	}
	call := func(s uint64, a, b, c int) (r results) {
		r.ranged, r.err1 = bits.Range(a, b, c)
		r.of, r.err2 = bits.Of([]int{a, b, c})
		r.has, r.inside, r.count = bits.Has(s, a), bits.Inside(s, uint64(b)), bits.Count(s)
		r.next, r.found = bits.Next(s, a)
		r.prev, r.left = bits.Prev(s, a)
		r.turned, r.steps, r.met = bits.Turn(s, a, b)
		return r
	}
	some := append(outside(), 0, 1, 2, 31, 32, 62, 63)
	for _, s := range []uint64{0, 1, full, 1 << 63, set(3, 5), 0x5555555555555555} {
		for _, a := range some {
			for _, b := range some {
				for _, c := range some {
					if one, two := call(s, a, b, c), call(s, a, b, c); one != two {
						t.Errorf("the calls with %#x, %d, %d and %d return %v, and then %v", s, a, b, c, one, two)
					}
				}
			}
		}
		if !slices.Equal(bits.List(s), bits.List(s)) || !slices.Equal(bits.Runs(s), bits.Runs(s)) {
			t.Errorf("List and Runs of %#x differ from call to call", s)
		}
	}
}
