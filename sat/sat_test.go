package sat_test

import (
	"math"
	"math/big"
	"slices"
	"testing"

	"wakeman/api"
	"wakeman/sat"
)

const (
	never = api.Never
	most  = int64(math.MaxInt64)
	least = int64(math.MinInt64)
)

// numbers returns the edges of the chapter, ordinary numbers, and numbers of all lengths that follow a fixed rule; sorted.
func numbers() []int64 {
	l := []int64{0, 1, 2, 3, 5, 7, 10, 59, 60, 86400, api.MaxSpan, api.MaxTime, 1 << 61, never - 2, never - 1, never, never + 1, never + 2, most - 1, most}
	for _, n := range []int64{31, 32} {
		l = append(l, 1<<n-1, 1<<n, 1<<n+1)
	}
	// The greatest number whose square is at most Never is 2^31, that whose square fits into int64 is this one.
	l = append(l, 3037000499, 3037000500)
	x := uint64(1)
	for i := range 24 {
		x = x*6364136223846793005 + 1442695040888963407
		l = append(l, int64(x>>1)>>(i*62/23))
	}
	for _, n := range l {
		l = append(l, -n)
	}
	l = append(l, least)
	slices.Sort(l)
	return slices.Compact(l)
}

func wide(n int64) *big.Int { return big.NewInt(n) }

// clipped is the definition of clipping, for numbers of any size.
func clipped(n *big.Int) int64 {
	if n.Cmp(wide(never)) > 0 {
		return never
	}
	if n.Cmp(wide(-never)) < 0 {
		return -never
	}
	return n.Int64()
}

// pairs calls f with all pairs of numbers.
func pairs(f func(a, b int64)) {
	l := numbers()
	for _, a := range l {
		for _, b := range l {
			f(a, b)
		}
	}
}

// P1.1: Clip.
func TestClip(t *testing.T) {
	for _, x := range []struct{ a, want int64 }{
		{0, 0}, {5, 5}, {-5, -5},
		{never - 1, never - 1}, {never, never}, {never + 1, never}, {most, never},
		{1 - never, 1 - never}, {-never, -never}, {-never - 1, -never}, {-most, -never}, {least, -never},
	} {
		if n := sat.Clip(x.a); n != x.want {
			t.Errorf("Clip(%d) = %d, want %d", x.a, n, x.want)
		}
	}
	for _, a := range numbers() {
		if n, want := sat.Clip(a), clipped(wide(a)); n != want {
			t.Errorf("Clip(%d) = %d, want %d", a, n, want)
		}
	}
}

// P1.1: Add, Sub, Mul at the edges that the chapter names.
func TestClippedEdges(t *testing.T) {
	for _, x := range []struct {
		name       string
		f          func(a, b int64) int64
		a, b, want int64
	}{
		{"Add", sat.Add, 3, 4, 7},
		{"Add", sat.Add, never, 1, never},
		{"Add", sat.Add, never, -1, never - 1},
		{"Add", sat.Add, never, never, never},
		{"Add", sat.Add, -never, -never, -never},
		{"Add", sat.Add, most, -1, never - 1},
		{"Add", sat.Add, most, most, never},
		{"Add", sat.Add, least, 1, 1 - never},
		{"Add", sat.Add, least, least, -never},
		{"Add", sat.Add, most, least, 0},
		{"Sub", sat.Sub, 3, 4, -1},
		{"Sub", sat.Sub, 0, least, never},
		{"Sub", sat.Sub, 0, most, -never},
		{"Sub", sat.Sub, least, least, 0},
		{"Sub", sat.Sub, most, never, 0},
		{"Sub", sat.Sub, most, 1, never - 1},
		{"Sub", sat.Sub, never, -never, never},
		{"Sub", sat.Sub, -never, never, -never},
		{"Mul", sat.Mul, 3, -4, -12},
		{"Mul", sat.Mul, 0, least, 0},
		{"Mul", sat.Mul, most, 0, 0},
		{"Mul", sat.Mul, 1 << 31, 1 << 31, never},
		{"Mul", sat.Mul, 1 << 31, -1 << 32, -never},
		{"Mul", sat.Mul, 1<<31 - 1, 1 << 31, never - 1<<31},
		{"Mul", sat.Mul, 1<<31 + 1, 1 << 31, never},
		{"Mul", sat.Mul, 1 << 32, 1 << 32, never}, // the lower word of the product is 0
		{"Mul", sat.Mul, -1 << 32, 1 << 32, -never},
		{"Mul", sat.Mul, least, -1, never},
		{"Mul", sat.Mul, least, least, never},
		{"Mul", sat.Mul, least, most, -never},
		{"Mul", sat.Mul, -never, -1, never},
	} {
		if n := x.f(x.a, x.b); n != x.want {
			t.Errorf("%s(%d, %d) = %d, want %d", x.name, x.a, x.b, n, x.want)
		}
	}
}

// P1.1: Add, Sub, Mul, by their definition.
func TestClippedDefinition(t *testing.T) {
	pairs(func(a, b int64) {
		x, y := wide(clipped(wide(a))), wide(clipped(wide(b)))
		if n, want := sat.Add(a, b), clipped(new(big.Int).Add(x, y)); n != want {
			t.Errorf("Add(%d, %d) = %d, want %d", a, b, n, want)
		}
		if n, want := sat.Sub(a, b), clipped(new(big.Int).Sub(x, y)); n != want {
			t.Errorf("Sub(%d, %d) = %d, want %d", a, b, n, want)
		}
		if n, want := sat.Mul(a, b), clipped(new(big.Int).Mul(x, y)); n != want {
			t.Errorf("Mul(%d, %d) = %d, want %d", a, b, n, want)
		}
	})
}

// P1.2.
func TestSum(t *testing.T) {
	for _, x := range []struct {
		l    []int64
		want int64
	}{
		{nil, 0},
		{[]int64{}, 0},
		{[]int64{7}, 7},
		{[]int64{1, 2, -4}, -1},
		{[]int64{most}, never},
		{[]int64{least}, -never},
		{[]int64{never, 5, -7}, never - 7},
		{[]int64{never, -7, 5}, never - 2},
		{[]int64{-7, never, 5}, never - 2},
		{[]int64{-never, -5, 7}, 7 - never},
		{[]int64{most, most, least}, 0},
		{[]int64{least, least, 3, 1}, 4 - never},
	} {
		before := slices.Clone(x.l)
		if n := sat.Sum(x.l); n != x.want {
			t.Errorf("Sum(%d) = %d, want %d", x.l, n, x.want)
		}
		if !slices.Equal(x.l, before) {
			t.Errorf("Sum changed its argument from %d to %d", before, x.l)
		}
	}
}

// P1.2: lists of any length, and only what is within the length.
func TestSumLength(t *testing.T) {
	long := make([]int64, 1_000_000)
	for i := range long {
		long[i] = 3
	}
	if n := sat.Sum(long); n != 3_000_000 {
		t.Errorf("Sum of a million times 3 = %d", n)
	}
	if n := sat.Sum([]int64{1, 2, 3, 4}[:2]); n != 3 {
		t.Errorf("Sum of 1, 2 with spare capacity = %d, want 3", n)
	}
	var want int64
	l := numbers()
	for _, a := range l {
		want = sat.Add(want, a)
	}
	if n := sat.Sum(l); n != want {
		t.Errorf("Sum(%d) = %d, want %d", l, n, want)
	}
}

// P1.3 at the edges that the chapter names.
func TestPow(t *testing.T) {
	for _, x := range []struct {
		a    int64
		n    int
		want int64
	}{
		{2, 10, 1024}, {-3, 3, -27}, {-3, 4, 81}, {7, 1, 7},
		{7, -1, 0}, {1, -1, 0}, {0, -1, 0}, {2, math.MinInt, 0},
		{0, 0, 1}, {7, 0, 1}, {most, 0, 1}, {least, 0, 1},
		{0, 1, 0}, {0, math.MaxInt, 0},
		{1, math.MaxInt, 1}, {-1, math.MaxInt, -1}, {-1, math.MaxInt - 1, 1},
		{2, 61, 1 << 61}, {2, 62, never}, {2, 63, never}, {2, 64, never}, {2, 128, never},
		{-2, 61, -1 << 61}, {-2, 62, never}, {-2, 63, -never}, {-2, 64, never}, {-2, 65, -never},
		{3, math.MaxInt, never}, {-3, math.MaxInt, -never}, {-3, math.MaxInt - 1, never},
		{most, 1, never}, {least, 1, -never}, {least, 2, never}, {least, 3, -never}, {never, math.MaxInt, never},
		{10, 18, 1_000_000_000_000_000_000}, {10, 19, never},
	} {
		if n := sat.Pow(x.a, x.n); n != x.want {
			t.Errorf("Pow(%d, %d) = %d, want %d", x.a, x.n, n, x.want)
		}
	}
}

// P1.3, by its definition.
func TestPowDefinition(t *testing.T) {
	for _, a := range append(numbers(), -10, -7, -6, 4, 6, 8, 9) {
		x, power := wide(clipped(wide(a))), wide(1)
		for n := range 130 {
			if got, want := sat.Pow(a, n), clipped(power); got != want {
				t.Errorf("Pow(%d, %d) = %d, want %d", a, n, got, want)
			}
			power.Mul(power, x)
		}
	}
}

// P1.4 at the edges that the chapter names.
func TestExactEdges(t *testing.T) {
	for _, x := range []struct {
		name string
		f    func(a, b int64) (int64, api.Errno)
		a, b int64
		want int64
		err  api.Errno
	}{
		{"Plus", sat.Plus, 3, -4, -1, api.OK},
		{"Plus", sat.Plus, never, never - 1, most, api.OK},
		{"Plus", sat.Plus, never, never, 0, api.ErrOver},
		{"Plus", sat.Plus, -never, -never, least, api.OK},
		{"Plus", sat.Plus, -never, -never - 1, 0, api.ErrOver},
		{"Plus", sat.Plus, most, 0, most, api.OK},
		{"Plus", sat.Plus, most, 1, 0, api.ErrOver},
		{"Plus", sat.Plus, most, most, 0, api.ErrOver},
		{"Plus", sat.Plus, least, 0, least, api.OK},
		{"Plus", sat.Plus, least, -1, 0, api.ErrOver},
		{"Plus", sat.Plus, least, least, 0, api.ErrOver},
		{"Plus", sat.Plus, least, most, -1, api.OK},
		{"Times", sat.Times, 3, -4, -12, api.OK},
		{"Times", sat.Times, never, 2, 0, api.ErrOver},
		{"Times", sat.Times, never, -2, least, api.OK},
		{"Times", sat.Times, -never, 2, least, api.OK},
		{"Times", sat.Times, -never, -2, 0, api.ErrOver},
		{"Times", sat.Times, most, 1, most, api.OK},
		{"Times", sat.Times, most, -1, -most, api.OK},
		{"Times", sat.Times, most, most, 0, api.ErrOver},
		{"Times", sat.Times, least, 1, least, api.OK},
		{"Times", sat.Times, 1, least, least, api.OK},
		{"Times", sat.Times, least, -1, 0, api.ErrOver},
		{"Times", sat.Times, -1, least, 0, api.ErrOver},
		{"Times", sat.Times, least, 0, 0, api.OK},
		{"Times", sat.Times, 0, least, 0, api.OK},
		{"Times", sat.Times, least, least, 0, api.ErrOver},
		{"Times", sat.Times, 1 << 32, 1 << 32, 0, api.ErrOver}, // the lower word of the product is 0
		{"Times", sat.Times, 1 << 32, -1 << 32, 0, api.ErrOver},
	} {
		if n, err := x.f(x.a, x.b); n != x.want || err != x.err {
			t.Errorf("%s(%d, %d) = %d, %d, want %d, %d", x.name, x.a, x.b, n, err, x.want, x.err)
		}
	}
}

// P1.4, by its definition.
func TestExactDefinition(t *testing.T) {
	check := func(name string, a, b, n int64, err api.Errno, exact *big.Int) {
		if exact.IsInt64() && (n != exact.Int64() || err != api.OK) {
			t.Errorf("%s(%d, %d) = %d, %d, want %d", name, a, b, n, err, exact)
		}
		if !exact.IsInt64() && (n != 0 || err != api.ErrOver) {
			t.Errorf("%s(%d, %d) = %d, %d, want 0, ErrOver", name, a, b, n, err)
		}
	}
	pairs(func(a, b int64) {
		n, err := sat.Plus(a, b)
		check("Plus", a, b, n, err, new(big.Int).Add(wide(a), wide(b)))
		n, err = sat.Times(a, b)
		check("Times", a, b, n, err, new(big.Int).Mul(wide(a), wide(b)))
	})
}

// P1.5 at the edges that the chapter names.
func TestDivEdges(t *testing.T) {
	for _, x := range []struct {
		a, b, quotient, rest, ceil int64
		err                        api.Errno
	}{
		{7, 3, 2, 1, 3, api.OK},
		{-7, 3, -3, 2, -2, api.OK},
		{6, 3, 2, 0, 2, api.OK},
		{-6, 3, -2, 0, -2, api.OK},
		{0, 5, 0, 0, 0, api.OK},
		{2, 5, 0, 2, 1, api.OK},
		{-2, 5, -1, 3, 0, api.OK},
		{most, 1, most, 0, most, api.OK},
		{most, most, 1, 0, 1, api.OK},
		{-1, most, -1, most - 1, 0, api.OK},
		{least, 1, least, 0, least, api.OK},
		{least, 2, -never, 0, -never, api.OK},
		{least, most, -2, most - 1, -1, api.OK},
		{7, 0, 0, 0, 0, api.ErrArg},
		{0, 0, 0, 0, 0, api.ErrArg},
		{7, -1, 0, 0, 0, api.ErrArg},
		{least, -1, 0, 0, 0, api.ErrArg},
		{least, least, 0, 0, 0, api.ErrArg},
	} {
		if q, r, err := sat.Div(x.a, x.b); q != x.quotient || r != x.rest || err != x.err {
			t.Errorf("Div(%d, %d) = %d, %d, %d, want %d, %d, %d", x.a, x.b, q, r, err, x.quotient, x.rest, x.err)
		}
		if c, err := sat.Ceil(x.a, x.b); c != x.ceil || err != x.err {
			t.Errorf("Ceil(%d, %d) = %d, %d, want %d, %d", x.a, x.b, c, err, x.ceil, x.err)
		}
	}
}

// P1.5, by its definition.
func TestDivDefinition(t *testing.T) {
	pairs(func(a, b int64) {
		q, r, err := sat.Div(a, b)
		c, other := sat.Ceil(a, b)
		if b < 1 {
			if q != 0 || r != 0 || c != 0 || err != api.ErrArg || other != api.ErrArg {
				t.Errorf("Div and Ceil of %d and %d: %d, %d, %d and %d, %d", a, b, q, r, err, c, other)
			}
			return
		}
		// big.Int's DivMod rounds down for divisors above 0.
		down, rest := new(big.Int).DivMod(wide(a), wide(b), new(big.Int))
		if err != api.OK || wide(q).Cmp(down) != 0 || wide(r).Cmp(rest) != 0 {
			t.Errorf("Div(%d, %d) = %d, %d, %d, want %d, %d", a, b, q, r, err, down, rest)
		}
		up := new(big.Int).Neg(new(big.Int).Div(new(big.Int).Neg(wide(a)), wide(b)))
		if other != api.OK || wide(c).Cmp(up) != 0 {
			t.Errorf("Ceil(%d, %d) = %d, %d, want %d", a, b, c, other, up)
		}
	})
}

// P1.6.
func TestOrder(t *testing.T) {
	pairs(func(a, b int64) {
		if sat.Add(a, b) != sat.Add(b, a) {
			t.Errorf("Add(%d, %d) depends on the order", a, b)
		}
		if sat.Mul(a, b) != sat.Mul(b, a) {
			t.Errorf("Mul(%d, %d) depends on the order", a, b)
		}
		if sat.Sub(a, b) != -sat.Sub(b, a) {
			t.Errorf("Sub(%d, %d) is not -Sub(%d, %d)", a, b, b, a)
		}
	})
	l := numbers()
	for i := range len(l) - 1 {
		for _, c := range l {
			if sat.Add(l[i], c) > sat.Add(l[i+1], c) {
				t.Errorf("Add(%d, %d) is above Add(%d, %d)", l[i], c, l[i+1], c)
			}
		}
	}
}

// P1.7.
func TestExactWithinNever(t *testing.T) {
	within := func(n int64) bool { return -never <= n && n <= never }
	pairs(func(a, b int64) {
		if !within(a) || !within(b) {
			return
		}
		if n, err := sat.Plus(a, b); err == api.OK && within(n) && sat.Add(a, b) != n {
			t.Errorf("Add(%d, %d) = %d, Plus returns %d", a, b, sat.Add(a, b), n)
		}
		if n, err := sat.Times(a, b); err == api.OK && within(n) && sat.Mul(a, b) != n {
			t.Errorf("Mul(%d, %d) = %d, Times returns %d", a, b, sat.Mul(a, b), n)
		}
		// Never + Never is the only difference that int64 does not have; it wraps around to -2^63, which is not within.
		if within(a-b) && sat.Sub(a, b) != a-b {
			t.Errorf("Sub(%d, %d) = %d, want %d", a, b, sat.Sub(a, b), a-b)
		}
	})
}

// P1.8.
func TestRests(t *testing.T) {
	pairs(func(a, b int64) {
		if b < 1 {
			return
		}
		q, r, _ := sat.Div(a, b)
		if r < 0 || r > b-1 {
			t.Errorf("Div(%d, %d) has the rest %d", a, b, r)
		}
		if r > 0 {
			q++
		}
		if c, _ := sat.Ceil(a, b); c != q {
			t.Errorf("Ceil(%d, %d) = %d, want %d", a, b, c, q)
		}
	})
}

// P1.9.
func TestPowers(t *testing.T) {
	exponents := []int{0, 1, 2, 3, 5, 8, 30, 31, 32, 61, 62, 63, 64, 1000, 1<<31 - 1, math.MaxInt / 2}
	for _, a := range numbers() {
		for _, m := range exponents {
			for _, n := range exponents {
				if got, want := sat.Pow(a, m+n), sat.Mul(sat.Pow(a, m), sat.Pow(a, n)); got != want {
					t.Errorf("Pow(%d, %d + %d) = %d, the product of both powers is %d", a, m, n, got, want)
				}
			}
		}
	}
}

// P1, R8: all calls return, for all arguments, and return the same again.
func TestEveryArgument(t *testing.T) {
	type results struct {
		clip, add, sub, mul, pow, plus, times, quotient, rest, ceil int64
		over, overTimes, arg, argCeil                               api.Errno
	}
	call := func(a, b int64) (r results) {
		r.clip, r.add, r.sub, r.mul, r.pow = sat.Clip(a), sat.Add(a, b), sat.Sub(a, b), sat.Mul(a, b), sat.Pow(a, int(b))
		r.plus, r.over = sat.Plus(a, b)
		r.times, r.overTimes = sat.Times(a, b)
		r.quotient, r.rest, r.arg = sat.Div(a, b)
		r.ceil, r.argCeil = sat.Ceil(a, b)
		return r
	}
	pairs(func(a, b int64) {
		if first, second := call(a, b), call(a, b); first != second {
			t.Errorf("the calls with %d and %d return %v, and then %v", a, b, first, second)
		}
	})
}
