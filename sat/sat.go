// Package sat is layer 1: exact and saturating arithmetic on times. See shared/doc/01-sat.md.
package sat

import (
	"math"
	"math/bits"

	"wakeman/api"
)

// Add returns the sum of the clipped a and b, clipped.
func Add(a, b int64) int64 {
	n, err := Plus(Clip(a), Clip(b))
	if err != api.OK {
		// Of two clipped numbers, only Never and Never have a sum (2^63) that does not fit.
		return api.Never
	}
	return Clip(n)
}

// Sub returns the difference of the clipped a and b, clipped.
func Sub(a, b int64) int64 {
	// -Clip(b) always fits, -b does not.
	return Add(a, -Clip(b))
}

// Mul returns the product of the clipped a and b, clipped.
func Mul(a, b int64) int64 {
	a, b = Clip(a), Clip(b)
	n, err := Times(a, b)
	if err == api.OK {
		return Clip(n)
	}
	if opposite(a, b) {
		return -api.Never
	}
	return api.Never
}

// Sum adds the elements of l to 0, one after the other, as Add does.
func Sum(l []int64) int64 {
	var n int64
	for _, a := range l {
		n = Add(n, a)
	}
	return n
}

// Clip returns the number from -Never to Never that is nearest to a.
func Clip(a int64) int64 {
	return max(-api.Never, min(a, api.Never))
}

// Plus returns the exact sum, or ErrOver if it does not fit.
func Plus(a, b int64) (int64, api.Errno) {
	n := a + b
	// Only numbers of the same sign can have a sum that does not fit; it wraps around to the other sign.
	if !opposite(a, b) && opposite(a, n) {
		return 0, api.ErrOver
	}
	return n, api.OK
}

// Times returns the exact product, or ErrOver if it does not fit.
func Times(a, b int64) (int64, api.Errno) {
	p := product(a, b)
	minus := opposite(a, b)
	limit := uint64(math.MaxInt64)
	if minus {
		limit++ // -2^63 fits, 2^63 does not
	}
	if p[0] != 0 || p[1] > limit {
		return 0, api.ErrOver
	}
	if minus {
		return int64(-p[1]), api.OK
	}
	return int64(p[1]), api.OK
}

// Div returns the quotient of a and b, rounded down, and the rest; ErrArg if b is below 1.
func Div(a, b int64) (int64, int64, api.Errno) {
	if b < 1 {
		return 0, 0, api.ErrArg
	}
	q, r := a/b, a%b
	if r < 0 {
		// Go rounds towards 0. Here b is at least 2, so that q - 1 fits.
		q, r = q-1, r+b
	}
	return q, r, api.OK
}

// Ceil returns the quotient of a and b, rounded up; ErrArg if b is below 1.
func Ceil(a, b int64) (int64, api.Errno) {
	q, r, err := Div(a, b)
	if err != api.OK {
		return 0, err
	}
	if r > 0 {
		q++
	}
	return q, api.OK
}

// Pow returns the n-th power of the clipped a, clipped; 0 if n is below 0.
func Pow(a int64, n int) int64 {
	if n < 0 {
		return 0
	}
	// Clipping on the way cannot be seen in the result: no factor lies between -1 and 1, unless a is 0, so what is beyond Never stays there.
	power, square := int64(1), Clip(a)
	for i := range bits.Len64(uint64(n)) {
		if n>>i&1 == 1 {
			power = Mul(power, square)
		}
		square = Mul(square, square)
	}
	return power
}

// opposite reports whether just one of a and b is below 0.
func opposite(a, b int64) bool {
	return (a < 0) != (b < 0)
}

// product returns the exact product of a and b without their signs: its upper word, and its lower one.
func product(a, b int64) [2]uint64 {
	high, low := bits.Mul64(magnitude(a), magnitude(b))
	return [2]uint64{high, low}
}

// magnitude returns a without its sign; that of -2^63 is no int64.
func magnitude(a int64) uint64 {
	if a < 0 {
		return -uint64(a)
	}
	return uint64(a)
}
