package gap_test

import (
	"fmt"
	"math"
	"slices"
	"testing"

	"wakeman/api"
	"wakeman/gap"
)

const longest = 100000

// example is the list of the chapter's examples.
func example() []int64 { return []int64{10, 12, 15, 30} }

// show writes a list, of a long one just its beginning, its end and its length.
func show(l []int64) string {
	if len(l) <= 20 {
		return fmt.Sprint(l)
	}
	return fmt.Sprintf("%v ... %v (%d)", l[:3], l[len(l)-3:], len(l))
}

// chance returns a function whose results look as if drawn, but are the same in each test.
func chance(seed uint64) func(below int64) int64 {
	x := seed
	return func(below int64) int64 {
		x = x*6364136223846793005 + 1442695040888963407
		y := x ^ x>>29
		y *= 0xBF58476D1CE4E5B9
		return int64((y >> 1) % uint64(below))
	}
}

// steps returns n times, from a time on, each a step later than the one before.
func steps(from, step int64, n int) []int64 {
	l := make([]int64, n)
	for i := range l {
		l[i] = from + int64(i)*step
	}
	return l
}

// with returns a list with another element.
func with(l []int64, i int, t int64) []int64 {
	l = slices.Clone(l)
	l[i] = t
	return l
}

// subset returns the numbers of a set, as times from a time on.
func subset(s int, from int64) []int64 {
	var l []int64
	for v := range int64(16) {
		if s>>v&1 == 1 {
			l = append(l, from+v)
		}
	}
	return l
}

// drawn returns a list of at most n times from a time on, drawn from so many.
func drawn(next func(int64) int64, n int, from, many int64) []int64 {
	l := make([]int64, next(int64(n)+1))
	for i := range l {
		l[i] = from + next(many)
	}
	slices.Sort(l)
	return slices.Compact(l)
}

// lists returns lists of times of many kinds, none of them long.
func lists() [][]int64 {
	l := [][]int64{nil, {}, {0}, {1}, {api.MaxTime}, {0, 1}, {0, api.MaxTime}, {0, 1, api.MaxTime}, {0, api.MaxTime - 1, api.MaxTime}, {0, api.MaxSpan}, {0, api.MaxSpan - 1, api.MaxSpan, api.MaxSpan + 1}, example(), steps(5, 3, 3), steps(api.MaxTime-90, 10, 10)}
	for s := range 1 << 9 {
		l = append(l, subset(s, 0), subset(s, api.MaxTime-8))
	}
	next := chance(9)
	for _, many := range []int64{12, 40, 200, 5000, api.MaxSpan, api.MaxTime + 1} {
		for range 25 {
			l = append(l, drawn(next, 40, 0, many), drawn(next, 40, api.MaxTime+1-many, many))
		}
	}
	return l
}

// spans returns the lengths of windows that end at a time of a list, just before one and just behind one.
func spans(l []int64) []int64 {
	w := []int64{1, 2, 3, 5, 60, 86400, api.MaxSpan - 1, api.MaxSpan}
	for i := range l {
		for _, j := range []int{0, i / 2, i - 1} {
			if j >= 0 {
				d := l[i] - l[j]
				w = append(w, d-1, d, d+1)
			}
		}
	}
	slices.Sort(w)
	return slices.DeleteFunc(slices.Compact(w), func(d int64) bool { return d < 1 || d > api.MaxSpan })
}

// wrongTimes returns numbers that are no times.
func wrongTimes() []int64 {
	return []int64{-1, api.MaxTime + 1, math.MinInt64, math.MaxInt64, api.Never, -api.Never}
}

// wrongSpans returns numbers that are no lengths of windows.
func wrongSpans() []int64 {
	return []int64{0, -1, -api.MaxSpan, math.MinInt64, api.MaxSpan + 1, math.MaxInt64}
}

// fault returns the error that lists have to have, by its definition.
func fault(lists ...[]int64) api.Errno {
	wrong := map[api.Errno]bool{}
	for _, l := range lists {
		wrong[api.ErrMany] = wrong[api.ErrMany] || len(l) > longest
		for i, t := range l {
			wrong[api.ErrTime] = wrong[api.ErrTime] || t < 0 || t > api.MaxTime
			wrong[api.ErrOrder] = wrong[api.ErrOrder] || i > 0 && t <= l[i-1]
		}
	}
	for _, err := range []api.Errno{api.ErrMany, api.ErrTime, api.ErrOrder} {
		if wrong[err] {
			return err
		}
	}
	return api.OK
}

func checkGaps(t *testing.T, l, want []int64, err api.Errno) {
	t.Helper()
	if got, e := gap.Gaps(l); !slices.Equal(got, want) || e != err {
		t.Errorf("Gaps(%s) = %s, %d, want %s, %d", show(l), show(got), e, show(want), err)
	}
}

func checkLeast(t *testing.T, l []int64, want int64, is bool, err api.Errno) {
	t.Helper()
	if got, ok, e := gap.Least(l); got != want || ok != is || e != err {
		t.Errorf("Least(%s) = %d, %t, %d, want %d, %t, %d", show(l), got, ok, e, want, is, err)
	}
}

func checkEven(t *testing.T, l []int64, want int64, is bool, err api.Errno) {
	t.Helper()
	if got, ok, e := gap.Even(l); got != want || ok != is || e != err {
		t.Errorf("Even(%s) = %d, %t, %d, want %d, %t, %d", show(l), got, ok, e, want, is, err)
	}
}

func checkMost(t *testing.T, l []int64, w int64, want int, at int64, err api.Errno) {
	t.Helper()
	if got, a, e := gap.Most(l, w); got != want || a != at || e != err {
		t.Errorf("Most(%s, %d) = %d, %d, %d, want %d, %d, %d", show(l), w, got, a, e, want, at, err)
	}
}

func checkCover(t *testing.T, l []int64, w int64, want int, err api.Errno) {
	t.Helper()
	if got, e := gap.Cover(l, w); got != want || e != err {
		t.Errorf("Cover(%s, %d) = %d, %d, want %d, %d", show(l), w, got, e, want, err)
	}
}

func checkMerge(t *testing.T, a, b, want []int64, err api.Errno) {
	t.Helper()
	if got, e := gap.Merge(a, b); !slices.Equal(got, want) || e != err {
		t.Errorf("Merge(%s, %s) = %s, %d, want %s, %d", show(a), show(b), show(got), e, show(want), err)
	}
}

func checkOnly(t *testing.T, a, b, wantA, wantB []int64, err api.Errno) {
	t.Helper()
	if gotA, gotB, e := gap.Only(a, b); !slices.Equal(gotA, wantA) || !slices.Equal(gotB, wantB) || e != err {
		t.Errorf("Only(%s, %s) = %s, %s, %d, want %s, %s, %d", show(a), show(b), show(gotA), show(gotB), e, show(wantA), show(wantB), err)
	}
}

func checkNear(t *testing.T, l []int64, u int64, want int, err api.Errno) {
	t.Helper()
	if got, e := gap.Near(l, u); got != want || e != err {
		t.Errorf("Near(%s, %d) = %d, %d, want %d, %d", show(l), u, got, e, want, err)
	}
}

// refuses checks that each function of one list returns an error of it, with zero values, whatever the other arguments are.
func refuses(t *testing.T, l []int64, err api.Errno) {
	t.Helper()
	checkGaps(t, l, nil, err)
	checkLeast(t, l, 0, false, err)
	checkEven(t, l, 0, false, err)
	for _, w := range append(wrongSpans(), 1, 60, api.MaxSpan) {
		checkMost(t, l, w, 0, 0, err)
		checkCover(t, l, w, 0, err)
	}
	for _, u := range []int64{0, 13, api.MaxTime} {
		checkNear(t, l, u, 0, err)
	}
}

// refusesBoth checks that each function of two lists returns an error of them, with zero values, in both orders of the lists.
func refusesBoth(t *testing.T, a, b []int64, err api.Errno) {
	t.Helper()
	checkMerge(t, a, b, nil, err)
	checkMerge(t, b, a, nil, err)
	checkOnly(t, a, b, nil, nil, err)
	checkOnly(t, b, a, nil, nil, err)
}

// wrongLists returns lists that have an error, by the error.
func wrongLists() map[api.Errno][][]int64 {
	many, long := steps(0, 1, longest+1), steps(0, 7, longest)
	m := map[api.Errno][][]int64{
		api.ErrMany:  {many, make([]int64, longest+1), with(many, 0, -1), with(many, longest, api.MaxTime+1), steps(0, -1, longest+1), steps(0, 1, 2*longest)},
		api.ErrTime:  {{4, -1}, {7, 6, -1}, {-1, 6, 5}, {3, 3, api.MaxTime + 1}, {-1, -1}, {-2, -1}, {api.MaxTime + 1, api.MaxTime + 2}, {-1, 0}, {api.MaxTime, api.MaxTime + 1}, {math.MinInt64, math.MaxInt64}, with(long, longest-1, api.MaxTime+1), with(make([]int64, longest), longest-1, -1)},
		api.ErrOrder: {{3, 3}, {4, 3}, {0, 0}, {api.MaxTime, api.MaxTime}, {api.MaxTime, 0}, {1, 0}, {1, 1, 2, 3}, {1, 2, 2, 3}, {1, 2, 3, 3}, {2, 1, 3, 4}, {1, 3, 2, 4}, {1, 2, 4, 3}, {1, 5, 2}, make([]int64, longest), with(long, longest-1, 7*(longest-2)), with(long, 0, 8), with(long, longest/2, 0)},
	}
	for _, u := range wrongTimes() {
		m[api.ErrTime] = append(m[api.ErrTime], []int64{u}, []int64{u, 12, 15, 30}, []int64{10, 12, u, 30}, []int64{10, 12, 15, u})
	}
	return m
}

// P9.1, P9.2, P9.3, P9.5: too many elements come before a wrong time, wherever it is, a wrong time before a wrong order, and the errors of a list before that of a window's length.
func TestErrors(t *testing.T) {
	for err, l := range wrongLists() {
		for _, l := range l {
			refuses(t, l, err)
		}
	}
}

// P9.4: the errors of two lists, whose order is that of the errors, not of the lists.
func TestErrorsOfTwo(t *testing.T) {
	wrong := wrongLists()
	good := [][]int64{nil, {}, {5}, example(), steps(0, 1, longest)}
	for err, l := range wrong {
		for _, l := range l {
			refusesBoth(t, l, l, err)
			for _, g := range good {
				refusesBoth(t, l, g, err)
			}
		}
	}
	for _, x := range [][2]api.Errno{{api.ErrMany, api.ErrTime}, {api.ErrMany, api.ErrOrder}, {api.ErrTime, api.ErrOrder}} {
		for _, a := range wrong[x[0]] {
			for _, b := range wrong[x[1]] {
				refusesBoth(t, a, b, x[0])
			}
		}
	}
	// Each list has an order of its own: neither has to go on where the other one ends, nor do both have to fit into one list.
	checkMerge(t, []int64{20, 30}, []int64{10, 20}, []int64{10, 20, 30}, api.OK)
	checkMerge(t, []int64{20, 30}, []int64{20, 30}, []int64{20, 30}, api.OK)
	checkOnly(t, []int64{20, 30}, []int64{10, 20}, []int64{30}, []int64{10}, api.OK)
}

// P9.2, P9.3: a window's length is from 1 to MaxSpan, also where the list has no times.
func TestErrorsOfWindows(t *testing.T) {
	for _, l := range [][]int64{nil, {}, {0}, {api.MaxTime}, example(), steps(0, 1, longest)} {
		for _, w := range wrongSpans() {
			checkMost(t, l, w, 0, 0, api.ErrArg)
			checkCover(t, l, w, 0, api.ErrArg)
		}
		for _, w := range []int64{1, 2, api.MaxSpan - 1, api.MaxSpan} {
			if _, _, e := gap.Most(l, w); e != api.OK {
				t.Errorf("Most(%s, %d) returns the error %d", show(l), w, e)
			}
			if _, e := gap.Cover(l, w); e != api.OK {
				t.Errorf("Cover(%s, %d) returns the error %d", show(l), w, e)
			}
		}
	}
}

// P9.5: too many elements come before a wrong t, this before a wrong order, and this before a list without times.
func TestErrorsOfNear(t *testing.T) {
	wrong := wrongLists()
	for _, u := range wrongTimes() {
		for _, l := range wrong[api.ErrMany] {
			checkNear(t, l, u, 0, api.ErrMany)
		}
		for _, l := range append(wrong[api.ErrTime], wrong[api.ErrOrder]...) {
			checkNear(t, l, u, 0, api.ErrTime)
		}
		for _, l := range [][]int64{nil, {}, {5}, example(), steps(0, 1, longest)} {
			checkNear(t, l, u, 0, api.ErrTime)
		}
	}
	for _, u := range []int64{0, 5, api.MaxTime} {
		checkNear(t, nil, u, 0, api.ErrNone)
		checkNear(t, []int64{}, u, 0, api.ErrNone)
	}
}

// P9.1: the gaps, the smallest one, and the one that all are.
func TestGaps(t *testing.T) {
	for _, x := range []struct {
		l, gaps []int64
		least   int64
		ok      bool
		even    int64
		is      bool
	}{
		{example(), []int64{2, 3, 15}, 2, true, 0, false},
		{[]int64{5, 8, 11}, []int64{3, 3}, 3, true, 3, true},
		{[]int64{5, 8}, []int64{3}, 3, true, 3, true},
		{[]int64{5}, nil, 0, false, 0, false},
		{[]int64{}, nil, 0, false, 0, false},
		{nil, nil, 0, false, 0, false},
		{[]int64{0}, nil, 0, false, 0, false},
		{[]int64{api.MaxTime}, nil, 0, false, 0, false},
		{[]int64{0, api.MaxTime}, []int64{api.MaxTime}, api.MaxTime, true, api.MaxTime, true},
		{[]int64{0, 1, api.MaxTime}, []int64{1, api.MaxTime - 1}, 1, true, 0, false},
		{[]int64{0, api.MaxTime - 1, api.MaxTime}, []int64{api.MaxTime - 1, 1}, 1, true, 0, false},
		{[]int64{0, 1, 2, 3}, []int64{1, 1, 1}, 1, true, 1, true},
		{[]int64{7, 8, 9, 11}, []int64{1, 1, 2}, 1, true, 0, false},
		{[]int64{7, 9, 10, 11}, []int64{2, 1, 1}, 1, true, 0, false},
		{[]int64{7, 8, 10, 11}, []int64{1, 2, 1}, 1, true, 0, false},
		{[]int64{7, 9, 10, 12}, []int64{2, 1, 2}, 1, true, 0, false},
		{[]int64{10, 14, 17, 19, 20}, []int64{4, 3, 2, 1}, 1, true, 0, false},
	} {
		checkGaps(t, x.l, x.gaps, api.OK)
		checkLeast(t, x.l, x.least, x.ok, api.OK)
		checkEven(t, x.l, x.even, x.is, api.OK)
	}
}

// P9.1, P9.6: each gap is what the nearest later time is later; they add up; Least is the smallest one, and Even its value if it is the greatest, too.
func TestSums(t *testing.T) {
	for _, l := range lists() {
		var want []int64
		for i := 0; i+1 < len(l); i++ {
			nearest := int64(math.MaxInt64)
			for _, u := range l {
				if u > l[i] {
					nearest = min(nearest, u-l[i])
				}
			}
			want = append(want, nearest)
		}
		checkGaps(t, l, want, api.OK)
		if len(want) == 0 {
			checkLeast(t, l, 0, false, api.OK)
			checkEven(t, l, 0, false, api.OK)
			continue
		}
		gaps, _ := gap.Gaps(l)
		var sum int64
		for _, d := range gaps {
			sum += d
		}
		if sum != l[len(l)-1]-l[0] {
			t.Errorf("the gaps of %s add up to %d", show(l), sum)
		}
		slices.Sort(want)
		least, greatest := want[0], want[len(want)-1]
		checkLeast(t, l, least, true, api.OK)
		if least == greatest {
			checkEven(t, l, least, true, api.OK)
		} else {
			checkEven(t, l, 0, false, api.OK)
		}
	}
}

// P9.2, P9.3: windows that end just before a time, and just behind it; the first of those that have the most times.
func TestWindows(t *testing.T) {
	for _, x := range []struct {
		l     []int64
		w     int64
		n     int
		at    int64
		cover int
	}{
		{example(), 5, 2, 10, 3},
		{example(), 6, 3, 10, 2},
		{example(), 1, 1, 10, 4},
		{example(), 100, 4, 10, 1},
		{example(), 21, 4, 10, 1},
		{example(), 20, 3, 10, 2},
		{example(), 2, 1, 10, 4},
		{example(), 3, 2, 10, 3},
		{example(), 15, 3, 10, 2},
		{example(), 16, 3, 10, 2},
		{example(), api.MaxSpan, 4, 10, 1},
		{nil, 1, 0, 0, 0},
		{[]int64{}, api.MaxSpan, 0, 0, 0},
		{[]int64{0}, 1, 1, 0, 1},
		{[]int64{0}, api.MaxSpan, 1, 0, 1},
		{[]int64{77}, 1, 1, 77, 1},
		{[]int64{api.MaxTime}, 1, 1, api.MaxTime, 1},
		{[]int64{api.MaxTime}, api.MaxSpan, 1, api.MaxTime, 1},
		{[]int64{api.MaxTime - 1, api.MaxTime}, 1, 1, api.MaxTime - 1, 2},
		{[]int64{api.MaxTime - 1, api.MaxTime}, 2, 2, api.MaxTime - 1, 1},
		{[]int64{api.MaxTime - 1, api.MaxTime}, api.MaxSpan, 2, api.MaxTime - 1, 1},
		{[]int64{0, api.MaxTime}, api.MaxSpan, 1, 0, 2},
		{[]int64{0, api.MaxSpan}, api.MaxSpan, 1, 0, 2},
		{[]int64{0, api.MaxSpan - 1}, api.MaxSpan, 2, 0, 1},
		{[]int64{0, api.MaxSpan - 1}, api.MaxSpan - 1, 1, 0, 2},
		// The window at 5 has as many times as the one at 9, and the latter begins with the last two of the former.
		{[]int64{1, 5, 9, 10, 14}, 6, 3, 5, 2},
		{[]int64{1, 5, 6, 9, 10, 11}, 3, 3, 9, 3},
		{[]int64{1, 2, 11, 12, 21, 22}, 2, 2, 1, 3},
		{[]int64{1, 11, 12, 21, 22}, 2, 2, 11, 3},
		{[]int64{1, 11, 21, 22}, 2, 2, 21, 3},
		// The window that has the most times is not one of those that Cover takes.
		{[]int64{1, 5, 6, 7, 8}, 5, 4, 5, 2},
		{[]int64{1, 6, 7, 8, 9}, 5, 4, 6, 2},
	} {
		checkMost(t, x.l, x.w, x.n, x.at, api.OK)
		checkCover(t, x.l, x.w, x.cover, api.OK)
	}
}

// inside returns how many times of a list are in the window of the length w at a.
func inside(l []int64, w, a int64) int {
	n := 0
	for _, u := range l {
		if u >= a && u-a < w {
			n++
		}
	}
	return n
}

// P9.2: Most by its definition: the windows at all times of the list are counted out.
func TestMost(t *testing.T) {
	for _, l := range lists() {
		for _, w := range spans(l) {
			most, at := 0, int64(0)
			for _, a := range slices.Backward(l) {
				if n := inside(l, w, a); n >= most {
					most, at = n, a
				}
			}
			checkMost(t, l, w, most, at, api.OK)
		}
	}
}

// P9.3: Cover by its definition: the times of each window are taken away, until none is left.
func TestCover(t *testing.T) {
	for _, l := range lists() {
		for _, w := range spans(l) {
			windows, left := 0, l
			for len(left) > 0 {
				windows++
				left = left[inside(left, w, left[0]):]
			}
			checkCover(t, l, w, windows, api.OK)
		}
	}
}

// P9.7: no window has more times than Most says, wherever it begins, also before the first time and between two; together the windows have room for all times.
func TestRoom(t *testing.T) {
	for _, l := range lists() {
		for _, w := range spans(l) {
			most, _, _ := gap.Most(l, w)
			for _, u := range l {
				for _, a := range []int64{u - w, u - w + 1, u - w/2, u - 1, u, u + 1} {
					if n := inside(l, w, a); n > most {
						t.Errorf("the window of the length %d at %d has %d times of %s, more than %d", w, a, n, show(l), most)
					}
				}
			}
			if windows, _ := gap.Cover(l, w); len(l) > most*windows {
				t.Errorf("%d windows of the length %d have at most %d times each, but %s has more", windows, w, most, show(l))
			}
		}
	}
}

// fewest returns how many windows of the length w are needed to hold all times of a list, wherever they begin: for the times from each one on, the first window may end anywhere.
func fewest(l []int64, w int64) int {
	need := make([]int, len(l)+1)
	for i := len(l) - 1; i >= 0; i-- {
		need[i] = len(l)
		for j := i + 1; j <= len(l) && l[j-1]-l[i] < w; j++ {
			need[i] = min(need[i], 1+need[j])
		}
	}
	return need[0]
}

// apart returns how many times of a list there are at most of which each is at least w later than the one before.
func apart(l []int64, w int64) int {
	best, chain := 0, make([]int, len(l))
	for i := range l {
		chain[i] = 1
		for j := range i {
			if l[i]-l[j] >= w {
				chain[i] = max(chain[i], chain[j]+1)
			}
		}
		best = max(best, chain[i])
	}
	return best
}

// P9.8: no fewer windows are enough, and there are as many times that no two of which fit into one.
func TestFewest(t *testing.T) {
	for _, l := range lists() {
		for _, w := range spans(l) {
			checkCover(t, l, w, fewest(l, w), api.OK)
			checkCover(t, l, w, apart(l, w), api.OK)
		}
	}
}

// P9.4: lists that share no times, some, and all of them, and lists without times.
func TestSets(t *testing.T) {
	l, end := example(), api.MaxTime
	for _, x := range []struct{ a, b, merge, onlyA, onlyB []int64 }{
		{l, []int64{12, 13}, []int64{10, 12, 13, 15, 30}, []int64{10, 15, 30}, []int64{13}},
		{l, l, l, nil, nil},
		{l, example(), l, nil, nil},
		{l, nil, l, l, nil},
		{l, []int64{}, l, l, nil},
		{nil, nil, nil, nil, nil},
		{[]int64{}, nil, nil, nil, nil},
		{[]int64{0}, []int64{0}, []int64{0}, nil, nil},
		{[]int64{end}, []int64{end}, []int64{end}, nil, nil},
		{[]int64{0}, []int64{end}, []int64{0, end}, []int64{0}, []int64{end}},
		{[]int64{0, end}, []int64{end}, []int64{0, end}, []int64{0}, nil},
		{[]int64{0, end}, []int64{0}, []int64{0, end}, []int64{end}, nil},
		{[]int64{end}, nil, []int64{end}, []int64{end}, nil},
		{[]int64{1, 2}, []int64{3, 4}, []int64{1, 2, 3, 4}, []int64{1, 2}, []int64{3, 4}},
		{[]int64{1, 3}, []int64{2, 4}, []int64{1, 2, 3, 4}, []int64{1, 3}, []int64{2, 4}},
		{[]int64{1, 4}, []int64{2, 3}, []int64{1, 2, 3, 4}, []int64{1, 4}, []int64{2, 3}},
		{[]int64{1, 2, 3}, []int64{2, 3, 4}, []int64{1, 2, 3, 4}, []int64{1}, []int64{4}},
		{[]int64{1, 2, 3}, []int64{2}, []int64{1, 2, 3}, []int64{1, 3}, nil},
		{[]int64{1, 3, 5, 7}, []int64{1, 2, 7, 8}, []int64{1, 2, 3, 5, 7, 8}, []int64{3, 5}, []int64{2, 8}},
	} {
		checkMerge(t, x.a, x.b, x.merge, api.OK)
		checkMerge(t, x.b, x.a, x.merge, api.OK)
		checkOnly(t, x.a, x.b, x.onlyA, x.onlyB, api.OK)
		checkOnly(t, x.b, x.a, x.onlyB, x.onlyA, api.OK)
	}
}

// split returns by search which times two lists have together, which ones just one of them has, and which ones both.
func split(a, b []int64) (merge, onlyA, onlyB, both []int64) {
	for _, u := range a {
		if slices.Contains(b, u) {
			both = append(both, u)
		} else {
			onlyA = append(onlyA, u)
		}
	}
	for _, u := range b {
		if !slices.Contains(a, u) {
			onlyB = append(onlyB, u)
		}
	}
	merge = slices.Concat(onlyB, both, onlyA)
	slices.Sort(merge)
	return merge, onlyA, onlyB, both
}

// pairs calls a function with pairs of lists: all of the times from 0 to 6, and others that share times or do not.
func pairs(f func(a, b []int64)) {
	for s := range 1 << 7 {
		for r := range 1 << 7 {
			f(subset(s, 0), subset(r, 0))
		}
	}
	next := chance(4)
	for range 300 {
		for _, many := range []int64{30, 100, 3000, api.MaxTime + 1} {
			from := next(api.MaxTime + 2 - many)
			a, b := drawn(next, 30, from, many), drawn(next, 30, from, many)
			f(a, b)
			f(a, drawn(next, 30, from/2, many))
			if len(a) > 0 {
				f(a, a[next(int64(len(a))):])
				f(a[:next(int64(len(a)))], a)
			}
		}
	}
}

// P9.4: Merge and Only by their definitions.
func TestPairs(t *testing.T) {
	pairs(func(a, b []int64) {
		merge, onlyA, onlyB, _ := split(a, b)
		checkMerge(t, a, b, merge, api.OK)
		checkOnly(t, a, b, onlyA, onlyB, api.OK)
	})
}

// P9.9: the order of the lists makes no difference to Merge; with itself, or with nothing, a list stays; what Only returns and what both lists have are what Merge returns.
func TestSetsAgree(t *testing.T) {
	pairs(func(a, b []int64) {
		merge, _ := gap.Merge(a, b)
		checkMerge(t, b, a, merge, api.OK)
		checkMerge(t, a, a, a, api.OK)
		checkMerge(t, a, nil, a, api.OK)
		checkMerge(t, merge, a, merge, api.OK)
		onlyA, onlyB, _ := gap.Only(a, b)
		checkOnly(t, b, a, onlyB, onlyA, api.OK)
		checkOnly(t, a, a, nil, nil, api.OK)
		_, _, _, both := split(a, b)
		all := slices.Concat(onlyA, onlyB, both)
		slices.Sort(all)
		if !slices.Equal(all, merge) {
			t.Errorf("Only(%s, %s) returns %s and %s, which are with %s not the same as %s", show(a), show(b), show(onlyA), show(onlyB), show(both), show(merge))
		}
	})
}

// P9.5: before the first time, behind the last one, on a time, between two, and in the middle of two.
func TestNear(t *testing.T) {
	end := api.MaxTime
	for _, x := range []struct {
		l []int64
		u int64
		i int
	}{
		{example(), 13, 1}, {example(), 0, 0}, {example(), 22, 2}, {example(), 23, 3},
		{example(), 9, 0}, {example(), 10, 0}, {example(), 11, 0}, {example(), 12, 1}, {example(), 14, 2}, {example(), 15, 2}, {example(), 16, 2},
		{example(), 29, 3}, {example(), 30, 3}, {example(), 31, 3}, {example(), end, 3},
		{[]int64{5}, 0, 0}, {[]int64{5}, 5, 0}, {[]int64{5}, end, 0},
		{[]int64{0}, 0, 0}, {[]int64{0}, end, 0}, {[]int64{end}, 0, 0}, {[]int64{end}, end, 0},
		{[]int64{0, end}, 0, 0}, {[]int64{0, end}, end, 1}, {[]int64{0, end}, end / 2, 0}, {[]int64{0, end}, end/2 + 1, 1},
		{[]int64{0, end - 1}, (end - 1) / 2, 0}, {[]int64{0, end - 1}, (end-1)/2 + 1, 1}, {[]int64{0, end - 1}, (end-1)/2 - 1, 0},
		{[]int64{10, 20, 30}, 15, 0}, {[]int64{10, 20, 30}, 16, 1}, {[]int64{10, 20, 30}, 24, 1}, {[]int64{10, 20, 30}, 25, 1}, {[]int64{10, 20, 30}, 26, 2},
	} {
		checkNear(t, x.l, x.u, x.i, api.OK)
	}
}

// P9.5: Near by its definition: the differences to all times are compared.
func TestNearest(t *testing.T) {
	for _, l := range lists() {
		at := []int64{0, 1, api.MaxTime - 1, api.MaxTime}
		for i, u := range l {
			at = append(at, u-1, u, u+1)
			if i > 0 {
				half := l[i-1] + (u-l[i-1])/2
				at = append(at, half-1, half, half+1)
			}
		}
		for _, u := range at {
			if u < 0 || u > api.MaxTime {
				continue
			}
			if len(l) == 0 {
				checkNear(t, l, u, 0, api.ErrNone)
				continue
			}
			nearest, smallest := 0, int64(math.MaxInt64)
			for i, v := range l {
				if d := max(u-v, v-u); d < smallest {
					nearest, smallest = i, d
				}
			}
			checkNear(t, l, u, nearest, api.OK)
		}
	}
}

// P9.1 to P9.5: lists of 100,000 times are as others.
func TestLong(t *testing.T) {
	for _, x := range []struct{ from, step int64 }{{0, 1}, {api.MaxTime - longest + 1, 1}, {0, api.MaxTime / (longest - 1)}, {1000, 86400}} {
		l := steps(x.from, x.step, longest)
		last := l[longest-1]
		checkGaps(t, l, slices.Repeat([]int64{x.step}, longest-1), api.OK)
		checkLeast(t, l, x.step, true, api.OK)
		checkEven(t, l, x.step, true, api.OK)
		checkMost(t, l, x.step, 1, x.from, api.OK)
		checkMost(t, l, x.step+1, 2, x.from, api.OK)
		checkMost(t, l, 10*x.step, 10, x.from, api.OK)
		checkCover(t, l, x.step, longest, api.OK)
		checkCover(t, l, x.step+1, longest/2, api.OK)
		checkCover(t, l, 10*x.step+1, (longest+10)/11, api.OK)
		if length := last - x.from; length < api.MaxSpan {
			checkMost(t, l, length+1, longest, x.from, api.OK)
			checkMost(t, l, length, longest-1, x.from, api.OK)
			checkCover(t, l, length+1, 1, api.OK)
			checkCover(t, l, length, 2, api.OK)
		}
		checkNear(t, l, last, longest-1, api.OK)
		checkNear(t, l, api.MaxTime, longest-1, api.OK)
		checkNear(t, l, x.from, 0, api.OK)
		checkMerge(t, l, l, l, api.OK)
		checkMerge(t, nil, l, l, api.OK)
		checkOnly(t, l, l, nil, nil, api.OK)
		checkOnly(t, nil, l, nil, l, api.OK)
		checkOnly(t, l[:longest-1], l[1:], l[:1], l[longest-1:], api.OK)
	}
	even, odd := steps(0, 2, longest), steps(1, 2, longest)
	checkMerge(t, even, odd, steps(0, 1, 2*longest), api.OK)
	checkMerge(t, odd, even, steps(0, 1, 2*longest), api.OK)
	checkOnly(t, even, odd, even, odd, api.OK)
	// Just the last gap is another one.
	uneven := with(even, longest-1, 2*longest)
	checkEven(t, uneven, 0, false, api.OK)
	checkLeast(t, uneven, 2, true, api.OK)
	uneven[longest-1] = 2*longest - 3
	checkEven(t, uneven, 0, false, api.OK)
	checkLeast(t, uneven, 1, true, api.OK)
	checkMost(t, uneven, 2, 2, 2*longest-4, api.OK)
}

// called returns what all calls with two lists, a window's length and a time return.
func called(a, b []int64, w, u int64) string {
	gaps, err1 := gap.Gaps(a)
	least, ok, err2 := gap.Least(a)
	even, is, err3 := gap.Even(a)
	most, at, err4 := gap.Most(a, w)
	cover, err5 := gap.Cover(a, w)
	merge, err6 := gap.Merge(a, b)
	onlyA, onlyB, err7 := gap.Only(a, b)
	near, err8 := gap.Near(a, u)
	return fmt.Sprint(gaps, least, ok, even, is, most, at, cover, merge, onlyA, onlyB, near, err1, err2, err3, err4, err5, err6, err7, err8)
}

// R4: no call changes a list, or reads or writes behind its end; results share no memory with lists or with each other.
func TestMemory(t *testing.T) {
	for _, x := range [][2][]int64{{example(), {12, 13, 40}}, {example(), {-1, 3}}, {{5, 5, 4}, {1, 2}}, {{1, 2}, {1, 2}}, {{7}, {8}}} {
		// What is behind the end of a list would be an error in it.
		wholeA, wholeB := append(slices.Clone(x[0]), -5, -5, -5), append(slices.Clone(x[1]), -6, -6, -6)
		a, b := wholeA[:len(x[0])], wholeB[:len(x[1])]
		if got, want := called(a, b, 6, 13), called(slices.Clip(x[0]), slices.Clip(x[1]), 6, 13); got != want {
			t.Errorf("with %v and %v, the calls return %s, want %s", wholeA, wholeB, got, want)
		}
		called(b, a, 6, 13)
		if !slices.Equal(wholeA, append(slices.Clone(x[0]), -5, -5, -5)) || !slices.Equal(wholeB, append(slices.Clone(x[1]), -6, -6, -6)) {
			t.Errorf("%v and %v are now %v and %v", x[0], x[1], wholeA, wholeB)
		}
	}
	a, b := example(), []int64{12, 13}
	for range 2 {
		gaps, _ := gap.Gaps(a)
		merge, _ := gap.Merge(a, b)
		same, _ := gap.Merge(a, nil)
		other, _ := gap.Merge(nil, a)
		onlyA, onlyB, _ := gap.Only(a, b)
		allA, _, _ := gap.Only(a, nil)
		_, allB, _ := gap.Only(nil, a)
		results := [][]int64{gaps, merge, same, other, onlyA, onlyB, allA, allB}
		want := fmt.Sprint([][]int64{{2, 3, 15}, {10, 12, 13, 15, 30}, example(), example(), {10, 15, 30}, {13}, example(), example()})
		for i, l := range results {
			if got := fmt.Sprint(results); got != want {
				t.Errorf("the results are %s, want %s", got, want)
			}
			kept := slices.Clone(l)
			for j := range l[:cap(l)] {
				l[:cap(l)][j] = -9
			}
			results[i] = kept
		}
		if !slices.Equal(a, example()) || !slices.Equal(b, []int64{12, 13}) {
			t.Errorf("the lists are now %v and %v", a, b)
		}
	}
}

// P1, R1, R8: every call ends without a panic, with the first error, and returns the same a second time.
func TestEveryArgument(t *testing.T) {
	next := chance(1)
	numbers := append(append(wrongTimes(), wrongSpans()...), 1, 2, 3, 5, 8, 13, api.MaxSpan, api.MaxTime-1, api.MaxTime)
	any := func() int64 {
		if next(4) == 0 {
			return numbers[next(int64(len(numbers)))]
		}
		return next(50)
	}
	list := func() []int64 {
		l := make([]int64, next(6))
		for i := range l {
			l[i] = any()
		}
		if next(2) == 0 {
			slices.Sort(l)
		}
		return l
	}
	for range 20000 {
		a, b, w, u := list(), list(), any(), any()
		if one, two := called(a, b, w, u), called(a, b, w, u); one != two {
			t.Errorf("the calls with %v, %v, %d and %d return %s, and then %s", a, b, w, u, one, two)
		}
		if err := fault(a); err != api.OK {
			refuses(t, a, err)
		} else if w < 1 || w > api.MaxSpan {
			checkMost(t, a, w, 0, 0, api.ErrArg)
			checkCover(t, a, w, 0, api.ErrArg)
		}
		if err := fault(a, b); err != api.OK {
			refusesBoth(t, a, b, err)
		}
		if err := fault(a, []int64{u}); err != api.OK {
			checkNear(t, a, u, 0, err)
		}
	}
}
