package blackout_test

import (
	"fmt"
	"math"
	"slices"
	"testing"

	"wakeman/api"
	"wakeman/blackout"
)

const (
	end  = api.MaxTime
	most = api.MaxSkip
)

// spans returns spans by their ends.
func spans(ends ...int64) []api.Span {
	var l []api.Span
	for i := 0; i < len(ends); i += 2 {
		l = append(l, api.Span{From: ends[i], To: ends[i+1]})
	}
	return l
}

// example is the list of the chapter's examples.
func example() []api.Span { return spans(10, 20, 30, 40, 15, 25, 26, 28) }

// show writes a list, of a long one just its beginning, its end and its length.
func show(l []api.Span) string {
	if len(l) <= 20 {
		return fmt.Sprint(l)
	}
	return fmt.Sprintf("%v ... %v (%d)", l[:3], l[len(l)-3:], len(l))
}

// row returns n spans, from a time on, each with so many times, and begun a step later than the one before.
func row(from, step, times int64, n int) []api.Span {
	var l []api.Span
	for i := range int64(n) {
		l = append(l, api.Span{From: from + i*step, To: from + i*step + times - 1})
	}
	return l
}

// reversed returns a list in the opposite order.
func reversed(l []api.Span) []api.Span {
	l = slices.Clone(l)
	slices.Reverse(l)
	return l
}

// with returns a list with another element.
func with(l []api.Span, i int, s api.Span) []api.Span {
	l = slices.Clone(l)
	l[i] = s
	return l
}

// chance returns a function whose results look as if drawn, but are the same in each test.
func chance(seed uint64) func(below int64) int64 {
	x := seed
	return func(below int64) int64 {
		x = x*6364136223846793005 + 1442695040888963407
		y := x ^ x>>29
		y *= 0xBF58476D1CE4E5B9
		return int64((y >> 1) % uint64(below))
	}
}

// shuffled returns a list in an order that is drawn.
func shuffled(next func(int64) int64, l []api.Span) []api.Span {
	l = slices.Clone(l)
	for i := range l {
		j := next(int64(i + 1))
		l[i], l[j] = l[j], l[i]
	}
	return l
}

// drawn returns a list of at most n spans within so many times from a time on, some of them short.
func drawn(next func(int64) int64, n int, from, many int64) []api.Span {
	l := make([]api.Span, next(int64(n)+1))
	for i := range l {
		a, b := next(many), next(many)
		if next(2) == 0 {
			b = min(a+next(3), many-1)
		}
		l[i] = api.Span{From: from + min(a, b), To: from + max(a, b)}
	}
	return l
}

// lists returns valid lists of many kinds.
func lists() [][]api.Span {
	l := [][]api.Span{
		nil, {}, example(), reversed(example()),
		spans(0, 0), spans(end, end), spans(0, end), spans(0, 0, end, end), spans(1, end-1), spans(0, end-1), spans(1, end), spans(end-1, end),
		spans(5, 9, 5, 9), spans(5, 9, 6, 8), spans(6, 8, 5, 9), spans(5, 9, 5, 7), spans(5, 9, 7, 9), spans(5, 9, 9, 12), spans(9, 12, 5, 9), spans(5, 9, 10, 12), spans(10, 12, 5, 9), spans(5, 9, 11, 12), spans(11, 12, 5, 9),
		spans(5, 5, 6, 6), spans(5, 5, 7, 7), spans(7, 7, 5, 5, 6, 6), spans(5, 5, 5, 5), spans(5, 5, 5, 8), spans(8, 8, 5, 8),
		spans(0, 4, 5, end), spans(0, 4, 6, end), spans(6, end, 0, 4, 5, 5), spans(0, end, 0, end), spans(0, end, 7, 7, 0, 0, end, end),
		make([]api.Span, most), row(0, 1, 1, most), row(0, 2, 1, most), row(0, 2, 2, most), row(3, 5, 4, most), row(3, 5, 5, most), row(3, 5, 6, most), row(3, 5, 20, most), row(3, 5, 20, most-1),
		row(end-most+1, 1, 1, most), row(end-2*most+2, 2, 1, most), row(0, end/most, end/most, most), row(0, end/most, end/most-1, most),
	}
	for _, x := range l[len(l)-12:] {
		l = append(l, reversed(x))
	}
	next := chance(11)
	for _, many := range []int64{1, 3, 12, 40, 200, 5000, api.MaxSpan, end + 1} {
		for _, n := range []int{2, 5, 20, most} {
			for range 6 {
				l = append(l, drawn(next, n, 0, many), drawn(next, n, end+1-many, many))
			}
		}
	}
	return l
}

// has reports whether a list has a time, by its definition.
func has(l []api.Span, u int64) bool {
	for _, s := range l {
		if u >= s.From && u <= s.To {
			return true
		}
	}
	return false
}

// length returns how many times from a to b a list has: between neighbouring cuts, it has all of them or none.
func length(l []api.Span, a, b int64) int64 {
	cuts := []int64{a, b + 1}
	for _, s := range l {
		cuts = append(cuts, s.From, s.To+1)
	}
	slices.Sort(cuts)
	var n int64
	for i := 1; i < len(cuts); i++ {
		if cuts[i-1] >= a && cuts[i] <= b+1 && has(l, cuts[i-1]) {
			n += cuts[i] - cuts[i-1]
		}
	}
	return n
}

// around returns the times 0 and MaxTime, and those at, beside and between the ends of the spans of lists: lists that have the same ones of these have the same times.
func around(lists ...[]api.Span) []int64 {
	at := []int64{0, 1, end - 1, end}
	for _, s := range slices.Concat(lists...) {
		at = append(at, s.From-1, s.From, s.From+1, s.From+(s.To-s.From)/2, s.To-1, s.To, s.To+1)
	}
	slices.Sort(at)
	return slices.DeleteFunc(slices.Compact(at), func(u int64) bool { return u < 0 || u > end })
}

// normal reports whether a list is normal, by its definition.
func normal(l []api.Span) bool {
	for i, s := range l {
		if s.From < 0 || s.From > s.To || s.To > end || i > 0 && s.From-l[i-1].To < 2 {
			return false
		}
	}
	return true
}

// wrongTimes returns numbers that are no times.
func wrongTimes() []int64 {
	return []int64{-1, end + 1, -end, math.MinInt64, math.MaxInt64, api.Never, -api.Never}
}

// rightTimes returns numbers that are times.
func rightTimes() []int64 {
	return []int64{0, 1, 12, 29, end - 1, end}
}

// wrongSpans returns spans that are not valid: those with an end that is no time, and then those that just end before they begin.
func wrongSpans() ([]api.Span, []api.Span) {
	var times, orders []api.Span
	for _, u := range wrongTimes() {
		for _, v := range rightTimes() {
			times = append(times, api.Span{From: u, To: v}, api.Span{From: v, To: u})
		}
		for _, v := range wrongTimes() {
			times = append(times, api.Span{From: u, To: v})
		}
	}
	for _, u := range rightTimes() {
		for _, v := range rightTimes() {
			if u > v {
				orders = append(orders, api.Span{From: u, To: v})
			}
		}
	}
	return times, orders
}

// fault returns the error that a list has to have, by its definition.
func fault(l []api.Span) api.Errno {
	if len(l) > 64 {
		return api.ErrMany
	}
	for _, s := range l {
		switch {
		case s.From < 0, s.From > 253402300799, s.To < 0, s.To > 253402300799:
			return api.ErrTime
		case s.To < s.From:
			return api.ErrOrder
		}
	}
	return api.OK
}

// faultOf returns the first error of lists.
func faultOf(lists ...[]api.Span) api.Errno {
	for _, l := range lists {
		if err := fault(l); err != api.OK {
			return err
		}
	}
	return api.OK
}

func checkNormal(t *testing.T, l, want []api.Span, err api.Errno) {
	t.Helper()
	if got, e := blackout.Normal(l); !slices.Equal(got, want) || e != err {
		t.Errorf("Normal(%s) = %s, %d, want %s, %d", show(l), show(got), e, show(want), err)
	}
	if e := blackout.Check(l); e != err {
		t.Errorf("Check(%s) = %d, want %d", show(l), e, err)
	}
}

func checkIn(t *testing.T, l []api.Span, u int64, want bool, err api.Errno) {
	t.Helper()
	if got, e := blackout.In(l, u); got != want || e != err {
		t.Errorf("In(%s, %d) = %t, %d, want %t, %d", show(l), u, got, e, want, err)
	}
}

func checkFree(t *testing.T, l []api.Span, u, want int64, is bool, err api.Errno) {
	t.Helper()
	if got, ok, e := blackout.Free(l, u); got != want || ok != is || e != err {
		t.Errorf("Free(%s, %d) = %d, %t, %d, want %d, %t, %d", show(l), u, got, ok, e, want, is, err)
	}
}

func checkLength(t *testing.T, l []api.Span, a, b, want int64, err api.Errno) {
	t.Helper()
	if got, e := blackout.Length(l, a, b); got != want || e != err {
		t.Errorf("Length(%s, %d, %d) = %d, %d, want %d, %d", show(l), a, b, got, e, want, err)
	}
}

// checkUnion checks Union in both orders of the lists.
func checkUnion(t *testing.T, a, b, want []api.Span) {
	t.Helper()
	for range 2 {
		if got, e := blackout.Union(a, b); !slices.Equal(got, want) || e != api.OK {
			t.Errorf("Union(%s, %s) = %s, %d, want %s", show(a), show(b), show(got), e, show(want))
		}
		a, b = b, a
	}
}

// checkMeet checks Meet in both orders of the lists.
func checkMeet(t *testing.T, a, b, want []api.Span) {
	t.Helper()
	for range 2 {
		if got, e := blackout.Meet(a, b); !slices.Equal(got, want) || e != api.OK {
			t.Errorf("Meet(%s, %s) = %s, %d, want %s", show(a), show(b), show(got), e, show(want))
		}
		a, b = b, a
	}
}

func checkWithout(t *testing.T, a, b, want []api.Span) {
	t.Helper()
	if got, e := blackout.Without(a, b); !slices.Equal(got, want) || e != api.OK {
		t.Errorf("Without(%s, %s) = %s, %d, want %s", show(a), show(b), show(got), e, show(want))
	}
}

// refuses checks that each function of one list returns an error of it, whatever the times are.
func refuses(t *testing.T, l []api.Span, err api.Errno) {
	t.Helper()
	checkNormal(t, l, nil, err)
	for _, u := range slices.Concat(rightTimes(), wrongTimes()) {
		checkIn(t, l, u, false, err)
		checkFree(t, l, u, 0, false, err)
		for _, v := range []int64{0, 12, end, -1, end + 1} {
			checkLength(t, l, u, v, 0, err)
			checkLength(t, l, v, u, 0, err)
		}
	}
}

// refusesBoth checks that each function of two lists returns an error of them.
func refusesBoth(t *testing.T, a, b []api.Span, err api.Errno) {
	t.Helper()
	if got, e := blackout.Union(a, b); len(got) > 0 || e != err {
		t.Errorf("Union(%s, %s) = %s, %d, want the error %d", show(a), show(b), show(got), e, err)
	}
	if got, e := blackout.Meet(a, b); len(got) > 0 || e != err {
		t.Errorf("Meet(%s, %s) = %s, %d, want the error %d", show(a), show(b), show(got), e, err)
	}
	if got, e := blackout.Without(a, b); len(got) > 0 || e != err {
		t.Errorf("Without(%s, %s) = %s, %d, want the error %d", show(a), show(b), show(got), e, err)
	}
}

// P11.1 to P11.5: the examples.
func TestExamples(t *testing.T) {
	l := example()
	checkNormal(t, l, spans(10, 28, 30, 40), api.OK)
	checkIn(t, l, 29, false, api.OK)
	checkIn(t, l, 30, true, api.OK)
	checkIn(t, l, -1, false, api.ErrTime)
	checkFree(t, l, 12, 29, true, api.OK)
	checkFree(t, l, 29, 29, true, api.OK)
	checkFree(t, spans(0, end), 5, 0, false, api.OK)
	checkUnion(t, l, spans(29, 29), spans(10, 40))
	checkMeet(t, l, spans(28, 31), spans(28, 28, 30, 31))
	checkWithout(t, l, spans(12, 12, 35, 99), spans(10, 11, 13, 28, 30, 34))
	checkLength(t, l, 0, 100, 30, api.OK)
	checkLength(t, l, 28, 30, 2, api.OK)
	checkLength(t, l, 5, 4, 0, api.ErrOrder)
	checkNormal(t, spans(5, 4), nil, api.ErrOrder)
	checkNormal(t, spans(-1, -5), nil, api.ErrTime)
}

// P11.1: spans with each pair of ends at the limits, one of them or several, at every place of a list.
func TestErrorsOfSpans(t *testing.T) {
	for _, u := range rightTimes() {
		for _, v := range rightTimes() {
			if u <= v {
				checkNormal(t, spans(u, v), spans(u, v), api.OK)
			}
		}
	}
	times, orders := wrongSpans()
	for _, x := range []struct {
		wrong []api.Span
		err   api.Errno
	}{{times, api.ErrTime}, {orders, api.ErrOrder}} {
		for _, s := range x.wrong {
			for _, l := range [][]api.Span{{s}, {{From: 0, To: end}, s}, {s, {From: 3, To: 5}, {From: 7, To: 8}}, with(row(0, 3, 2, most), most-1, s), with(row(0, 3, 2, most), 31, s), with(row(0, 3, 2, most), 0, s)} {
				refuses(t, l, x.err)
			}
			refuses(t, with(row(0, 3, 2, most+1), 0, s), api.ErrMany)
			refuses(t, with(row(0, 3, 2, most+1), most, s), api.ErrMany)
		}
	}
}

// P11.1: of several spans that are not valid the first one counts, whatever is wrong with the others.
func TestOrderOfErrors(t *testing.T) {
	kinds := []api.Span{{From: 3, To: 9}, {From: 9, To: 3}, {From: -1, To: 3}, {From: 3, To: -1}, {From: end + 1, To: 3}, {From: 3, To: end + 1}, {From: -2, To: -3}}
	errs := []api.Errno{api.OK, api.ErrOrder, api.ErrTime, api.ErrTime, api.ErrTime, api.ErrTime, api.ErrTime}
	for i, s := range kinds {
		for j, r := range kinds {
			for k, q := range kinds {
				l := []api.Span{s, r, q}
				for _, err := range []api.Errno{errs[i], errs[j], errs[k]} {
					if err != api.OK {
						refuses(t, l, err)
						refuses(t, append(l, row(0, 3, 2, most-3)...), err)
						refuses(t, append(l, row(0, 3, 2, most-2)...), api.ErrMany)
						break
					}
				}
			}
		}
	}
}

// P11.1: as many spans as allowed, one more, and many more.
func TestErrMany(t *testing.T) {
	for _, n := range []int{most - 1, most} {
		checkNormal(t, make([]api.Span, n), spans(0, 0), api.OK)
		checkNormal(t, row(0, 1, 1, n), spans(0, int64(n)-1), api.OK)
		checkNormal(t, row(7, 5, 3, n), row(7, 5, 3, n), api.OK)
		checkNormal(t, reversed(row(7, 5, 3, n)), row(7, 5, 3, n), api.OK)
	}
	for _, n := range []int{most + 1, most + 2, 2 * most, 1000, 65536, 65536 + 3} {
		refuses(t, make([]api.Span, n), api.ErrMany)
		refuses(t, row(7, 5, 3, n), api.ErrMany)
		refuses(t, row(-7, 5, 3, n), api.ErrMany)
		refuses(t, row(7, 5, -3, n), api.ErrMany)
	}
}

// P11.2, P11.3, P11.5: times that are not valid, of two the first, the second or both; a span that ends before it begins.
func TestErrorsOfTimes(t *testing.T) {
	for _, l := range lists() {
		for _, u := range wrongTimes() {
			checkIn(t, l, u, false, api.ErrTime)
			checkFree(t, l, u, 0, false, api.ErrTime)
			for _, v := range slices.Concat(rightTimes(), wrongTimes()) {
				checkLength(t, l, u, v, 0, api.ErrTime)
				checkLength(t, l, v, u, 0, api.ErrTime)
			}
		}
		for _, u := range rightTimes() {
			for _, v := range rightTimes() {
				if u > v {
					checkLength(t, l, u, v, 0, api.ErrOrder)
				}
			}
		}
		checkLength(t, l, 1, 0, 0, api.ErrOrder)
		checkLength(t, l, end, end-1, 0, api.ErrOrder)
	}
}

// P11.4: the errors of both lists, those of the first one before those of the second one.
func TestErrorsOfTwo(t *testing.T) {
	l := [][]api.Span{nil, example(), row(0, 2, 1, most), row(0, 2, 1, most+1), row(-5, 2, 1, most+1), row(0, 2, -1, most+1), spans(5, 4), spans(5, 4, -1, 3), spans(3, -1), spans(-1, 3, 5, 4), spans(1, 2, end+1, end+2), spans(1, 2, 2, 1), spans(end, 0), spans(end, end+1)}
	for _, a := range l {
		for _, b := range l {
			switch err, other := fault(a), fault(b); {
			case err != api.OK:
				refusesBoth(t, a, b, err)
			case other != api.OK:
				refusesBoth(t, a, b, other)
			}
		}
	}
	refusesBoth(t, row(0, 2, 1, most+1), spans(-1, 3), api.ErrMany)
	refusesBoth(t, spans(-1, 3), row(0, 2, 1, most+1), api.ErrTime)
	refusesBoth(t, spans(5, 4), spans(-1, 3), api.ErrOrder)
	refusesBoth(t, spans(-1, 3), spans(5, 4), api.ErrTime)
	refusesBoth(t, nil, spans(5, 4), api.ErrOrder)
	refusesBoth(t, spans(5, 4), nil, api.ErrOrder)
	refusesBoth(t, spans(5, 4), row(0, 2, 1, most+1), api.ErrOrder)
}

// P11.1: spans that overlap, touch, lie one inside the other or are the same, and spans one second apart.
func TestNormal(t *testing.T) {
	for _, x := range []struct{ l, want []api.Span }{
		{nil, nil}, {[]api.Span{}, nil},
		{spans(0, 0), spans(0, 0)}, {spans(end, end), spans(end, end)}, {spans(0, end), spans(0, end)}, {spans(5, 9), spans(5, 9)},
		{spans(5, 9, 8, 12), spans(5, 12)}, {spans(5, 9, 9, 12), spans(5, 12)}, {spans(5, 9, 10, 12), spans(5, 12)},
		{spans(5, 9, 11, 12), spans(5, 9, 11, 12)}, {spans(5, 9, 12, 12), spans(5, 9, 12, 12)},
		{spans(5, 9, 6, 8), spans(5, 9)}, {spans(5, 9, 5, 8), spans(5, 9)}, {spans(5, 9, 6, 9), spans(5, 9)}, {spans(5, 9, 5, 9), spans(5, 9)}, {spans(5, 9, 7, 7), spans(5, 9)},
		{spans(5, 5, 6, 6), spans(5, 6)}, {spans(5, 5, 7, 7), spans(5, 5, 7, 7)}, {spans(5, 5, 7, 7, 6, 6), spans(5, 7)}, {spans(5, 5, 5, 5), spans(5, 5)},
		{spans(5, 9, 20, 30, 8, 21), spans(5, 30)}, {spans(5, 9, 20, 30, 10, 19), spans(5, 30)}, {spans(5, 9, 20, 30, 11, 18), spans(5, 9, 11, 18, 20, 30)}, {spans(5, 9, 20, 30, 0, end), spans(0, end)},
		{spans(0, 4, 5, end), spans(0, end)}, {spans(0, 4, 6, end), spans(0, 4, 6, end)}, {spans(0, 0, end, end), spans(0, 0, end, end)}, {spans(0, end-1, end, end), spans(0, end)}, {spans(0, end-2, end, end), spans(0, end-2, end, end)},
		// What overlaps with just the longer of two spans before it.
		{spans(5, 30, 6, 8, 20, 40), spans(5, 40)}, {spans(5, 30, 6, 8, 31, 40), spans(5, 40)}, {spans(5, 30, 6, 8, 32, 40), spans(5, 30, 32, 40)},
	} {
		checkNormal(t, x.l, x.want, api.OK)
		checkNormal(t, reversed(x.l), x.want, api.OK)
	}
}

// P11.1, P11.6: by the definitions: the normal list has the same times, is the same for all orders of the spans, and is its own normal list.
func TestNormalAgrees(t *testing.T) {
	next := chance(2)
	for _, l := range lists() {
		got, err := blackout.Normal(l)
		if !normal(got) || err != api.OK {
			t.Errorf("Normal(%v) = %v, %d", l, got, err)
		}
		for _, u := range around(l, got) {
			if has(got, u) != has(l, u) {
				t.Errorf("Normal(%v) = %v, which has %d: %t", l, got, u, has(got, u))
			}
		}
		checkNormal(t, got, got, api.OK)
		checkNormal(t, reversed(l), got, api.OK)
		for range 5 {
			checkNormal(t, shuffled(next, l), got, api.OK)
		}
		if len(l) > 0 && len(l) < most {
			checkNormal(t, append(shuffled(next, l), l[next(int64(len(l)))]), got, api.OK)
		}
		if len(got) > 0 && len(l) < most {
			checkNormal(t, append(slices.Clone(l), got[next(int64(len(got)))]), got, api.OK)
		}
	}
}

// width is how many times there are in the tests of sets.
const width = 8

// listOf returns the normal list of a set, from a time on: the runs of its numbers.
func listOf(set uint, from int64) []api.Span {
	var l []api.Span
	for v := range int64(width) {
		if set>>v&1 == 0 {
			continue
		}
		if n := len(l) - 1; n >= 0 && l[n].To == from+v-1 {
			l[n].To++
			continue
		}
		l = append(l, api.Span{From: from + v, To: from + v})
	}
	return l
}

// scattered returns a list that has the times of a set, in an order that is drawn: around each time a span within its run.
func scattered(next func(int64) int64, set uint, from int64) []api.Span {
	var l []api.Span
	for _, s := range listOf(set, from) {
		for u := s.From; u <= s.To; u++ {
			l = append(l, api.Span{From: u - next(u-s.From+1), To: u + next(s.To-u+1)})
		}
	}
	return shuffled(next, l)
}

// places are where the times of sets begin: at 0, amid the times, and so that they end at MaxTime.
func places() []int64 { return []int64{0, 86400, end - width + 1} }

// P11.2, P11.3, P11.5: by the definitions, for all sets of a few times.
func TestSets(t *testing.T) {
	next := chance(5)
	for _, from := range places() {
		for set := range uint(1) << width {
			for _, l := range [][]api.Span{listOf(set, from), scattered(next, set, from), scattered(next, set, from)} {
				checkNormal(t, l, listOf(set, from), api.OK)
				for v := range int64(width) {
					checkIn(t, l, from+v, set>>v&1 == 1, api.OK)
					free := v
					for free < width && set>>free&1 == 1 {
						free++
					}
					if from+free > end {
						checkFree(t, l, from+v, 0, false, api.OK)
					} else {
						checkFree(t, l, from+v, from+free, true, api.OK)
					}
					var n int64
					for w := v; w < width; w++ {
						n += int64(set >> w & 1)
						checkLength(t, l, from+v, from+w, n, api.OK)
					}
				}
			}
		}
	}
}

// P11.4, P11.7: by the definitions, for all pairs of sets of a few times.
func TestPairsOfSets(t *testing.T) {
	next := chance(7)
	for _, from := range places() {
		for x := range uint(1) << width {
			for y := range uint(1) << width {
				a, b := scattered(next, x, from), scattered(next, y, from)
				checkUnion(t, a, b, listOf(x|y, from))
				checkMeet(t, a, b, listOf(x&y, from))
				checkWithout(t, a, b, listOf(x&^y, from))
			}
		}
	}
}

// P11.6: with fewer spans, there is no list with the same times; found by adding one span after the other in all ways.
func TestFewest(t *testing.T) {
	fewest := map[uint]int{0: 0}
	level := []uint{0}
	for n := 1; len(level) > 0; n++ {
		var reached []uint
		for _, set := range level {
			for a := range width {
				span := uint(0)
				for b := a; b < width; b++ {
					span |= 1 << b
					if _, ok := fewest[set|span]; !ok {
						fewest[set|span] = n
						reached = append(reached, set|span)
					}
				}
			}
		}
		level = reached
	}
	next := chance(8)
	for _, from := range places() {
		for set := range uint(1) << width {
			got, _ := blackout.Normal(scattered(next, set, from))
			if len(got) != fewest[set] {
				t.Errorf("the normal list %v has %d spans, want %d", got, len(got), fewest[set])
			}
		}
	}
}

// P11.2, P11.3, P11.8: at the first and the last time of a span, just beside it, at 0 and at MaxTime, and where all times from one on are taken.
func TestAsk(t *testing.T) {
	chain := reversed(row(0, 1000, 1000, most))
	for _, x := range []struct {
		l    []api.Span
		u    int64
		in   bool
		free int64
		ok   bool
	}{
		{nil, 0, false, 0, true}, {nil, end, false, end, true}, {[]api.Span{}, 5, false, 5, true},
		{spans(5, 9), 4, false, 4, true}, {spans(5, 9), 5, true, 10, true}, {spans(5, 9), 7, true, 10, true}, {spans(5, 9), 9, true, 10, true}, {spans(5, 9), 10, false, 10, true}, {spans(5, 9), 0, false, 0, true}, {spans(5, 9), end, false, end, true},
		{spans(5, 5), 4, false, 4, true}, {spans(5, 5), 5, true, 6, true}, {spans(5, 5), 6, false, 6, true},
		{spans(0, 0), 0, true, 1, true}, {spans(0, 0), 1, false, 1, true}, {spans(end, end), end, true, 0, false}, {spans(end, end), end - 1, false, end - 1, true},
		{spans(0, end), 0, true, 0, false}, {spans(0, end), end, true, 0, false}, {spans(0, end-1), 0, true, end, true}, {spans(0, end-1), end - 1, true, end, true}, {spans(0, end-1), end, false, end, true},
		{spans(1, end), 0, false, 0, true}, {spans(1, end), 1, true, 0, false}, {spans(9, end, 0, 7), 0, true, 8, true}, {spans(9, end, 0, 7), 8, false, 8, true}, {spans(9, end, 0, 8), 0, true, 0, false}, {spans(9, end, 0, 8), 8, true, 0, false},
		{spans(10, 12, 5, 9), 5, true, 13, true}, {spans(11, 12, 5, 9), 5, true, 10, true}, {spans(11, 12, 5, 9, 10, 10), 5, true, 13, true}, {spans(5, 9, 5, 20, 5, 7), 5, true, 21, true}, {spans(8, 30, 5, 9, 12, 15), 6, true, 31, true},
		{chain, 0, true, 1000 * most, true}, {chain, 1000*most - 1, true, 1000 * most, true}, {chain, 1000 * most, false, 1000 * most, true},
		{with(chain, 0, api.Span{From: 1000*most - 1000, To: end}), 0, true, 0, false},
	} {
		checkIn(t, x.l, x.u, x.in, api.OK)
		checkFree(t, x.l, x.u, x.free, x.ok, api.OK)
	}
}

// P11.2, P11.3, P11.8: by the definitions: the time that Free returns is not in the list, and all before it are.
func TestAskAround(t *testing.T) {
	for _, l := range lists() {
		at := around(l)
		for i, u := range at {
			checkIn(t, l, u, has(l, u), api.OK)
			// Behind a span, the first time that may be free is just after its end.
			j := i
			for j < len(at) && has(l, at[j]) {
				j++
			}
			if j == len(at) {
				checkFree(t, l, u, 0, false, api.OK)
				continue
			}
			checkFree(t, l, u, at[j], true, api.OK)
			if n := length(l, u, at[j]); n != at[j]-u {
				t.Errorf("%v has %d times from %d to %d", l, n, u, at[j])
			}
		}
	}
}

// P11.4: lists of which one is nil, equal lists, and lists that share single times.
func TestTwo(t *testing.T) {
	all := spans(0, end)
	for _, x := range []struct{ a, b, union, meet, only, other []api.Span }{
		{nil, nil, nil, nil, nil, nil},
		{nil, example(), spans(10, 28, 30, 40), nil, nil, spans(10, 28, 30, 40)},
		{[]api.Span{}, spans(5, 5), spans(5, 5), nil, nil, spans(5, 5)},
		{example(), example(), spans(10, 28, 30, 40), spans(10, 28, 30, 40), nil, nil},
		{example(), spans(30, 40, 10, 28), spans(10, 28, 30, 40), spans(10, 28, 30, 40), nil, nil},
		{all, all, all, all, nil, nil},
		{all, nil, all, nil, all, nil},
		{all, spans(0, 0), all, spans(0, 0), spans(1, end), nil},
		{all, spans(end, end), all, spans(end, end), spans(0, end-1), nil},
		{all, spans(0, 0, end, end), all, spans(0, 0, end, end), spans(1, end-1), nil},
		{all, spans(7, 7, 5, 5), all, spans(5, 5, 7, 7), spans(0, 4, 6, 6, 8, end), nil},
		{spans(5, 9), spans(9, 12), spans(5, 12), spans(9, 9), spans(5, 8), spans(10, 12)},
		{spans(5, 9), spans(10, 12), spans(5, 12), nil, spans(5, 9), spans(10, 12)},
		{spans(5, 9), spans(11, 12), spans(5, 9, 11, 12), nil, spans(5, 9), spans(11, 12)},
		{spans(5, 9), spans(7, 7), spans(5, 9), spans(7, 7), spans(5, 6, 8, 9), nil},
		{spans(5, 9), spans(5, 5), spans(5, 9), spans(5, 5), spans(6, 9), nil},
		{spans(5, 9), spans(9, 9), spans(5, 9), spans(9, 9), spans(5, 8), nil},
		{spans(5, 9), spans(5, 7), spans(5, 9), spans(5, 7), spans(8, 9), nil},
		{spans(5, 9), spans(7, 9), spans(5, 9), spans(7, 9), spans(5, 6), nil},
		{spans(5, 9, 9, 14), spans(7, 10), spans(5, 14), spans(7, 10), spans(5, 6, 11, 14), nil},
		{spans(5, 9, 10, 14), spans(9, 10), spans(5, 14), spans(9, 10), spans(5, 8, 11, 14), nil},
		{spans(5, 9, 11, 14), spans(10, 10), spans(5, 14), nil, spans(5, 9, 11, 14), spans(10, 10)},
		{spans(5, 9, 11, 14), spans(9, 11), spans(5, 14), spans(9, 9, 11, 11), spans(5, 8, 12, 14), spans(10, 10)},
		{spans(5, 9, 10, 14), spans(2, 9, 10, 20), spans(2, 20), spans(5, 14), nil, spans(2, 4, 15, 20)},
		{spans(0, 4, 8, 9), spans(5, 7, 10, end), all, nil, spans(0, 4, 8, 9), spans(5, 7, 10, end)},
		{spans(3, 3, 5, 5, 7, 7), spans(4, 4, 6, 6, 8, 8), spans(3, 8), nil, spans(3, 3, 5, 5, 7, 7), spans(4, 4, 6, 6, 8, 8)},
		{spans(0, 0), spans(end, end), spans(0, 0, end, end), nil, spans(0, 0), spans(end, end)},
		{spans(0, end-1), spans(1, end), all, spans(1, end-1), spans(0, 0), spans(end, end)},
	} {
		checkUnion(t, x.a, x.b, x.union)
		checkMeet(t, x.a, x.b, x.meet)
		checkWithout(t, x.a, x.b, x.only)
		checkWithout(t, x.b, x.a, x.other)
	}
}

// P11.4: results with more spans than a list may have: they are whole, but no valid lists.
func TestManySpans(t *testing.T) {
	even, odd := row(0, 4, 1, most), row(2, 4, 1, most)
	checkUnion(t, even, odd, row(0, 2, 1, 2*most))
	checkUnion(t, reversed(even), reversed(odd), row(0, 2, 1, 2*most))
	checkUnion(t, row(10, 5, 3, most), spans(0, 3), append(spans(0, 3), row(10, 5, 3, most)...))
	checkUnion(t, row(10, 5, 3, most), spans(end, end), append(row(10, 5, 3, most), api.Span{From: end, To: end}))
	checkMeet(t, row(0, 12, 11, most), row(6, 12, 11, most), row(6, 6, 5, 2*most-1))
	checkWithout(t, spans(0, end), row(1, 2, 1, most), append(row(0, 2, 1, most), api.Span{From: 2 * most, To: end}))
	checkWithout(t, row(0, 10, 7, most), row(3, 10, 1, most), mixed(row(0, 10, 3, most), row(4, 10, 3, most)))
	for _, x := range [][2][]api.Span{{even, odd}, {row(10, 5, 3, most), spans(0, 3)}, {row(10, 5, 3, most), spans(end, end)}} {
		got, _ := blackout.Union(x[0], x[1])
		refuses(t, got, api.ErrMany)
		refusesBoth(t, got, nil, api.ErrMany)
		refusesBoth(t, nil, got, api.ErrMany)
	}
}

// mixed returns the spans of two lists in turn.
func mixed(a, b []api.Span) []api.Span {
	var l []api.Span
	for i := range a {
		l = append(l, a[i], b[i])
	}
	return l
}

// P11.4, P11.7: by the definitions, for lists of many kinds.
func TestTwoAgree(t *testing.T) {
	next := chance(3)
	all := lists()
	check := func(name string, got, a, b []api.Span, belongs func(inA, inB bool) bool) {
		t.Helper()
		if !normal(got) {
			t.Errorf("%s(%v, %v) = %v, which is not normal", name, a, b, got)
		}
		for _, u := range around(a, b, got) {
			if has(got, u) != belongs(has(a, u), has(b, u)) {
				t.Errorf("%s(%v, %v) = %v, which has %d: %t", name, a, b, got, u, has(got, u))
			}
		}
	}
	for range 1500 {
		a, b := all[next(int64(len(all)))], all[next(int64(len(all)))]
		union, err1 := blackout.Union(a, b)
		meet, err2 := blackout.Meet(a, b)
		without, err3 := blackout.Without(a, b)
		if err1 != api.OK || err2 != api.OK || err3 != api.OK {
			t.Errorf("the errors with %v and %v are %d, %d, %d", a, b, err1, err2, err3)
		}
		check("Union", union, a, b, func(inA, inB bool) bool { return inA || inB })
		check("Meet", meet, a, b, func(inA, inB bool) bool { return inA && inB })
		check("Without", without, a, b, func(inA, inB bool) bool { return inA && !inB })
		checkUnion(t, a, b, union)
		checkMeet(t, a, b, meet)
		checkWithout(t, shuffled(next, a), shuffled(next, b), without)
		if len(union) > most || len(meet) > most || len(without) > most {
			continue
		}
		u, v := next(end+1), next(end+1)
		for _, x := range [][2]int64{{0, end}, {min(u, v), max(u, v)}, {0, u % 50}, {u % 50, u%50 + v%50}, {end - u%50, end}} {
			n, _ := blackout.Length(union, x[0], x[1])
			m, _ := blackout.Length(meet, x[0], x[1])
			ofA, _ := blackout.Length(a, x[0], x[1])
			ofB, _ := blackout.Length(b, x[0], x[1])
			if n+m != ofA+ofB {
				t.Errorf("from %d to %d, the lengths of Union and Meet of %v and %v are %d and %d, but theirs %d and %d", x[0], x[1], a, b, n, m, ofA, ofB)
			}
			checkLength(t, without, x[0], x[1], ofA-m, api.OK)
		}
	}
}

// P11.5: single times, parts of spans, and all times.
func TestLength(t *testing.T) {
	for _, x := range []struct {
		l       []api.Span
		a, b, n int64
	}{
		{nil, 0, 0, 0}, {nil, 0, end, 0}, {[]api.Span{}, 5, 9, 0}, {nil, end, end, 0},
		{spans(5, 9), 0, 4, 0}, {spans(5, 9), 0, 5, 1}, {spans(5, 9), 5, 5, 1}, {spans(5, 9), 6, 8, 3}, {spans(5, 9), 9, 9, 1}, {spans(5, 9), 9, 10, 1}, {spans(5, 9), 10, 10, 0}, {spans(5, 9), 10, end, 0}, {spans(5, 9), 5, 9, 5}, {spans(5, 9), 4, 10, 5}, {spans(5, 9), 0, end, 5}, {spans(5, 9), 4, 4, 0},
		{spans(5, 5), 5, 5, 1}, {spans(5, 5), 0, end, 1}, {spans(5, 5), 4, 4, 0}, {spans(5, 5), 6, 6, 0},
		{spans(0, 0), 0, 0, 1}, {spans(0, 0), 1, end, 0}, {spans(end, end), end, end, 1}, {spans(end, end), 0, end - 1, 0}, {spans(0, 0, end, end), 0, end, 2},
		{spans(0, end), 0, end, end + 1}, {spans(0, end), 0, 0, 1}, {spans(0, end), end, end, 1}, {spans(0, end), 1, end - 1, end - 1}, {spans(0, end-1), 0, end, end}, {spans(1, end), 0, end, end},
		{spans(0, end, 0, end, 5, 9), 0, end, end + 1}, {spans(5, 9, 5, 9), 0, end, 5}, {spans(5, 9, 8, 12), 6, 11, 6}, {spans(5, 9, 11, 12), 9, 11, 2}, {spans(11, 12, 5, 9), 10, 10, 0}, {spans(5, 9, 10, 12), 9, 10, 2},
		{row(0, 2, 1, most), 0, end, most}, {row(0, 2, 1, most), 1, 4, 2}, {make([]api.Span, most), 0, end, 1}, {row(0, end/most, end/most, most), 0, end, end / most * most}, {example(), 29, 29, 0}, {example(), 20, 30, 10},
	} {
		checkLength(t, x.l, x.a, x.b, x.n, api.OK)
		checkLength(t, reversed(x.l), x.a, x.b, x.n, api.OK)
	}
}

// P11.5, P11.9: by the definition, from and to times at, beside and between the ends of spans; a span that is cut anywhere has as many times as both parts of it.
func TestLengths(t *testing.T) {
	next := chance(6)
	for _, l := range lists() {
		at := around(l)
		for range 60 {
			x := []int64{at[next(int64(len(at)))], at[next(int64(len(at)))], at[next(int64(len(at)))]}
			if next(4) == 0 {
				x[1] = next(end + 1)
			}
			slices.Sort(x)
			checkLength(t, l, x[0], x[2], length(l, x[0], x[2]), api.OK)
			checkLength(t, l, x[0], x[0], length(l, x[0], x[0]), api.OK)
			for _, y := range [][3]int64{{x[0], x[1], x[2]}, {0, x[1], end}} {
				if y[1] == y[2] {
					continue
				}
				first, _ := blackout.Length(l, y[0], y[1])
				second, _ := blackout.Length(l, y[1]+1, y[2])
				checkLength(t, l, y[0], y[2], first+second, api.OK)
			}
		}
	}
}

// called returns what all calls with two lists and two times return.
func called(a, b []api.Span, u, v int64) string {
	err1 := blackout.Check(a)
	normal, err2 := blackout.Normal(a)
	in, err3 := blackout.In(a, u)
	free, ok, err4 := blackout.Free(a, u)
	union, err5 := blackout.Union(a, b)
	meet, err6 := blackout.Meet(a, b)
	without, err7 := blackout.Without(a, b)
	n, err8 := blackout.Length(a, u, v)
	return fmt.Sprint(normal, in, free, ok, union, meet, without, n, err1, err2, err3, err4, err5, err6, err7, err8)
}

// R4: no call changes a list, or reads or writes behind its end.
func TestArguments(t *testing.T) {
	for _, x := range [][2][]api.Span{{example(), spans(12, 12, 35, 99)}, {example(), spans(5, 4)}, {spans(-1, 4), spans(3, 9)}, {spans(7, 9, 1, 2), spans(7, 9, 1, 2)}, {spans(5, 5), nil}, {reversed(row(0, 2, 1, most)), row(1, 2, 1, most)}} {
		// What is behind the end of a list would be an error in it.
		behind := spans(-5, -5, 9, 8, -7, -6)
		wholeA, wholeB := slices.Concat(x[0], behind), slices.Concat(x[1], behind)
		a, b := wholeA[:len(x[0])], wholeB[:len(x[1])]
		if got, want := called(a, b, 13, 36), called(slices.Clip(x[0]), slices.Clip(x[1]), 13, 36); got != want {
			t.Errorf("with %v and %v, the calls return %s, want %s", wholeA, wholeB, got, want)
		}
		called(b, a, 13, 36)
		if !slices.Equal(wholeA, slices.Concat(x[0], behind)) || !slices.Equal(wholeB, slices.Concat(x[1], behind)) {
			t.Errorf("%v and %v are now %v and %v", x[0], x[1], wholeA, wholeB)
		}
	}
}

// R4: results share no memory with lists or with each other, also where they are equal to a list.
func TestResults(t *testing.T) {
	simple := spans(10, 28, 30, 40)
	a, b := slices.Clone(simple), spans(12, 12)
	for range 2 {
		same, _ := blackout.Normal(a)
		again, _ := blackout.Normal(a)
		withNil, _ := blackout.Union(a, nil)
		nilWith, _ := blackout.Union(nil, a)
		itself, _ := blackout.Union(a, a)
		union, _ := blackout.Union(a, b)
		meet, _ := blackout.Meet(a, a)
		single, _ := blackout.Meet(a, b)
		whole, _ := blackout.Without(a, nil)
		without, _ := blackout.Without(a, b)
		results := [][]api.Span{same, again, withNil, nilWith, itself, union, meet, single, whole, without}
		want := fmt.Sprint([][]api.Span{simple, simple, simple, simple, simple, simple, simple, b, simple, spans(10, 11, 13, 28, 30, 40)})
		for i, l := range results {
			if got := fmt.Sprint(results); got != want {
				t.Errorf("the results are %s, want %s", got, want)
			}
			kept := slices.Clone(l)
			for j := range l[:cap(l)] {
				l[:cap(l)][j] = api.Span{From: -9, To: -9}
			}
			results[i] = kept
		}
		if !slices.Equal(a, simple) || !slices.Equal(b, spans(12, 12)) {
			t.Errorf("the lists are now %v and %v", a, b)
		}
	}
	normal, _ := blackout.Normal(a)
	a[0] = api.Span{From: 3, To: 4}
	if !slices.Equal(normal, simple) {
		t.Errorf("with another list, the result is %v", normal)
	}
}

// P1, R1, R8: every call ends without a panic, with the first error, and returns the same a second time.
func TestEveryArgument(t *testing.T) {
	next := chance(1)
	wrong := wrongTimes()
	number := func() int64 {
		switch next(9) {
		case 0:
			return wrong[next(int64(len(wrong)))]
		case 1:
			return end - next(5)
		}
		return next(50)
	}
	list := func() []api.Span {
		l := make([]api.Span, next(4))
		if next(9) == 0 {
			l = make([]api.Span, most-1+next(3))
		}
		for i := range l {
			l[i] = api.Span{From: number(), To: number()}
			if next(4) > 0 && l[i].From > l[i].To {
				l[i].From, l[i].To = l[i].To, l[i].From
			}
		}
		return l
	}
	for range 20000 {
		a, b, u, v := list(), list(), number(), number()
		if one, two := called(a, b, u, v), called(a, b, u, v); one != two {
			t.Errorf("the calls with %v, %v, %d and %d return %s, and then %s", a, b, u, v, one, two)
		}
		if err := fault(a); err != api.OK {
			refuses(t, a, err)
		}
		if err := faultOf(a, b); err != api.OK {
			refusesBoth(t, a, b, err)
		}
		if faultOf(a) != api.OK {
			continue
		}
		if u < 0 || u > end {
			checkIn(t, a, u, false, api.ErrTime)
			checkFree(t, a, u, 0, false, api.ErrTime)
		} else {
			checkIn(t, a, u, has(a, u), api.OK)
		}
		switch {
		case u < 0, u > end, v < 0, v > end:
			checkLength(t, a, u, v, 0, api.ErrTime)
		case u > v:
			checkLength(t, a, u, v, 0, api.ErrOrder)
		default:
			checkLength(t, a, u, v, length(a, u, v), api.OK)
		}
	}
}
