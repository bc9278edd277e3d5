package every_test

import (
	"fmt"
	"math"
	"slices"
	"testing"

	"wakeman/api"
	"wakeman/every"
)

const (
	greatest = 1000000
	end      = api.MaxTime
	span     = api.MaxSpan
)

// example is the schedule S of the chapter's examples: 100, 130, 160, 190.
var example = api.Every{Start: 100, Period: 30, Count: 4}

// chance returns a function whose results look as if drawn, but are the same in each test.
func chance(seed uint64) func(below int64) int64 {
	x := seed
	return func(below int64) int64 {
		x = x*6364136223846793005 + 1442695040888963407
		y := x ^ x>>29
		y *= 0xBF58476D1CE4E5B9
		return int64((y >> 1) % uint64(below))
	}
}

// times returns the times of a schedule that has few of them, by their definition.
func times(e api.Every) []int64 {
	var l []int64
	t := e.Start
	for n := 0; t <= end && (e.Count == 0 || n < e.Count); n++ {
		l = append(l, t)
		t += e.Period
	}
	return l
}

// schedules returns valid schedules of many kinds that have few times: some end by their Count, some by MaxTime.
func schedules() []api.Every {
	l := []api.Every{
		example,
		{Start: 0, Period: 1, Count: 1}, {Start: 0, Period: span, Count: 1}, {Start: 7, Period: span, Count: 2},
		{Start: 0, Period: span}, {Start: 0, Period: span - 1}, {Start: 1, Period: span}, {Start: span, Period: span}, {Start: end - 3*span, Period: span}, {Start: end - 3*span + 1, Period: span},
		{Start: 0, Period: span, Count: 3}, {Start: 0, Period: span, Count: 4}, {Start: 0, Period: span, Count: 5}, {Start: 0, Period: span, Count: greatest},
		{Start: end, Period: 1}, {Start: end, Period: span}, {Start: end, Period: 1, Count: 1}, {Start: end, Period: 5, Count: greatest},
		{Start: end - 1, Period: 1}, {Start: end - 1, Period: 2}, {Start: end - span, Period: span}, {Start: end - span + 1, Period: span},
		{Start: end % 86400, Period: end / 9}, {Start: 0, Period: end / 9}, {Start: 2, Period: (end - 3) / 4}, {Start: 3, Period: (end - 3) / 4}, {Start: 4, Period: (end - 3) / 4},
	}
	for period := int64(1); period <= 6; period++ {
		for start := range int64(5) {
			for count := 1; count <= 5; count++ {
				l = append(l, api.Every{Start: start, Period: period, Count: count})
				l = append(l, api.Every{Start: end - 4*start, Period: period, Count: count})
			}
			l = append(l, api.Every{Start: end - 4*start, Period: period})
		}
	}
	next := chance(10)
	for range 200 {
		e := api.Every{Start: next(end + 1), Period: 1 + next(span), Count: int(next(20))}
		l = append(l, e)
		e.Start, e.Period = next(200), 1+next(50)
		e.Count++
		l = append(l, e)
		e.Start = end - next(1000)
		l = append(l, e)
		e.Period, e.Count = 20+next(500), 0
		l = append(l, e)
	}
	return l
}

// around returns the times 0 and MaxTime, and those at, beside and between the times of a list.
func around(l []int64) []int64 {
	at := []int64{0, 1, end - 1, end}
	for i, t := range l {
		at = append(at, t-1, t, t+1)
		if i > 0 {
			at = append(at, l[i-1]+(t-l[i-1])/2)
		}
	}
	slices.Sort(at)
	return slices.DeleteFunc(slices.Compact(at), func(t int64) bool { return t < 0 || t > end })
}

// wrongTimes returns numbers that are no times.
func wrongTimes() []int64 {
	return []int64{-1, end + 1, math.MinInt64, math.MaxInt64, api.Never, -api.Never}
}

// wrongSchedules returns schedules that are not valid, each in at least one field.
func wrongSchedules() []api.Every {
	l := []api.Every{{}, {Start: 5}, {Start: 5, Count: 3}}
	for _, start := range wrongTimes() {
		l = append(l, api.Every{Start: start, Period: 30, Count: 4}, api.Every{Start: start, Period: 1}, api.Every{Start: start, Period: span, Count: greatest})
	}
	for _, period := range []int64{0, -1, -30, span + 1, math.MinInt64, math.MaxInt64, api.Never, end} {
		l = append(l, api.Every{Start: 100, Period: period, Count: 4}, api.Every{Start: 0, Period: period}, api.Every{Start: end, Period: period, Count: greatest})
	}
	for _, count := range []int{-1, -4, greatest + 1, math.MinInt, math.MaxInt} {
		l = append(l, api.Every{Start: 100, Period: 30, Count: count}, api.Every{Start: 0, Period: 1, Count: count}, api.Every{Start: end, Period: span, Count: count})
	}
	return append(l, api.Every{Start: -1, Period: 0, Count: -1}, api.Every{Start: end + 1, Period: span + 1, Count: greatest + 1})
}

func checkIs(t *testing.T, e api.Every, u int64, want bool, err api.Errno) {
	t.Helper()
	if got, x := every.Is(e, u); got != want || x != err {
		t.Errorf("Is(%v, %d) = %t, %d, want %t, %d", e, u, got, x, want, err)
	}
}

func checkNext(t *testing.T, e api.Every, u, want int64, is bool, err api.Errno) {
	t.Helper()
	if got, ok, x := every.Next(e, u); got != want || ok != is || x != err {
		t.Errorf("Next(%v, %d) = %d, %t, %d, want %d, %t, %d", e, u, got, ok, x, want, is, err)
	}
}

func checkPrev(t *testing.T, e api.Every, u, want int64, is bool, err api.Errno) {
	t.Helper()
	if got, ok, x := every.Prev(e, u); got != want || ok != is || x != err {
		t.Errorf("Prev(%v, %d) = %d, %t, %d, want %d, %t, %d", e, u, got, ok, x, want, is, err)
	}
}

func checkCount(t *testing.T, e api.Every, a, b, want int64, err api.Errno) {
	t.Helper()
	if got, x := every.Count(e, a, b); got != want || x != err {
		t.Errorf("Count(%v, %d, %d) = %d, %d, want %d, %d", e, a, b, got, x, want, err)
	}
}

func checkNth(t *testing.T, e api.Every, n, want int64, err api.Errno) {
	t.Helper()
	if got, x := every.Nth(e, n); got != want || x != err {
		t.Errorf("Nth(%v, %d) = %d, %d, want %d, %d", e, n, got, x, want, err)
	}
}

func checkIndex(t *testing.T, e api.Every, u, want int64, err api.Errno) {
	t.Helper()
	if got, x := every.Index(e, u); got != want || x != err {
		t.Errorf("Index(%v, %d) = %d, %d, want %d, %d", e, u, got, x, want, err)
	}
}

func checkLast(t *testing.T, e api.Every, want int64, is bool, err api.Errno) {
	t.Helper()
	if got, ok, x := every.Last(e); got != want || ok != is || x != err {
		t.Errorf("Last(%v) = %d, %t, %d, want %d, %t, %d", e, got, ok, x, want, is, err)
	}
}

// checkMeet checks Meet in both orders of the schedules.
func checkMeet(t *testing.T, a, b api.Every, want int64, is bool, err api.Errno) {
	t.Helper()
	for range 2 {
		if got, ok, x := every.Meet(a, b); got != want || ok != is || x != err {
			t.Errorf("Meet(%v, %v) = %d, %t, %d, want %d, %t, %d", a, b, got, ok, x, want, is, err)
		}
		a, b = b, a
	}
}

// P10.1: each field of a schedule is just below, at and just above its limits.
func TestCheck(t *testing.T) {
	for _, start := range []int64{0, 1, 100, end - 1, end} {
		for _, period := range []int64{1, 2, 30, span - 1, span} {
			for _, count := range []int{0, 1, 2, greatest - 1, greatest} {
				e := api.Every{Start: start, Period: period, Count: count}
				if err := every.Check(e); err != api.OK {
					t.Errorf("Check(%v) = %d", e, err)
				}
				checkIs(t, e, start, true, api.OK)
			}
		}
	}
	for _, e := range wrongSchedules() {
		if err := every.Check(e); err != api.ErrRule {
			t.Errorf("Check(%v) = %d, want ErrRule", e, err)
		}
	}
}

// P10.1 to P10.6: a schedule that is not valid comes before times that are not valid, and before all other errors.
func TestErrorsOfSchedules(t *testing.T) {
	valid := []int64{0, 1, 100, 160, end}
	for _, e := range wrongSchedules() {
		for _, u := range slices.Concat(valid, wrongTimes()) {
			checkIs(t, e, u, false, api.ErrRule)
			checkNext(t, e, u, 0, false, api.ErrRule)
			checkPrev(t, e, u, 0, false, api.ErrRule)
			checkIndex(t, e, u, 0, api.ErrRule)
			checkNth(t, e, u, 0, api.ErrRule)
			for _, v := range slices.Concat(valid, wrongTimes()) {
				checkCount(t, e, u, v, 0, api.ErrRule)
			}
		}
		checkLast(t, e, 0, false, api.ErrRule)
		for _, other := range schedules() {
			checkMeet(t, e, other, 0, false, api.ErrRule)
		}
		for _, other := range wrongSchedules() {
			checkMeet(t, e, other, 0, false, api.ErrRule)
		}
	}
}

// P10.1 to P10.4: times that are not valid, also where the schedule has no times near them, and of two times the first, the second or both.
func TestErrorsOfTimes(t *testing.T) {
	for _, e := range schedules() {
		for _, u := range wrongTimes() {
			checkIs(t, e, u, false, api.ErrTime)
			checkNext(t, e, u, 0, false, api.ErrTime)
			checkPrev(t, e, u, 0, false, api.ErrTime)
			checkIndex(t, e, u, 0, api.ErrTime)
			for _, v := range []int64{0, e.Start, end} {
				checkCount(t, e, u, v, 0, api.ErrTime)
				checkCount(t, e, v, u, 0, api.ErrTime)
			}
			for _, v := range wrongTimes() {
				checkCount(t, e, u, v, 0, api.ErrTime)
			}
		}
	}
}

// P10.1 to P10.5: the examples, and schedules with so many times that just some of them can be looked at.
func TestEnds(t *testing.T) {
	for _, x := range []struct {
		e          api.Every
		last, many int64
	}{
		{example, 190, 4},
		{api.Every{Start: 0, Period: 1}, end, end + 1},
		{api.Every{Start: 1, Period: 1}, end, end},
		{api.Every{Start: 0, Period: 2}, end - 1, (end + 1) / 2},
		{api.Every{Start: 1, Period: 2}, end, (end + 1) / 2},
		{api.Every{Start: end, Period: 1}, end, 1},
		{api.Every{Start: end - 1, Period: 1}, end, 2},
		{api.Every{Start: end - 1, Period: 2}, end - 1, 1},
		{api.Every{Start: end - 10, Period: 10}, end, 2},
		{api.Every{Start: end - 9, Period: 10}, end - 9, 1},
		{api.Every{Start: end - 11, Period: 10}, end - 1, 2},
		{api.Every{Start: 0, Period: span}, 3 * span, 4},
		{api.Every{Start: 5, Period: span, Count: 1}, 5, 1},
		{api.Every{Start: end - span, Period: span}, end, 2},
		{api.Every{Start: end - span + 1, Period: span}, end - span + 1, 1},
		// Just the Count, and one less or more than there are up to MaxTime.
		{api.Every{Start: end - 40, Period: 10, Count: 4}, end - 10, 4},
		{api.Every{Start: end - 40, Period: 10, Count: 5}, end, 5},
		{api.Every{Start: end - 40, Period: 10, Count: 6}, end, 5},
		{api.Every{Start: end - 41, Period: 10, Count: 5}, end - 1, 5},
		{api.Every{Start: end - 41, Period: 10, Count: 6}, end - 1, 5},
		{api.Every{Start: end - 39, Period: 10, Count: 5}, end - 9, 4},
		{api.Every{Start: 0, Period: 1, Count: greatest}, greatest - 1, greatest},
		{api.Every{Start: 0, Period: 1, Count: greatest - 1}, greatest - 2, greatest - 1},
		{api.Every{Start: 77, Period: 253000, Count: greatest}, 77 + 253000*(greatest-1), greatest},
		{api.Every{Start: end - (greatest-1)*1000, Period: 1000, Count: greatest}, end, greatest},
		{api.Every{Start: end - (greatest-1)*1000 + 1, Period: 1000, Count: greatest}, end - 999, greatest - 1},
		{api.Every{Start: end - (greatest-1)*1000 - 1, Period: 1000, Count: greatest}, end - 1, greatest},
		{api.Every{Start: 0, Period: span, Count: greatest}, 3 * span, 4},
		{api.Every{Start: 0, Period: 86400}, end - 86399, 2932897},
	} {
		last := x.many - 1
		checkLast(t, x.e, x.last, true, api.OK)
		checkNth(t, x.e, 0, x.e.Start, api.OK)
		checkNth(t, x.e, last, x.last, api.OK)
		for _, n := range []int64{-1, math.MinInt64, -api.Never, x.many, x.many + 1, api.Never, math.MaxInt64} {
			checkNth(t, x.e, n, 0, api.ErrRange)
		}
		checkIndex(t, x.e, x.e.Start, 0, api.OK)
		checkIndex(t, x.e, x.last, last, api.OK)
		checkIs(t, x.e, x.last, true, api.OK)
		checkCount(t, x.e, 0, end, x.many, api.OK)
		checkCount(t, x.e, x.e.Start, x.last, x.many, api.OK)
		checkCount(t, x.e, end, 0, 0, api.OK)
		checkNext(t, x.e, x.last, 0, false, api.OK)
		checkNext(t, x.e, end, 0, false, api.OK)
		checkPrev(t, x.e, x.e.Start, 0, false, api.OK)
		checkPrev(t, x.e, 0, 0, false, api.OK)
		if x.last < end {
			checkIs(t, x.e, x.last+1, false, api.OK)
			checkIndex(t, x.e, x.last+1, 0, api.ErrNone)
			checkPrev(t, x.e, end, x.last, true, api.OK)
			checkPrev(t, x.e, x.last+1, x.last, true, api.OK)
			checkCount(t, x.e, x.last+1, end, 0, api.OK)
		}
		if u := x.last + x.e.Period; u <= end {
			checkIs(t, x.e, u, false, api.OK)
			checkIndex(t, x.e, u, 0, api.ErrNone)
		}
		if x.e.Start > 0 {
			checkIs(t, x.e, x.e.Start-1, false, api.OK)
			checkIndex(t, x.e, x.e.Start-1, 0, api.ErrNone)
			checkNext(t, x.e, 0, x.e.Start, true, api.OK)
			checkNext(t, x.e, x.e.Start-1, x.e.Start, true, api.OK)
			checkCount(t, x.e, 0, x.e.Start-1, 0, api.OK)
		}
		if u := x.e.Start - x.e.Period; u >= 0 {
			checkIs(t, x.e, u, false, api.OK)
			checkIndex(t, x.e, u, 0, api.ErrNone)
		}
		if x.many > 1 {
			before := x.last - x.e.Period
			checkNth(t, x.e, last-1, before, api.OK)
			checkIndex(t, x.e, before, last-1, api.OK)
			checkNext(t, x.e, before, x.last, true, api.OK)
			checkNext(t, x.e, x.last-1, x.last, true, api.OK)
			checkPrev(t, x.e, x.last, before, true, api.OK)
			checkNext(t, x.e, x.e.Start, x.e.Start+x.e.Period, true, api.OK)
			checkPrev(t, x.e, x.e.Start+1, x.e.Start, true, api.OK)
		}
	}
}

// P10.1 to P10.3: the examples.
func TestExamples(t *testing.T) {
	checkIs(t, example, 130, true, api.OK)
	checkIs(t, example, 220, false, api.OK)
	checkIs(t, example, 70, false, api.OK)
	checkNext(t, example, 0, 100, true, api.OK)
	checkNext(t, example, 100, 130, true, api.OK)
	checkNext(t, example, 190, 0, false, api.OK)
	checkPrev(t, example, 100, 0, false, api.OK)
	checkPrev(t, example, 1000, 190, true, api.OK)
	checkCount(t, example, 100, 160, 3, api.OK)
	checkCount(t, example, 101, 129, 0, api.OK)
	checkCount(t, example, 160, 100, 0, api.OK)
	checkNth(t, example, 3, 190, api.OK)
	checkNth(t, example, 4, 0, api.ErrRange)
	checkIndex(t, example, 160, 2, api.OK)
	checkIndex(t, example, 161, 0, api.ErrNone)
	checkLast(t, example, 190, true, api.OK)
	if err := every.Check(api.Every{Start: 100, Period: 0, Count: 4}); err != api.ErrRule {
		t.Errorf("the error of Period 0 is %d", err)
	}
}

// P10.1, P10.2, P10.4: by their definitions, at, beside and between the times of schedules, before them and behind them.
func TestAround(t *testing.T) {
	for _, e := range schedules() {
		l := times(e)
		for _, u := range around(l) {
			i := slices.Index(l, u)
			checkIs(t, e, u, i >= 0, api.OK)
			if i >= 0 {
				checkIndex(t, e, u, int64(i), api.OK)
			} else {
				checkIndex(t, e, u, 0, api.ErrNone)
			}
			later, earlier := []int64{}, []int64{}
			for _, v := range l {
				if v > u {
					later = append(later, v)
				}
				if v < u {
					earlier = append(earlier, v)
				}
			}
			if len(later) > 0 {
				checkNext(t, e, u, later[0], true, api.OK)
			} else {
				checkNext(t, e, u, 0, false, api.OK)
			}
			if len(earlier) > 0 {
				checkPrev(t, e, u, earlier[len(earlier)-1], true, api.OK)
			} else {
				checkPrev(t, e, u, 0, false, api.OK)
			}
		}
	}
}

// P10.4, P10.5: by their definitions: all numbers, and those just before the first and behind the last one.
func TestAllNumbers(t *testing.T) {
	for _, e := range schedules() {
		l := times(e)
		for n, u := range l {
			checkNth(t, e, int64(n), u, api.OK)
		}
		checkNth(t, e, -1, 0, api.ErrRange)
		checkNth(t, e, int64(len(l)), 0, api.ErrRange)
		checkLast(t, e, l[len(l)-1], true, api.OK)
	}
}

// P10.3: by its definition: spans of one second, spans that begin or end at, beside and between times, or outside of them, and spans that end before they begin.
func TestCount(t *testing.T) {
	for _, e := range schedules() {
		l := times(e)
		at := around(l)
		for _, a := range at {
			for _, b := range at {
				var want int64
				for _, u := range l {
					if u >= a && u <= b {
						want++
					}
				}
				checkCount(t, e, a, b, want, api.OK)
			}
		}
	}
}

// P10.7: from Start on, Next goes through all times, and there is none in between; Prev goes back again.
func TestSteps(t *testing.T) {
	for _, e := range schedules() {
		want, u, seen := times(e), e.Start, []int64{e.Start}
		for len(seen) <= len(want) {
			next, ok, _ := every.Next(e, u)
			if !ok {
				break
			}
			if next <= u {
				t.Fatalf("Next(%v, %d) = %d, which is not later", e, u, next)
			}
			checkPrev(t, e, next, u, true, api.OK)
			checkCount(t, e, u, next, 2, api.OK)
			for _, v := range []int64{u + 1, u + (next-u)/2, next - 1} {
				if v > u && v < next {
					checkIs(t, e, v, false, api.OK)
					checkNext(t, e, v, next, true, api.OK)
					checkPrev(t, e, v, u, true, api.OK)
				}
			}
			u = next
			seen = append(seen, u)
		}
		if !slices.Equal(seen, want) {
			t.Errorf("Next goes through %v, want %v, in %v", seen, want, e)
		}
	}
}

// long returns schedules with many times.
func long() []api.Every {
	l := []api.Every{{Start: 0, Period: 1}, {Start: 3, Period: 7}, {Start: 0, Period: 1, Count: greatest}, {Start: end - 1000, Period: 1, Count: greatest}, {Start: end - 7*greatest, Period: 7, Count: greatest}}
	next := chance(8)
	for range 100 {
		l = append(l, api.Every{Start: next(end + 1), Period: 1 + next(100000)}, api.Every{Start: next(100000), Period: 1 + next(300000), Count: 1 + int(next(greatest))})
	}
	return l
}

// P10.8: Index takes back Nth, and Nth Index; the times from Start on have the numbers from 0 on.
func TestNumbersAgree(t *testing.T) {
	next := chance(3)
	for _, e := range long() {
		many, _ := every.Count(e, 0, end)
		last, _, _ := every.Last(e)
		for range 50 {
			n := next(many)
			u, err := every.Nth(e, n)
			if want := e.Start + n*e.Period; u != want || err != api.OK {
				t.Errorf("Nth(%v, %d) = %d, %d, want %d", e, n, u, err, want)
			}
			checkIndex(t, e, u, n, api.OK)
			checkCount(t, e, e.Start, u, n+1, api.OK)
			checkCount(t, e, u, last, many-n, api.OK)
		}
		checkNth(t, e, many, 0, api.ErrRange)
		checkNth(t, e, many-1, last, api.OK)
	}
}

// P10.9: a span that is cut anywhere has as many times as both parts of it.
func TestSums(t *testing.T) {
	next := chance(4)
	for _, e := range append(schedules(), long()...) {
		last, _, _ := every.Last(e)
		for range 50 {
			l := []int64{next(end + 1), next(end + 1), e.Start + next(last-e.Start+1)}
			slices.Sort(l)
			for _, x := range [][3]int64{{l[0], l[1], l[2]}, {0, l[1], end}, {e.Start, l[2], end}, {0, l[0], last}, {0, e.Start, last}} {
				a, cut, b := x[0], x[1], x[2]
				if cut >= b {
					continue
				}
				first, _ := every.Count(e, a, cut)
				second, _ := every.Count(e, cut+1, b)
				checkCount(t, e, a, b, first+second, api.OK)
			}
		}
	}
}

// P10.6: the examples, and the ends of schedules at which they meet just so, or just no longer.
func TestMeet(t *testing.T) {
	for _, x := range []struct {
		a, b api.Every
		want int64
		ok   bool
	}{
		{example, api.Every{Start: 10, Period: 50}, 160, true},
		{example, api.Every{Start: 1, Period: 30}, 0, false},
		{example, api.Every{Start: 10, Period: 50, Count: 3}, 0, false},
		{example, api.Every{Start: 10, Period: 50, Count: 4}, 160, true},
		{api.Every{Start: 100, Period: 30, Count: 2}, api.Every{Start: 10, Period: 50}, 0, false},
		{api.Every{Start: 100, Period: 30, Count: 3}, api.Every{Start: 10, Period: 50, Count: 4}, 160, true},
		// Equal periods: with equal rests, they meet where the later one begins, if the other one is not at its end before.
		{example, example, 100, true},
		{example, api.Every{Start: 10, Period: 30}, 100, true},
		{example, api.Every{Start: 10, Period: 30, Count: 3}, 0, false},
		{example, api.Every{Start: 10, Period: 30, Count: 4}, 100, true},
		{example, api.Every{Start: 190, Period: 30}, 190, true},
		{example, api.Every{Start: 220, Period: 30}, 0, false},
		{example, api.Every{Start: 101, Period: 30}, 0, false},
		{api.Every{Start: 0, Period: span}, api.Every{Start: 3 * span, Period: span}, 3 * span, true},
		{api.Every{Start: 0, Period: span}, api.Every{Start: 3*span - 1, Period: span}, 0, false},
		// No common divisor.
		{api.Every{Start: 3, Period: 7}, api.Every{Start: 4, Period: 11}, 59, true},
		{api.Every{Start: 3, Period: 7, Count: 9}, api.Every{Start: 4, Period: 11, Count: 6}, 59, true},
		{api.Every{Start: 3, Period: 7, Count: 8}, api.Every{Start: 4, Period: 11}, 0, false},
		{api.Every{Start: 3, Period: 7}, api.Every{Start: 4, Period: 11, Count: 5}, 0, false},
		// A common divisor that the rests keep to, or do not.
		{api.Every{Start: 0, Period: 6}, api.Every{Start: 9, Period: 9}, 18, true},
		{api.Every{Start: 0, Period: 6}, api.Every{Start: 10, Period: 9}, 0, false},
		{api.Every{Start: 0, Period: 1 << 30}, api.Every{Start: 1 << 29, Period: 1 << 30}, 0, false},
		{api.Every{Start: 0, Period: 6 << 20}, api.Every{Start: 3, Period: 10 << 20}, 0, false},
		// One period divides the other one.
		{api.Every{Start: 0, Period: 4}, api.Every{Start: 2, Period: 8}, 0, false},
		{api.Every{Start: 2, Period: 4}, api.Every{Start: 2, Period: 8}, 2, true},
		{api.Every{Start: 2, Period: 4}, api.Every{Start: 6, Period: 8}, 6, true},
		{api.Every{Start: 6, Period: 4}, api.Every{Start: 2, Period: 8}, 10, true},
		{api.Every{Start: 0, Period: 1}, api.Every{Start: 500, Period: span}, 500, true},
		{api.Every{Start: 500, Period: 1}, api.Every{Start: 0, Period: span}, span, true},
		{api.Every{Start: 500, Period: 1}, api.Every{Start: 0, Period: span, Count: 1}, 0, false},
		{api.Every{Start: 500, Period: 1, Count: greatest}, api.Every{Start: 0, Period: span}, 0, false},
		// The Start of one is a time of the other.
		{api.Every{Start: 60, Period: 35}, api.Every{Start: 10, Period: 25}, 60, true},
		{api.Every{Start: 60, Period: 35, Count: 1}, api.Every{Start: 10, Period: 25, Count: 3}, 60, true},
		{api.Every{Start: 60, Period: 35}, api.Every{Start: 10, Period: 25, Count: 2}, 0, false},
		{api.Every{Start: 0, Period: 86400}, api.Every{Start: end - 86399, Period: 5}, end - 86399, true},
		// Periods near MaxSpan, and products of them that are far above MaxTime.
		{api.Every{Start: 0, Period: span}, api.Every{Start: 1, Period: span - 1}, span, true},
		{api.Every{Start: 0, Period: span}, api.Every{Start: 3, Period: span - 1}, 3 * span, true},
		{api.Every{Start: 0, Period: span, Count: 3}, api.Every{Start: 3, Period: span - 1}, 0, false},
		{api.Every{Start: 0, Period: span}, api.Every{Start: 3, Period: span - 1, Count: 3}, 0, false},
		{api.Every{Start: 0, Period: span}, api.Every{Start: 4, Period: span - 1}, 0, false},
		{api.Every{Start: 0, Period: span - 1}, api.Every{Start: 1, Period: span}, 0, false},
		{api.Every{Start: 0, Period: span - 1}, api.Every{Start: 2, Period: span - 3}, span - 1, true},
		{api.Every{Start: 5, Period: span}, api.Every{Start: 5, Period: span - 5}, 5, true},
		// The ends of time.
		{api.Every{Start: 0, Period: 1}, api.Every{Start: 0, Period: 1}, 0, true},
		{api.Every{Start: 0, Period: 1}, api.Every{Start: end, Period: 1}, end, true},
		{api.Every{Start: 0, Period: 1, Count: greatest}, api.Every{Start: end, Period: 1}, 0, false},
		{api.Every{Start: end, Period: span}, api.Every{Start: end, Period: 1}, end, true},
		{api.Every{Start: end - 77, Period: 7}, api.Every{Start: end - 22, Period: 11}, end, true},
		{api.Every{Start: end - 77, Period: 7}, api.Every{Start: end - 21, Period: 11}, end - 21, true},
		{api.Every{Start: end - 76, Period: 7}, api.Every{Start: end - 21, Period: 11}, 0, false},
		{api.Every{Start: end - 1, Period: 2}, api.Every{Start: end, Period: 2}, 0, false},
	} {
		checkMeet(t, x.a, x.b, x.want, x.ok, api.OK)
	}
}

// shared returns the times that two lists share, by search.
func shared(a, b []int64) []int64 {
	var l []int64
	for _, u := range a {
		if _, ok := slices.BinarySearch(b, u); ok {
			l = append(l, u)
		}
	}
	return l
}

// divisor returns the greatest common divisor.
func divisor(a, b int64) int64 {
	for b > 0 {
		a, b = b, a%b
	}
	return a
}

// P10.6, P10.10: by the definition, for all small periods and rests; what is shared lies at distances that both periods divide.
func TestMeetSmall(t *testing.T) {
	checkPair := func(a, b api.Every) {
		both := shared(times(a), times(b))
		if len(both) == 0 {
			checkMeet(t, a, b, 0, false, api.OK)
			return
		}
		first, _, _ := every.Meet(a, b)
		checkMeet(t, a, b, both[0], true, api.OK)
		least := a.Period / divisor(a.Period, b.Period) * b.Period
		for i, u := range both {
			if u-first != int64(i)*least {
				t.Errorf("%v and %v share %v", a, b, both)
			}
		}
	}
	for p := int64(1); p <= 9; p++ {
		for q := int64(1); q <= p; q++ {
			for rest := range p {
				for _, count := range []int{1, 2, 3, 7, 40} {
					for _, start := range []int64{0, q, 3*q + 1} {
						a, b := api.Every{Start: 10 + rest, Period: p, Count: 30}, api.Every{Start: 10 + start, Period: q, Count: count}
						checkPair(a, b)
						a.Start, b.Start = end-150+rest, end-150+start
						checkPair(a, b)
						a.Count, b.Count = 0, 0
						checkPair(a, b)
					}
				}
			}
		}
	}
	l := schedules()
	next := chance(6)
	for range 20000 {
		a, b := l[next(int64(len(l)))], l[next(int64(len(l)))]
		if a.Period < span/9 && b.Period < span/9 {
			checkPair(a, b)
		}
	}
}

// P10.6: by the definition, for schedules without a Count: the times of the one with the greater period are gone through.
func TestMeetLong(t *testing.T) {
	next := chance(7)
	for _, most := range []int64{10, 1000, 30000, 600000, 1 << 24, span} {
		for range 40 {
			a, b := api.Every{Start: next(most), Period: 1 + next(most)}, api.Every{Start: next(most), Period: 1 + next(most)}
			if next(2) == 0 {
				d := 1 + next(20)
				a.Period, b.Period = min(a.Period*d, span), min(b.Period*d, span)
			}
			if a.Period < b.Period {
				a, b = b, a
			}
			u, ok := a.Start, false
			// Behind the Start of b, after as many times as its period has seconds, the rests are the same again.
			for n := int64(0); u <= end && n < b.Period; u += a.Period {
				if u < b.Start {
					continue
				}
				if (u-b.Start)%b.Period == 0 {
					ok = true
					break
				}
				n++
			}
			if !ok {
				u = 0
			}
			checkMeet(t, a, b, u, ok, api.OK)
		}
	}
}

// P10.6, P10.10: schedules that share a time, and then just those that have a number of periods of both in between; also where the product of the periods has more than 64 bits.
func TestMeetKnown(t *testing.T) {
	next := chance(12)
	for range 3000 {
		// The second period is one less than a multiple of the first one, so that they have no common divisor but the one that is added below.
		p := 1 + next(1<<uint(1+next(36)))
		q := p*(1+next(span/p)) - 1
		if q < 1 {
			continue
		}
		d := 1 + next(min(1000, span/max(p, q)))
		p, q = p*d, q*d
		u := next(end + 1)
		a, b := api.Every{Start: u - next(u/p+1)*p, Period: p}, api.Every{Start: u - next(u/q+1)*q, Period: q}
		want := u
		// With p and q below 2^36, p / d * q may exceed what an int64 holds; then it is far above MaxTime.
		if p/d <= end/q {
			least := p / d * q
			want -= (u - max(a.Start, b.Start)) / least * least
		}
		checkMeet(t, a, b, want, true, api.OK)
		n, err := every.Index(a, want)
		if err != api.OK {
			t.Fatalf("%d is not a time of %v", want, a)
		}
		if n < greatest {
			a.Count = int(n) + 1
			checkMeet(t, a, b, want, true, api.OK)
			if a.Count = int(n); n > 0 {
				checkMeet(t, a, b, 0, false, api.OK)
			}
			a.Count = 0
		}
		if d > 1 {
			b.Start = max(b.Start-1, 0)
			if (b.Start-a.Start)%d != 0 {
				checkMeet(t, a, b, 0, false, api.OK)
			}
		}
	}
}

// P10.6: schedules that would meet for the first time when so many seconds have gone by that they just do not fit into 64 bits.
func TestMeetBeyond(t *testing.T) {
	next := chance(14)
	for range 2000 {
		p, q := span-next(span/2), span-next(span/2)
		if divisor(p, q) > 1 {
			continue
		}
		// This many periods are 2^64 seconds and a few more.
		n := math.MaxUint64/uint64(p) + 1 + uint64(next(3))
		few := n * uint64(p)
		rest := (math.MaxUint64%uint64(q) + 1 + few) % uint64(q)
		a, b := api.Every{Start: (q - int64(rest)) % q, Period: p}, api.Every{Start: 0, Period: q}
		if l := shared(times(a), times(b)); len(l) > 0 {
			t.Fatalf("%v and %v share %v", a, b, l)
		}
		checkMeet(t, a, b, 0, false, api.OK)
		a.Count, b.Count = greatest, greatest
		checkMeet(t, a, b, 0, false, api.OK)
	}
}

// fault returns the error that a schedule and times have to have.
func fault(e api.Every, asked ...int64) api.Errno {
	if e.Start < 0 || e.Start > end || e.Period <= 0 || e.Period > span || e.Count < 0 || e.Count > greatest {
		return api.ErrRule
	}
	for _, u := range asked {
		if u < 0 || u > end {
			return api.ErrTime
		}
	}
	return api.OK
}

// called returns what all calls with two schedules and two numbers return.
func called(e, f api.Every, a, b int64) string {
	check := every.Check(e)
	is, err1 := every.Is(e, a)
	next, later, err2 := every.Next(e, a)
	prev, earlier, err3 := every.Prev(e, a)
	count, err4 := every.Count(e, a, b)
	nth, err5 := every.Nth(e, a)
	index, err6 := every.Index(e, a)
	last, some, err7 := every.Last(e)
	meet, ever, err8 := every.Meet(e, f)
	return fmt.Sprint(check, is, next, later, prev, earlier, count, nth, index, last, some, meet, ever, err1, err2, err3, err4, err5, err6, err7, err8)
}

// P1, R1, R8: every call ends without a panic, with the first error, and returns the same a second time.
func TestEveryArgument(t *testing.T) {
	next := chance(1)
	numbers := append(wrongTimes(), 0, 1, 2, 3, 7, 30, greatest, greatest+1, span-1, span, span+1, end-1, end)
	any := func() int64 {
		if next(2) == 0 {
			return numbers[next(int64(len(numbers)))]
		}
		return next(200)
	}
	schedule := func() api.Every { return api.Every{Start: any(), Period: any(), Count: int(any())} }
	for range 50000 {
		e, f, a, b := schedule(), schedule(), any(), any()
		if one, two := called(e, f, a, b), called(e, f, a, b); one != two {
			t.Errorf("the calls with %v, %v, %d and %d return %s, and then %s", e, f, a, b, one, two)
		}
		if err := every.Check(e); err != fault(e) {
			t.Errorf("Check(%v) = %d", e, err)
		}
		if err := fault(e, a); err != api.OK {
			checkIs(t, e, a, false, err)
			checkNext(t, e, a, 0, false, err)
			checkPrev(t, e, a, 0, false, err)
			checkIndex(t, e, a, 0, err)
		}
		if err := fault(e, a, b); err != api.OK {
			checkCount(t, e, a, b, 0, err)
		}
		if err := fault(e); err != api.OK {
			checkNth(t, e, a, 0, err)
			checkLast(t, e, 0, false, err)
			checkMeet(t, e, f, 0, false, err)
		}
	}
}
