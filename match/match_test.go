package match_test

import (
	"fmt"
	"math"
	"slices"
	"sort"
	"sync"
	"testing"
	"time"

	"wakeman/api"
	"wakeman/expr"
	"wakeman/match"
)

const (
	daySeconds = 86400
	lastDay    = api.MaxTime / daySeconds
	lastZone   = 840
	longest    = 100000
)

// The full fields, in the words of chapter 6.
const (
	sixty  uint64 = 1<<60 - 1
	hours  uint64 = 1<<24 - 1
	days   uint64 = 1<<32 - 1<<1
	months uint64 = 1<<13 - 1<<1
	weeks  uint64 = 1<<7 - 1
)

// date is a date with its day of the week.
type date struct {
	year             int16
	month, day, week int8
}

// calendar returns all dates from 1970-01-01 to 9999-12-31, counted on one by one.
var calendar = sync.OnceValue(func() []date {
	lengths := [...]int8{31, 28, 31, 30, 31, 30, 31, 31, 30, 31, 30, 31}
	var l []date
	for d := (date{1970, 1, 1, 4}); d.year < 10000; {
		l = append(l, d)
		d.week = (d.week + 1) % 7
		length := lengths[d.month-1]
		if d.month == 2 && (d.year%4 == 0 && d.year%100 != 0 || d.year%400 == 0) {
			length++
		}
		if d.day++; d.day > length {
			d.day, d.month = 1, d.month+1
		}
		if d.month > 12 {
			d.month, d.year = 1, d.year+1
		}
	}
	return l
})

// has reports whether a set has a number.
func has[V int8 | int | int64](s uint64, v V) bool { return s>>v&1 == 1 }

// span returns the set of the numbers from lo to hi.
func span(lo, hi int) uint64 {
	var s uint64
	for v := lo; v <= hi; v++ {
		s |= 1 << v
	}
	return s
}

// matchesDate is the definition, in its own words.
func matchesDate(x api.Expr, d date) bool {
	if !has(x.Month, d.month) {
		return false
	}
	switch {
	case x.AnyDay && x.AnyWeek:
		return true
	case x.AnyDay:
		return has(x.Week, d.week)
	case x.AnyWeek:
		return has(x.Day, d.day)
	}
	return has(x.Day, d.day) || has(x.Week, d.week)
}

// shown returns what the local clocks of a zone show, in seconds since 1970 began there, and whether this is a local date from 1970 to 9999.
func shown(z int, t int64) (int64, bool) {
	l := t + 60*int64(z)
	return l, 0 <= l && l <= api.MaxTime
}

// matchesDay is the definition of what Day reports.
func matchesDay(x api.Expr, z int, t int64) bool {
	l, ok := shown(z, t)
	return ok && matchesDate(x, calendar()[l/daySeconds])
}

// matches is the definition of what Is reports.
func matches(x api.Expr, z int, t int64) bool {
	if !matchesDay(x, z, t) {
		return false
	}
	l, _ := shown(z, t)
	s := l % daySeconds
	return has(x.Hour, s/3600) && has(x.Minute, s/60%60) && has(x.Second, s%60)
}

// known is an expression with all dates and all times of day that it matches, in their order.
type known struct {
	x       api.Expr
	days    []int32
	seconds []int32
}

// matched keeps the dates of expressions, of which many have the same ones.
var matched = map[api.Expr][]int32{}

// matchedDays goes through all dates.
func matchedDays(x api.Expr) []int32 {
	x.Second, x.Minute, x.Hour = 0, 0, 0
	l, ok := matched[x]
	if !ok {
		for i, d := range calendar() {
			if matchesDate(x, d) {
				l = append(l, int32(i))
			}
		}
		matched[x] = l
	}
	return l
}

// know goes through all dates and all times of day.
func know(x api.Expr) *known {
	k := &known{x: x, days: matchedDays(x)}
	for s := range daySeconds {
		if has(x.Hour, s/3600) && has(x.Minute, s/60%60) && has(x.Second, s%60) {
			k.seconds = append(k.seconds, int32(s))
		}
	}
	return k
}

// total is how many local times are matched.
func (k *known) total() int64 { return int64(len(k.days)) * int64(len(k.seconds)) }

// pick returns the local time with an index.
func (k *known) pick(i int64) int64 {
	n := int64(len(k.seconds))
	return daySeconds*int64(k.days[i/n]) + int64(k.seconds[i%n])
}

// rank returns how many of the local times are below l.
func (k *known) rank(l int64) int64 {
	below := func(list []int32, v int64) int {
		return sort.Search(len(list), func(i int) bool { return int64(list[i]) >= v })
	}
	if l < 0 {
		return 0
	}
	d := l / daySeconds
	i := below(k.days, d)
	n := int64(i) * int64(len(k.seconds))
	if i < len(k.days) && int64(k.days[i]) == d {
		n += int64(below(k.seconds, l%daySeconds))
	}
	return n
}

// next, prev, list and count are the definitions of what the functions return.
func (k *known) next(z int, t int64) (int64, bool) {
	i := k.rank(t + 1 + 60*int64(z))
	if i == k.total() {
		return 0, false
	}
	u := k.pick(i) - 60*int64(z)
	if u > api.MaxTime {
		return 0, false
	}
	return u, true
}

func (k *known) prev(z int, t int64) (int64, bool) {
	i := k.rank(t + 60*int64(z))
	if i == 0 {
		return 0, false
	}
	u := k.pick(i-1) - 60*int64(z)
	if u < 0 {
		return 0, false
	}
	return u, true
}

func (k *known) count(z int, a, b int64) int64 {
	return max(0, k.rank(b+1+60*int64(z))-k.rank(a+60*int64(z)))
}

func (k *known) list(z int, a, b int64, most int) []int64 {
	var l []int64
	i := k.rank(a + 60*int64(z))
	for range min(k.count(z, a, b), int64(max(most, 0)), longest) {
		l = append(l, k.pick(i)-60*int64(z))
		i++
	}
	return l
}

// parsed returns the expression of a text, which has to be one.
func parsed(t *testing.T, s string) api.Expr {
	t.Helper()
	x, at, err := expr.Parse(s)
	if at != 0 || err != api.OK {
		t.Fatalf("Parse(%q) returns %d, %d", s, at, err)
	}
	return x
}

// show returns what an expression is.
func show(x api.Expr) string {
	if s, err := expr.Print(x); err == api.OK {
		return s
	}
	return fmt.Sprintf("%#x %#x %#x %#x %#x %#x %t %t", x.Second, x.Minute, x.Hour, x.Day, x.Month, x.Week, x.AnyDay, x.AnyWeek)
}

// chance returns a function that returns numbers below a bound, which follow a fixed rule.
func chance(seed uint64) func(below int64) int64 {
	x := seed
	return func(below int64) int64 {
		x = x*6364136223846793005 + 1442695040888963407
		y := x ^ x>>29
		y *= 0xBF58476D1CE4E5B9
		return int64((y >> 1) % uint64(below))
	}
}

// texts are expressions whose days are free, by Day, by Week and by either, many that match few dates or none, and some of all, one or few times of a day.
func texts() []string {
	return []string{
		"* * * * * *", "* * * * *", "*/15 9-17 * * 1-5", "0 0 13 * 5", "0 0 * * *", "0 0 0 1 1 *", "59 59 23 31 12 *",
		"0 0 1-31 * *", "0 0 * * 0-6", "0 0 1-31 * 0-6", "30 12 13 * 0-6", "30 12 1-31 * 5", "59 23 1-31 2 0",
		"0 0 29 2 *", "0 0 29 2 1", "0 0 * 2 1", "7 0 0 29 2 *", "0-59/59 59 23 29 2 *", "0 12 28 2 *", "0 0 30,31 2 *", "0 0 30 2 *", "0 0 30 2 3", "* * * 31 2,4,6,9,11 *", "0 0 31 2,4,6,9,11 0",
		"0 0 31 * *", "0 0 30 * *", "0 0 29 * *", "0 0 28-31 2-3 *", "0 0 1 3 *", "0 0 31 12 6", "0 0 1 1 0", "0 0 1,31 1,12 *",
		"0 0 * * 0", "0 0 * * 4", "0 0 * 1 4", "59 59 23 * * 5", "0 0 * 12 5", "5,55 1,58 0,23 * * 2-3",
		"58-59 59 23 * * *", "0-1 0 0 * * *", "30 30 12 15 6 *", "0 0 23 * * *", "0 59 0 * * *", "59 0 0 * * *", "* 0 0 1 * *", "0 * 23 31 * 6", "0 0 * 29 2 *", "1-59 1-59 1-23 * * *", "0-58 0-58 0-22 * * *",
	}
}

// drawn returns an expression that follows a fixed rule.
func drawn(next func(int64) int64) api.Expr {
	field := func(full uint64, hi int) uint64 {
		switch next(5) {
		case 0:
			return full
		case 1:
			return full &^ (1 << next(int64(hi+1)))
		case 2:
			v := int(next(int64(hi + 1)))
			return max(full&span(v, v+int(next(9))), 2)
		}
		for {
			if s := full & (1<<next(int64(hi+1)) | 1<<next(int64(hi+1)) | 1<<next(int64(hi+1))); s != 0 {
				return s
			}
		}
	}
	x := api.Expr{Second: field(sixty, 59), Minute: field(sixty, 59), Hour: field(hours, 23), Day: field(days, 31), Month: field(months, 12), Week: field(weeks, 6)}
	if next(2) == 0 {
		x.Day, x.AnyDay = days, true
	}
	if next(2) == 0 {
		x.Week, x.AnyWeek = weeks, true
	}
	return x
}

// all returns the expressions of all texts, and some drawn ones.
var all = sync.OnceValue(func() []*known {
	var l []*known
	for _, s := range texts() {
		x, _, err := expr.Parse(s)
		if err != api.OK {
			panic(s)
		}
		l = append(l, know(x))
	}
	next := chance(1)
	for range 40 {
		l = append(l, know(drawn(next)))
	}
	return l
})

// zones returns both ends, UTC, whole hours, and zones that are no whole hours.
func zones() []int {
	return []int{-840, -839, -721, -480, -210, -61, -60, -1, 0, 1, 59, 60, 90, 330, 345, 719, 720, 839, 840}
}

// wrongZones returns numbers that are no zones, some of them so great that 60 times them wraps around to what a zone has, or to 0.
func wrongZones() []int {
	return []int{-841, 841, -900, 900, -1440, 1440, 86400, 1 << 31, -1 << 31, 1 << 32, 1<<62 + 330, 1<<62 - 330, 1 << 62, -1 << 62, 1 << 60, math.MaxInt, math.MaxInt - 1, math.MinInt, math.MinInt + 1}
}

// wrongTimes returns numbers that are no times; with a zone added to them some are, or wrap around.
func wrongTimes() []int64 {
	return []int64{-1, -2, -60, -3600, -50400, -50401, -daySeconds, -api.MaxTime, -api.Never, api.MaxTime + 1, api.MaxTime + 60, api.MaxTime + 50400, api.MaxTime + 50401, api.Never, math.MaxInt64, math.MaxInt64 - 1, math.MaxInt64 - 50400, math.MinInt64, math.MinInt64 + 1, math.MinInt64 + 50400}
}

// wrong returns expressions that are not valid.
func wrong() []api.Expr {
	day := api.Expr{Second: 1, Minute: 1, Hour: 1, Day: days, Month: months, Week: weeks, AnyDay: true, AnyWeek: true}
	l := []api.Expr{{}, {AnyDay: true, AnyWeek: true}}
	for _, f := range []func(x *api.Expr){
		func(x *api.Expr) { x.Second = 0 },
		func(x *api.Expr) { x.Minute = 0 },
		func(x *api.Expr) { x.Hour = 0 },
		func(x *api.Expr) { x.Day = 0 },
		func(x *api.Expr) { x.Day, x.AnyDay = 0, false },
		func(x *api.Expr) { x.Month = 0 },
		func(x *api.Expr) { x.Week = 0 },
		func(x *api.Expr) { x.Week, x.AnyWeek = 0, false },
		func(x *api.Expr) { x.Second |= 1 << 60 },
		func(x *api.Expr) { x.Minute |= 1 << 63 },
		func(x *api.Expr) { x.Hour |= 1 << 24 },
		func(x *api.Expr) { x.Day |= 1 },
		func(x *api.Expr) { x.Day, x.AnyDay = 1, false },
		func(x *api.Expr) { x.Month |= 1 },
		func(x *api.Expr) { x.Month |= 1 << 13 },
		func(x *api.Expr) { x.Week |= 1 << 7 },
		func(x *api.Expr) { x.Day = 1 << 13 },
		func(x *api.Expr) { x.Week = 1 << 5 },
	} {
		x := day
		f(&x)
		l = append(l, x)
	}
	return l
}

// edges returns the times at both ends of a zone, with those just outside, and those at both ends of its first and its last local days.
func edges(z int) []int64 {
	off := 60 * int64(z)
	var l []int64
	for _, t := range []int64{0, 1, -off, daySeconds - off, 2*daySeconds - off, daySeconds, api.MaxTime - daySeconds, api.MaxTime - off - 2*daySeconds, api.MaxTime - off - daySeconds, api.MaxTime - off, api.MaxTime} {
		for _, u := range []int64{t - 1, t, t + 1} {
			if 0 <= u && u <= api.MaxTime {
				l = append(l, u)
			}
		}
	}
	slices.Sort(l)
	return slices.Compact(l)
}

// at returns the time at which the local clocks show a date and a time of day, by the standard library's calendar.
func at(z, year, month, day, hour, minute, second int) int64 {
	return time.Date(year, time.Month(month), day, hour, minute, second, 0, time.UTC).Unix() - 60*int64(z)
}

// turns returns the ends of months and of years, and of the days around 29 February, with the seconds before and behind.
func turns(z int) []int64 {
	var l []int64
	for _, year := range []int{1971, 1972, 1973, 1999, 2000, 2001, 2095, 2096, 2097, 2099, 2100, 2101, 2103, 2104, 9996, 9998} {
		for _, d := range [][2]int{{1, 1}, {2, 1}, {2, 28}, {2, 29}, {3, 1}, {4, 30}, {5, 1}, {12, 31}} {
			t := at(z, year, d[0], d[1], 0, 0, 0)
			l = append(l, t-1, t, t+1)
		}
	}
	return l
}

// moments calls f with expressions, with zones, and with times at the edges of the zone, at ends of months and of years, around times that are matched, and at others.
func moments(f func(k *known, z int, t int64)) {
	next := chance(2)
	for i, k := range all() {
		for j, z := range zones() {
			if (i+j)%4 > 0 {
				continue
			}
			for _, t := range edges(z) {
				f(k, z, t)
			}
			for n, t := range turns(z) {
				if (n/3+i)%3 == 0 {
					f(k, z, t)
				}
			}
			for range 10 {
				t := next(api.MaxTime + 1)
				if k.total() > 0 {
					t = k.pick(next(k.total())) - 60*int64(z) + next(3) - 1
				}
				if 0 <= t && t <= api.MaxTime {
					f(k, z, t)
				}
				f(k, z, next(api.MaxTime+1))
			}
		}
	}
}

// spans calls f with expressions, zones and spans of many lengths, some of them backward.
func spans(f func(k *known, z int, a, b int64)) {
	next := chance(3)
	for i, k := range all() {
		for j, z := range zones() {
			if (i+j)%6 > 0 {
				continue
			}
			ends := edges(z)
			for range 8 {
				f(k, z, ends[next(int64(len(ends)))], ends[next(int64(len(ends)))])
			}
			f(k, z, 0, api.MaxTime)
			for _, most := range []int64{2, 60, 3600, daySeconds, 3 * daySeconds, 40 * daySeconds, 366 * daySeconds, 146097 * daySeconds, 2 * 146097 * daySeconds, api.MaxTime} {
				a := next(api.MaxTime + 1)
				if k.total() > 0 && next(2) == 0 {
					a = min(max(k.pick(next(k.total()))-60*int64(z), 0), api.MaxTime)
				}
				b := min(a+next(most), api.MaxTime)
				f(k, z, a, b)
				if next(8) == 0 {
					f(k, z, b, a)
				}
			}
		}
	}
}

func checkDay(t *testing.T, x api.Expr, z int, u int64, want bool, err api.Errno) {
	t.Helper()
	if is, e := match.Day(x, z, u); is != want || e != err {
		t.Errorf("Day(%s, %d, %d) = %t, %d, want %t, %d", show(x), z, u, is, e, want, err)
	}
}

func checkIs(t *testing.T, x api.Expr, z int, u int64, want bool, err api.Errno) {
	t.Helper()
	if is, e := match.Is(x, z, u); is != want || e != err {
		t.Errorf("Is(%s, %d, %d) = %t, %d, want %t, %d", show(x), z, u, is, e, want, err)
	}
}

func checkNext(t *testing.T, x api.Expr, z int, u, want int64, ok bool, err api.Errno) {
	t.Helper()
	if n, is, e := match.Next(x, z, u); n != want || is != ok || e != err {
		t.Errorf("Next(%s, %d, %d) = %d, %t, %d, want %d, %t, %d", show(x), z, u, n, is, e, want, ok, err)
	}
}

func checkPrev(t *testing.T, x api.Expr, z int, u, want int64, ok bool, err api.Errno) {
	t.Helper()
	if n, is, e := match.Prev(x, z, u); n != want || is != ok || e != err {
		t.Errorf("Prev(%s, %d, %d) = %d, %t, %d, want %d, %t, %d", show(x), z, u, n, is, e, want, ok, err)
	}
}

func checkList(t *testing.T, x api.Expr, z int, a, b int64, most int, want []int64, err api.Errno) {
	t.Helper()
	if l, e := match.List(x, z, a, b, most); !slices.Equal(l, want) || e != err {
		t.Errorf("List(%s, %d, %d, %d, %d) = %d times %v, %d, want %d times %v, %d", show(x), z, a, b, most, len(l), l[:min(len(l), 9)], e, len(want), want[:min(len(want), 9)], err)
	}
}

func checkCount(t *testing.T, x api.Expr, z int, a, b, want int64, err api.Errno) {
	t.Helper()
	if n, e := match.Count(x, z, a, b); n != want || e != err {
		t.Errorf("Count(%s, %d, %d, %d) = %d, %d, want %d, %d", show(x), z, a, b, n, e, want, err)
	}
}

func checkEver(t *testing.T, x api.Expr, want bool, err api.Errno) {
	t.Helper()
	if is, e := match.Ever(x); is != want || e != err {
		t.Errorf("Ever(%s) = %t, %d, want %t, %d", show(x), is, e, want, err)
	}
}

// refuses checks that all functions with a zone return an error, with zero values, for two times.
func refuses(t *testing.T, x api.Expr, z int, a, b int64, err api.Errno) {
	t.Helper()
	checkDay(t, x, z, a, false, err)
	checkIs(t, x, z, a, false, err)
	checkNext(t, x, z, a, 0, false, err)
	checkPrev(t, x, z, a, 0, false, err)
	refusesSpan(t, x, z, a, b, err)
}

func refusesSpan(t *testing.T, x api.Expr, z int, a, b int64, err api.Errno) {
	t.Helper()
	checkCount(t, x, z, a, b, 0, err)
	for _, most := range []int{math.MinInt, -1, 0, 1, 9, longest, math.MaxInt} {
		checkList(t, x, z, a, b, most, nil, err)
	}
}

// The reference is right where the chapter and the calendar say so.
func TestCalendar(t *testing.T) {
	l := calendar()
	if int64(len(l)) != lastDay+1 || l[lastDay] != (date{9999, 12, 31, 5}) || l[11016] != (date{2000, 2, 29, 2}) || l[0] != (date{1970, 1, 1, 4}) {
		t.Errorf("%d dates, the last one is %v", len(l), l[len(l)-1])
	}
}

// P8.1 to P8.5: the error of the expression comes first, then that of the zone, then that of the times.
func TestErrors(t *testing.T) {
	times := append(wrongTimes(), 0, 1, 86400, 951782400, api.MaxTime)
	for _, x := range wrong() {
		checkEver(t, x, false, api.ErrRule)
		for _, z := range append(wrongZones(), -840, -60, 0, 1, 840) {
			for _, u := range times {
				refuses(t, x, z, u, times[len(times)-1], api.ErrRule)
				refuses(t, x, z, 0, u, api.ErrRule)
			}
		}
	}
	for _, s := range []string{"* * * * * *", "0 0 * * *", "0 0 30 2 *", "0 0 13 * 5", "0 0 29 2 *"} {
		x := parsed(t, s)
		for _, z := range wrongZones() {
			for _, u := range times {
				refuses(t, x, z, u, 5, api.ErrArg)
				refuses(t, x, z, 5, u, api.ErrArg)
			}
		}
		for _, z := range zones() {
			for _, u := range wrongTimes() {
				for _, v := range times {
					refuses(t, x, z, u, v, api.ErrTime)
					refusesSpan(t, x, z, v, u, api.ErrTime)
				}
			}
		}
	}
}

// P8.1: the days of an expression free, by Day, by Week and by either. 1970-01-01 was a Thursday.
func TestDay(t *testing.T) {
	for _, x := range []struct {
		text string
		days string // which of the first 31 days of 1970 it matches
	}{
		{"0 0 * * *", "1111111111111111111111111111111"},
		{"0 0 1-31 * *", "1111111111111111111111111111111"},
		{"0 0 * * 0-6", "1111111111111111111111111111111"},
		{"0 0 1-31 * 0-6", "1111111111111111111111111111111"},
		{"0 0 13 * 0-6", "1111111111111111111111111111111"},
		{"0 0 1-31 * 5", "1111111111111111111111111111111"},
		{"0 0 13 * *", "0000000000001000000000000000000"},
		{"0 0 * * 5", "0100000010000001000000100000010"},
		{"0 0 13 * 5", "0100000010001001000000100000010"},
		{"0 0 9 * 5", "0100000010000001000000100000010"},
		{"0 0 1,31 * *", "1000000000000000000000000000001"},
		{"0 0 1,31 * 0", "1001000000100000010000001000001"},
		{"0 0 * * 0,4", "1001000100100010010001001000100"},
		{"0 0 * 1 *", "1111111111111111111111111111111"},
		{"0 0 * 2-12 *", "0000000000000000000000000000000"},
		{"0 0 1 2 4", "0000000000000000000000000000000"},
		{"0 0 30 2 *", "0000000000000000000000000000000"},
	} {
		e := parsed(t, x.text)
		for i, c := range x.days {
			for _, s := range []int64{0, 1, 43200, 86399} {
				checkDay(t, e, 0, daySeconds*int64(i)+s, c == '1', api.OK)
				checkDay(t, e, -60, daySeconds*int64(i)+s+3600, c == '1', api.OK)
				if u := daySeconds*int64(i) + s - 3600; u >= 0 {
					checkDay(t, e, 60, u, c == '1', api.OK)
				}
				checkIs(t, e, 0, daySeconds*int64(i)+s, c == '1' && s == 0, api.OK)
			}
		}
	}
}

// P8.1: each field has to have its number.
func TestIs(t *testing.T) {
	// Wednesday 2000-03-08 12:34:56
	const u = 952518896
	for s, want := range map[string]bool{
		"* * * * * *": true, "56 34 12 8 3 *": true, "56 34 12 8 3 3": true, "56 34 12 * 3 3": true, "56 34 12 9 3 3": true, "56 34 12 8 3 4": true, "56 34 12 8 * *": true, "* 34 12 8 3 *": true, "56 * 12 8 3 *": true, "56 34 * 8 3 *": true,
		"55 34 12 8 3 *": false, "57 34 12 8 3 *": false, "56 33 12 8 3 *": false, "56 35 12 8 3 *": false, "56 34 11 8 3 *": false, "56 34 13 8 3 *": false, "56 34 12 7 3 *": false, "56 34 12 9 3 *": false, "56 34 12 8 2 *": false, "56 34 12 8 4 *": false, "56 34 12 * 3 2": false, "56 34 12 * 3 4": false, "56 34 12 9 3 4": false, "56 34 12 8 2 3": false, "34 12 8 3 *": false, "* * * * *": false,
		"0-55,57-59 * * * * *": false, "* 0-33,35-59 * * * *": false, "* * 0-11,13-23 * * *": false, "* * * 1-7,9-31 * *": false, "* * * * 1-2,4-12 *": false, "* * * * * 0-2,4-6": false, "* * * 8 * 0-2,4-6": true, "* * * 1-7,9-31 * 3": true,
	} {
		checkIs(t, parsed(t, s), 0, u, want, api.OK)
		checkIs(t, parsed(t, s), 330, u-330*60, want, api.OK)
		checkIs(t, parsed(t, s), -839, u+839*60, want, api.OK)
	}
}

// P8.1: times without a local date, at both ends of all zones.
func TestNoLocalDate(t *testing.T) {
	for _, s := range []string{"* * * * * *", "* * * 31 12 *", "* * * 1 1 *", "* * * * * 3-5"} {
		x := parsed(t, s)
		for z := -lastZone; z <= lastZone; z++ {
			off := 60 * int64(z)
			for _, u := range []int64{0, -off - 1, -off, api.MaxTime - off, api.MaxTime - off + 1, api.MaxTime} {
				if 0 <= u && u <= api.MaxTime {
					checkDay(t, x, z, u, matchesDay(x, z, u), api.OK)
					checkIs(t, x, z, u, matches(x, z, u), api.OK)
				}
			}
		}
	}
	x := parsed(t, "* * * * * *")
	for _, u := range []int64{0, 1, 59} {
		checkDay(t, x, -1, u, false, api.OK)
		checkIs(t, x, -1, u, false, api.OK)
		checkDay(t, x, 1, api.MaxTime-u, false, api.OK)
		checkIs(t, x, 1, api.MaxTime-u, false, api.OK)
		checkDay(t, x, 1, u, true, api.OK)
		checkIs(t, x, -1, api.MaxTime-u, true, api.OK)
	}
	checkIs(t, x, -1, 60, true, api.OK)
	checkIs(t, x, 1, api.MaxTime-60, true, api.OK)
	checkIs(t, x, -840, 50399, false, api.OK)
	checkIs(t, x, -840, 50400, true, api.OK)
	checkIs(t, x, 840, api.MaxTime-50399, false, api.OK)
	checkIs(t, x, 840, api.MaxTime-50400, true, api.OK)
}

// P8.1 and P8.2, by their definitions.
func TestMoments(t *testing.T) {
	moments(func(k *known, z int, u int64) {
		checkDay(t, k.x, z, u, matchesDay(k.x, z, u), api.OK)
		checkIs(t, k.x, z, u, matches(k.x, z, u), api.OK)
		n, ok := k.next(z, u)
		checkNext(t, k.x, z, u, n, ok, api.OK)
		p, is := k.prev(z, u)
		checkPrev(t, k.x, z, u, p, is, api.OK)
	})
}

// P8.2 at the edges that the chapter and the calendar have.
func TestNextPrev(t *testing.T) {
	for _, x := range []struct {
		text    string
		zone    int
		t       int64
		next    int64
		hasNext bool
		prev    int64
		hasPrev bool
		about   string
	}{
		{"*/15 9-17 * * 1-5", 0, 0, 32400, true, 0, false, "Thursday 9:00"},
		{"*/15 9-17 * * 1-5", 0, 150300, 378000, true, 149400, true, "from Friday 17:45 to Monday 9:00, and to 17:30"},
		{"0 0 13 * 5", 0, 86400, 691200, true, 0, false, "the first two Fridays"},
		{"0 0 13 * 5", 0, 691200, 1036800, true, 86400, true, "Friday the 9th, Tuesday the 13th"},
		{"0 0 29 2 *", 0, 0, 68169600, true, 0, false, "1972"},
		{"0 0 29 2 *", 0, 68169600, 194400000, true, 0, false, "1972 and 1976"},
		{"0 0 29 2 *", 0, 68169601, 194400000, true, 68169600, true, "1972 and 1976"},
		{"0 0 29 2 *", 0, at(0, 2000, 2, 29, 0, 0, 0), at(0, 2004, 2, 29, 0, 0, 0), true, at(0, 1996, 2, 29, 0, 0, 0), true, "2000 is a leap year"},
		{"0 0 29 2 *", 0, at(0, 2096, 2, 29, 0, 0, 0), at(0, 2104, 2, 29, 0, 0, 0), true, at(0, 2092, 2, 29, 0, 0, 0), true, "2100 is none"},
		{"0 0 29 2 *", 0, at(0, 2104, 2, 29, 0, 0, 0), at(0, 2108, 2, 29, 0, 0, 0), true, at(0, 2096, 2, 29, 0, 0, 0), true, "2100 is none"},
		{"0 0 29 2 *", 0, at(0, 2100, 3, 1, 0, 0, 0), at(0, 2104, 2, 29, 0, 0, 0), true, at(0, 2096, 2, 29, 0, 0, 0), true, "2100 is none"},
		{"0 0 29 2 *", 0, at(0, 9996, 2, 29, 0, 0, 0), 0, false, at(0, 9992, 2, 29, 0, 0, 0), true, "the last one"},
		{"0 0 29 2 *", 0, api.MaxTime, 0, false, at(0, 9996, 2, 29, 0, 0, 0), true, "the last one"},
		{"0 0 29 2 *", 840, at(840, 2096, 2, 29, 0, 0, 0), at(840, 2104, 2, 29, 0, 0, 0), true, at(840, 2092, 2, 29, 0, 0, 0), true, "2100 is none"},
		{"59 59 23 29 2 *", 0, at(0, 2096, 2, 29, 23, 59, 59), at(0, 2104, 2, 29, 23, 59, 59), true, at(0, 2092, 2, 29, 23, 59, 59), true, "the end of the day"},
		{"0 0 28 2 *", 0, at(0, 2100, 2, 28, 0, 0, 0), at(0, 2101, 2, 28, 0, 0, 0), true, at(0, 2099, 2, 28, 0, 0, 0), true, "a day of each year"},
		{"0 0 29 2 1", 0, at(0, 1972, 2, 28, 0, 0, 0), at(0, 1972, 2, 29, 0, 0, 0), true, at(0, 1972, 2, 21, 0, 0, 0), true, "Mondays of February, and the 29th"},
		{"0 0 29 2 1", 0, at(0, 1972, 2, 29, 0, 0, 0), at(0, 1973, 2, 5, 0, 0, 0), true, at(0, 1972, 2, 28, 0, 0, 0), true, "Tuesday, and the first Monday of the next year"},
		{"0 0 29 2 1", 0, at(0, 1988, 2, 29, 0, 0, 0), at(0, 1989, 2, 6, 0, 0, 0), true, at(0, 1988, 2, 22, 0, 0, 0), true, "a Monday"},
		{"0 0 30 2 *", 0, 5000, 0, false, 0, false, "no date"},
		{"0 0 30 2 *", 0, 0, 0, false, 0, false, "no date"},
		{"0 0 30 2 *", 0, api.MaxTime, 0, false, 0, false, "no date"},
		{"* * * 31 2,4,6,9,11 *", 60, 1e9, 0, false, 0, false, "no date"},
		{"0 0 30 2 0", 0, 0, at(0, 1970, 2, 1, 0, 0, 0), true, 0, false, "Sundays of February"},
		{"0 0 * * *", 60, 0, 82800, true, 0, false, "midnight in the zone"},
		{"0 0 * * *", 0, 86400, 172800, true, 0, true, "midnight"},
		{"0 0 * * *", 0, 0, 86400, true, 0, false, "midnight"},
		{"0 0 * * *", 0, 1, 86400, true, 0, true, "midnight"},
		{"0 0 * * *", 0, 86399, 86400, true, 0, true, "midnight"},
		{"0 0 * * *", -60, 0, 3600, true, 0, false, "there is no local date before"},
		{"0 0 * * *", -60, 3600, 90000, true, 0, false, "there is no local date before"},
		{"0 0 * * *", -60, 3601, 90000, true, 3600, true, "the first local time"},
		{"59 59 23 * * *", -60, 3600, 89999, true, 0, false, "the first local day"},
		{"* * * * *", -840, 5, 50400, true, 0, false, "there is no local date before"},
		{"* * * * * *", -840, 50399, 50400, true, 0, false, "there is no local date before"},
		{"* * * * * *", -840, 50400, 50401, true, 0, false, "there is no local date before"},
		{"* * * * * *", -840, 50401, 50402, true, 50400, true, "the first local time"},
		{"* * * * * *", 840, api.MaxTime, 0, false, api.MaxTime - 50400, true, "there is no local date behind"},
		{"* * * * * *", 840, api.MaxTime - 50399, 0, false, api.MaxTime - 50400, true, "there is no local date behind"},
		{"* * * * * *", 840, api.MaxTime - 50400, 0, false, api.MaxTime - 50401, true, "the last local time"},
		{"* * * * * *", 840, api.MaxTime - 50401, api.MaxTime - 50400, true, api.MaxTime - 50402, true, "the last local time"},
		{"* * * * * *", -840, api.MaxTime, 0, false, api.MaxTime - 1, true, "there are local dates behind, but no times"},
		{"0 10 31 12 *", -840, at(0, 9999, 12, 31, 0, 0, 0), 0, false, at(-840, 9998, 12, 31, 10, 0, 0), true, "10:00 is the second behind MaxTime"},
		{"59 59 9 31 12 *", -840, at(0, 9999, 12, 31, 0, 0, 0), api.MaxTime, true, at(-840, 9998, 12, 31, 9, 59, 59), true, "9:59:59 is MaxTime"},
		{"59 59 13 1 1 *", 840, 5, at(840, 1971, 1, 1, 13, 59, 59), true, 0, false, "13:59:59 is the second before 0"},
		{"0 14 1 1 *", 840, 5, at(840, 1971, 1, 1, 14, 0, 0), true, 0, true, "14:00 is 0"},
		{"* * * * * *", 0, 0, 1, true, 0, false, "the first second"},
		{"* * * * * *", 0, 1, 2, true, 0, true, "the first second"},
		{"* * * * * *", 0, api.MaxTime, 0, false, api.MaxTime - 1, true, "the last second"},
		{"* * * * * *", 0, api.MaxTime - 1, api.MaxTime, true, api.MaxTime - 2, true, "the last second"},
		{"* * * * *", 0, 59, 60, true, 0, true, "a minute"},
		{"* * * * *", 0, 60, 120, true, 0, true, "a minute"},
		{"* * * * *", 0, api.MaxTime, 0, false, api.MaxTime - 59, true, "the last minute"},
		{"0 0 1 1 *", 0, 0, at(0, 1971, 1, 1, 0, 0, 0), true, 0, false, "a year"},
		{"0 0 1 1 *", 0, api.MaxTime, 0, false, at(0, 9999, 1, 1, 0, 0, 0), true, "a year"},
		{"59 59 23 31 12 *", 0, 0, at(0, 1970, 12, 31, 23, 59, 59), true, 0, false, "the end of a year"},
		{"59 59 23 31 12 *", 0, at(0, 1999, 12, 31, 23, 59, 59), at(0, 2000, 12, 31, 23, 59, 59), true, at(0, 1998, 12, 31, 23, 59, 59), true, "the end of a year"},
		{"59 59 23 31 12 *", 0, api.MaxTime, 0, false, at(0, 9998, 12, 31, 23, 59, 59), true, "the end of the last year"},
		{"59 59 23 31 12 *", 0, api.MaxTime - 1, api.MaxTime, true, at(0, 9998, 12, 31, 23, 59, 59), true, "the end of the last year"},
		{"0 0 31 * *", 0, at(0, 2001, 1, 31, 0, 0, 0), at(0, 2001, 3, 31, 0, 0, 0), true, at(0, 2000, 12, 31, 0, 0, 0), true, "February has no 31st"},
		{"0 0 30 * *", 0, at(0, 2001, 1, 30, 0, 0, 0), at(0, 2001, 3, 30, 0, 0, 0), true, at(0, 2000, 12, 30, 0, 0, 0), true, "February has no 30th"},
		{"0 0 29 * *", 0, at(0, 2001, 1, 29, 0, 0, 0), at(0, 2001, 3, 29, 0, 0, 0), true, at(0, 2000, 12, 29, 0, 0, 0), true, "nor a 29th in 2001"},
		{"0 0 29 * *", 0, at(0, 2004, 1, 29, 0, 0, 0), at(0, 2004, 2, 29, 0, 0, 0), true, at(0, 2003, 12, 29, 0, 0, 0), true, "but in 2004"},
		{"10,20 5,6 3,4 * * *", 0, 4*3600 + 6*60 + 20, daySeconds + 3*3600 + 5*60 + 10, true, 4*3600 + 6*60 + 10, true, "the last one of a day"},
		{"10,20 5,6 3,4 * * *", 0, 4*3600 + 5*60 + 15, 4*3600 + 5*60 + 20, true, 4*3600 + 5*60 + 10, true, "between seconds"},
		{"10,20 5,6 3,4 * * *", 0, 4*3600 + 6*60 + 5, 4*3600 + 6*60 + 10, true, 4*3600 + 5*60 + 20, true, "between minutes"},
		{"10,20 5,6 3,4 * * *", 0, 3*3600 + 50*60 + 15, 4*3600 + 5*60 + 10, true, 3*3600 + 6*60 + 20, true, "between hours"},
		{"10,20 5,6 3,4 * * *", 0, 4*3600 + 1*60 + 15, 4*3600 + 5*60 + 10, true, 3*3600 + 6*60 + 20, true, "before the first minute"},
		{"10,20 5,6 3,4 * * *", 0, daySeconds + 15*60, daySeconds + 3*3600 + 5*60 + 10, true, 4*3600 + 6*60 + 20, true, "before the first hour"},
	} {
		t.Run(x.about, func(t *testing.T) {
			e := parsed(t, x.text)
			checkNext(t, e, x.zone, x.t, x.next, x.hasNext, api.OK)
			checkPrev(t, e, x.zone, x.t, x.prev, x.hasPrev, api.OK)
		})
	}
}

// P8.2: from each time of some hours, and from both ends of each day of some years, there and back.
func TestEachTime(t *testing.T) {
	for _, s := range []string{"10,20 5,6 3,4 * * *", "*/7 */13 */5 * * *", "59 59 23 * * *", "0 0 0 * * *", "0-5 58-59 23 * * *"} {
		k := know(parsed(t, s))
		for u := int64(0); u < 3*daySeconds; u += 7 {
			n, ok := k.next(0, u)
			checkNext(t, k.x, 0, u, n, ok, api.OK)
			p, is := k.prev(0, u)
			checkPrev(t, k.x, 0, u, p, is, api.OK)
		}
	}
	for _, s := range []string{"0 0 29 2 *", "59 59 23 29 2 *", "0 0 31 * *", "0 0 1 * *", "0 0 13 * 5", "0 0 * 2-3 1", "0 0 1 3 *"} {
		k := know(parsed(t, s))
		for d := at(0, 2095, 1, 1, 0, 0, 0); d < at(0, 2106, 1, 1, 0, 0, 0); d += daySeconds {
			for _, u := range []int64{d, d + 1, d + daySeconds - 1} {
				n, ok := k.next(0, u)
				checkNext(t, k.x, 0, u, n, ok, api.OK)
				p, is := k.prev(0, u)
				checkPrev(t, k.x, 0, u, p, is, api.OK)
			}
		}
	}
}

// P8.3: most below 1, 1, as many as there are, more; spans that are empty or backward, and their ends.
func TestList(t *testing.T) {
	both, star, day := parsed(t, "0 0 13 * 5"), parsed(t, "* * * * * *"), parsed(t, "0 0 * * *")
	want := []int64{86400, 691200, 1036800}
	for _, most := range []int{math.MinInt, -longest, -9, -1, 0} {
		checkList(t, both, 0, 0, 1100000, most, nil, api.OK)
		checkList(t, star, 0, 0, api.MaxTime, most, nil, api.OK)
	}
	for most, n := range map[int]int{1: 1, 2: 2, 3: 3, 4: 3, 9: 3, longest - 1: 3, longest: 3, longest + 1: 3, 1 << 32: 3, math.MaxInt: 3} {
		checkList(t, both, 0, 0, 1100000, most, want[:n], api.OK)
		checkList(t, both, 0, 86400, 1036800, most, want[:n], api.OK)
		checkList(t, both, 0, 86401, 1100000, most, want[1:][:min(n, 2)], api.OK)
		checkList(t, both, 0, 0, 1036799, most, want[:min(n, 2)], api.OK)
		checkList(t, both, 0, 86400, 86400, most, want[:1], api.OK)
		checkList(t, both, 0, 86401, 86401, most, nil, api.OK)
		checkList(t, both, 0, 86399, 86399, most, nil, api.OK)
		checkList(t, both, 0, 86401, 691199, most, nil, api.OK)
		checkList(t, both, 0, 86401, 86400, most, nil, api.OK)
		checkList(t, both, 0, 1100000, 0, most, nil, api.OK)
		checkList(t, both, 0, api.MaxTime, 0, most, nil, api.OK)
		checkList(t, parsed(t, "0 0 30 2 *"), 0, 0, api.MaxTime, most, nil, api.OK)
		checkList(t, star, 0, 0, 0, most, []int64{0}, api.OK)
		checkList(t, star, 0, api.MaxTime, api.MaxTime, most, []int64{api.MaxTime}, api.OK)
		checkList(t, star, -1, 0, 60, most, []int64{60}, api.OK)
		checkList(t, star, -1, 0, 59, most, nil, api.OK)
		checkList(t, star, 1, api.MaxTime-60, api.MaxTime, most, []int64{api.MaxTime - 60}, api.OK)
		checkList(t, star, 1, api.MaxTime-59, api.MaxTime, most, nil, api.OK)
		checkList(t, day, 60, 0, 86399, most, []int64{82800}, api.OK)
	}
}

// P8.3: a list has at most 100,000 times.
func TestLongList(t *testing.T) {
	x := parsed(t, "* * * * * *")
	for _, a := range []int64{0, 1e9 + 7, api.MaxTime - longest - 1, api.MaxTime - longest, api.MaxTime - longest + 1, api.MaxTime - longest + 2} {
		for most, n := range map[int]int64{longest - 1: longest - 1, longest: longest, longest + 1: longest, 2 * longest: longest, 1 << 32: longest, math.MaxInt: longest} {
			l, err := match.List(x, 0, a, api.MaxTime, most)
			n = min(n, api.MaxTime-a+1)
			if int64(len(l)) != n || l[0] != a || l[n-1] != a+n-1 || err != api.OK {
				t.Errorf("List from %d on, %d at most: %d times, %d", a, most, len(l), err)
			}
		}
	}
	for _, s := range []string{"0 0 * * *", "*/15 9-17 * * 1-5", "0 0 29 2 *", "0 0 13 * 5"} {
		k := know(parsed(t, s))
		for _, most := range []int{longest - 1, longest, longest + 1, math.MaxInt} {
			checkList(t, k.x, 330, 0, api.MaxTime, most, k.list(330, 0, api.MaxTime, most), api.OK)
		}
	}
}

// P8.3 and P8.4, by their definitions.
func TestSpans(t *testing.T) {
	next := chance(4)
	spans(func(k *known, z int, a, b int64) {
		checkCount(t, k.x, z, a, b, k.count(z, a, b), api.OK)
		most := int(next(40)) - 1
		checkList(t, k.x, z, a, b, most, k.list(z, a, b, most), api.OK)
	})
}

// P8.4: backward, over a second, over days, over all.
func TestCount(t *testing.T) {
	const office, star = "*/15 9-17 * * 1-5", "* * * * * *"
	for _, x := range []struct {
		text string
		zone int
		a, b int64
		want int64
	}{
		{"0 0 * * *", 0, 0, 86400, 2}, {"0 0 * * *", 0, 0, 86399, 1}, {"0 0 * * *", 0, 1, 86399, 0}, {"0 0 * * *", 0, 1, 86400, 1}, {"0 0 * * *", 60, 0, 86399, 1}, {"0 0 * * *", 60, 0, 82799, 0}, {"0 0 * * *", 60, 82800, 82800, 1},
		{"* * * * *", 0, 0, 86399, 1440}, {"* * * * *", 0, 1, 59, 0}, {"* * * * *", 0, 60, 60, 1}, {"* * * * *", 0, 61, 60, 0}, {"* * * * *", 0, 60, 0, 0}, {"* * * * *", -840, 0, 50400, 1}, {"* * * * *", -840, 0, 50399, 0},
		{office, 0, 0, 7*86400 - 1, 180}, {office, 0, 0, 0, 0}, {office, 0, 32400, 32400, 1}, {office, 0, 32400, 149400, 71}, {office, 0, 32400, 150300, 72}, {office, 0, 150301, 377999, 0},
		{star, 0, 0, 0, 1}, {star, 0, 0, api.MaxTime, api.MaxTime + 1}, {star, 0, 1, api.MaxTime, api.MaxTime}, {star, 0, 0, api.MaxTime - 1, api.MaxTime}, {star, 0, api.MaxTime, api.MaxTime, 1}, {star, 0, api.MaxTime, 0, 0}, {star, 0, 1, 0, 0},
		{star, 840, 0, api.MaxTime, api.MaxTime - 50399}, {star, -840, 0, api.MaxTime, api.MaxTime - 50399}, {star, -1, 0, 59, 0}, {star, -1, 0, 60, 1}, {star, 1, api.MaxTime - 60, api.MaxTime, 1}, {star, 1, api.MaxTime - 59, api.MaxTime, 0}, {star, 840, api.MaxTime, api.MaxTime, 0}, {star, -840, 0, 0, 0},
		{star, 840, api.MaxTime, 0, 0}, {star, -840, api.MaxTime, 0, 0}, {star, -840, 5, 3, 0}, {star, 840, api.MaxTime - 3, api.MaxTime - 5, 0},
		{"0 0 29 2 *", 0, 0, api.MaxTime, 1947}, {"0 0 29 2 *", 0, 0, 68169599, 0}, {"0 0 29 2 *", 0, 68169600, 68169600, 1}, {"0 0 30 2 *", 0, 0, api.MaxTime, 0}, {"0 0 1 1 *", 0, 0, api.MaxTime, 8030}, {"59 59 23 31 12 *", 0, 0, api.MaxTime, 8030}, {"59 59 23 31 12 *", 0, 0, api.MaxTime - 1, 8029},
		{"0 0 * * *", 0, 0, api.MaxTime, 2932897}, {"0 0 * * 4", 0, 0, 146097*86400 - 1, 20871}, {"0 0 * * 4", 0, 0, 7*86400 - 1, 1}, {"0 0 * * 4", 0, 0, 7 * 86400, 2},
	} {
		checkCount(t, parsed(t, x.text), x.zone, x.a, x.b, x.want, api.OK)
	}
}

// P8.4: over all times, and over 400 years or a bit more or less, at the ends of days.
func TestCountCycles(t *testing.T) {
	const cycle = 146097 * daySeconds
	begins := []int64{0, 50400, daySeconds - 3600, daySeconds + 43200, 951782400, 951782399}
	for i, k := range all() {
		z := []int{-840, 0, 60, 840}[i%4]
		for j, n := range []int64{cycle - daySeconds, cycle - 1, cycle, cycle + 1, cycle + daySeconds, 2*cycle - 1, 2 * cycle, 2*cycle + 1, 3*cycle + 50*daySeconds, 7*cycle + 100*daySeconds} {
			a := begins[(i+j)%len(begins)]
			checkCount(t, k.x, z, a, a+n-1, k.count(z, a, a+n-1), api.OK)
		}
	}
}

// P8.4: each second of some days is the first or the last one.
func TestCountSeconds(t *testing.T) {
	for _, s := range []string{"10,20 5,6 3,4 * * *", "*/7 */13 */5 * * *", "* * * * * 5", "0-58 1-59 0-22 * * *"} {
		k := know(parsed(t, s))
		for u := int64(0); u < 3*daySeconds; u += 11 {
			checkCount(t, k.x, 0, 0, u, k.count(0, 0, u), api.OK)
			checkCount(t, k.x, 0, u, 3*daySeconds, k.count(0, u, 3*daySeconds), api.OK)
			checkCount(t, k.x, 0, u, u+40, k.count(0, u, u+40), api.OK)
		}
	}
}

// dated returns which days of the month there are in each month, in some year.
func dated() (l [13]uint64) {
	for _, d := range calendar()[:1461] {
		l[d.month] |= 1 << d.day
	}
	return l
}

// P8.5: each set of months with each day of the month, and with sets of days that few months have.
func TestEver(t *testing.T) {
	there := dated()
	some := []uint64{days, 1<<30 | 1<<31, 1<<29 | 1<<31, 7 << 29, 1<<28 | 1<<31}
	for d := 1; d <= 31; d++ {
		some = append(some, 1<<d)
	}
	lost := 0
	for m := uint64(2); m <= months; m += 2 {
		for _, d := range some {
			x := api.Expr{Second: 1, Minute: 1, Hour: 1, Day: d, Month: m, Week: weeks, AnyWeek: true}
			want := false
			for i, l := range there {
				want = want || has(m, i) && l&d != 0
			}
			if !want {
				lost++
			}
			checkEver(t, x, want, api.OK)
			// A day of the week is in each month.
			x.Week, x.AnyWeek = 1<<(m%7), false
			checkEver(t, x, true, api.OK)
			x.Day, x.AnyDay = days, true
			checkEver(t, x, true, api.OK)
			x.Week, x.AnyWeek = weeks, true
			checkEver(t, x, true, api.OK)
		}
	}
	// The 30th, or also the 31st, in February alone; the 31st in each set of the five months that have none.
	if lost != 33 {
		t.Errorf("%d expressions match no date", lost)
	}
	for _, k := range all() {
		checkEver(t, k.x, len(k.days) > 0, api.OK)
	}
}

// P8.6: between a time and Next, or Prev, nothing is matched; they find each other.
func TestBetween(t *testing.T) {
	moments(func(k *known, z int, u int64) {
		n, ok, _ := match.Next(k.x, z, u)
		if ok {
			checkIs(t, k.x, z, n, true, api.OK)
			checkNext(t, k.x, z, n-1, n, true, api.OK)
			checkList(t, k.x, z, u, n-1, 2, k.list(z, u, u, 1), api.OK)
			checkCount(t, k.x, z, u+1, n, 1, api.OK)
		} else if u < api.MaxTime {
			checkCount(t, k.x, z, u+1, api.MaxTime, 0, api.OK)
		}
		p, is, _ := match.Prev(k.x, z, u)
		if is {
			checkIs(t, k.x, z, p, true, api.OK)
			checkPrev(t, k.x, z, p+1, p, true, api.OK)
			checkCount(t, k.x, z, p, u-1, 1, api.OK)
		} else if u > 0 {
			checkCount(t, k.x, z, 0, u-1, 0, api.OK)
		}
		if is, _ := match.Is(k.x, z, u); is && 0 < u && u < api.MaxTime {
			checkNext(t, k.x, z, u-1, u, true, api.OK)
			checkPrev(t, k.x, z, u+1, u, true, api.OK)
		}
		for v := max(u-12, 0); v < min(u+12, api.MaxTime); v++ {
			if v > u && (!ok || v < n) || v < u && (!is || v > p) {
				checkIs(t, k.x, z, v, false, api.OK)
			}
		}
	})
}

// P8.7: a zone matches a time if the zone 0 matches the one that is so much later.
func TestZones(t *testing.T) {
	next := chance(5)
	for _, k := range all() {
		for z := -lastZone; z <= lastZone; z += 7 {
			off := 60 * int64(z)
			for _, l := range []int64{0, max(off, 0), min(api.MaxTime+off, api.MaxTime), next(api.MaxTime + 1), next(40 * daySeconds)} {
				u := l - off
				if u < 0 || u > api.MaxTime {
					continue
				}
				is, err := match.Is(k.x, 0, l)
				checkIs(t, k.x, z, u, is, err)
				is, err = match.Day(k.x, 0, l)
				checkDay(t, k.x, z, u, is, err)
				n, ok, err := match.Next(k.x, 0, l)
				if ok && n-off <= api.MaxTime {
					checkNext(t, k.x, z, u, n-off, true, err)
				}
				p, ok, err := match.Prev(k.x, 0, l)
				if ok && p-off >= 0 {
					checkPrev(t, k.x, z, u, p-off, true, err)
				}
			}
		}
	}
}

// P8.8: the times of two spans, one behind the other, are those of both together.
func TestSplit(t *testing.T) {
	next := chance(6)
	spans(func(k *known, z int, a, b int64) {
		if a >= b {
			return
		}
		m := a + next(b-a)
		if k.count(z, a, b) > 0 && next(2) == 0 {
			// The first span ends at a time that is matched, or just before it.
			i := k.rank(a+60*int64(z)) + next(k.count(z, a, b))
			m = min(max(k.pick(i)-60*int64(z)-next(2), a), b-1)
		}
		one, _ := match.Count(k.x, z, a, m)
		two, _ := match.Count(k.x, z, m+1, b)
		checkCount(t, k.x, z, a, b, one+two, api.OK)
		if one+two <= 500 {
			l, _ := match.List(k.x, z, a, m, longest)
			more, _ := match.List(k.x, z, m+1, b, longest)
			checkList(t, k.x, z, a, b, longest, append(l, more...), api.OK)
		}
	})
}

// P8.9: within 8 years and a day of each date one is matched, if any is.
func TestEightYears(t *testing.T) {
	next := chance(7)
	check := func(k *known, d int64) {
		y, m, day := time.Unix(daySeconds*d, 0).UTC().Date()
		end := time.Date(y+8, m, day+1, 23, 59, 59, 0, time.UTC).Unix()
		if end > api.MaxTime {
			return
		}
		n, err := match.Count(k.x, 0, daySeconds*d, end)
		if is, _ := match.Ever(k.x); err != api.OK || is != (n > 0) {
			t.Errorf("%s matches %d times (%d) within 8 years and a day of %d-%d-%d", show(k.x), n, err, y, m, day)
		}
		if is, _ := match.Ever(k.x); is && d > 0 {
			if u, ok, err := match.Next(k.x, 0, daySeconds*d-1); !ok || u > end || err != api.OK {
				t.Errorf("Next(%s, 0, %d) = %d, %t, %d", show(k.x), daySeconds*d-1, u, ok, err)
			}
		}
	}
	for _, k := range all() {
		for range 50 {
			check(k, next(lastDay+1))
		}
	}
	for _, s := range []string{"0 0 29 2 *", "59 59 23 29 2 *", "0 0 29,30 2 *", "0 0 29 2 1", "0 0 31 2 *"} {
		k := know(parsed(t, s))
		for d := at(0, 2088, 1, 1, 0, 0, 0) / daySeconds; d < at(0, 2105, 1, 1, 0, 0, 0)/daySeconds; d++ {
			check(k, d)
		}
	}
}

// R4: results are new memory.
func TestMemory(t *testing.T) {
	x := parsed(t, "* * * * *")
	one, _ := match.List(x, 0, 0, daySeconds, 100)
	two, _ := match.List(x, 0, 0, daySeconds, 100)
	for i := range one[:cap(one)] {
		one[:cap(one)][i] = -1
	}
	for i, u := range two {
		if u != 60*int64(i) {
			t.Errorf("the element %d is %d", i, u)
		}
	}
}

// P1, R8: all calls return, for all arguments, and return the same again.
func TestEveryArgument(t *testing.T) {
	type results struct {
		day, is, hasNext, hasPrev, ever       bool
		next, prev, count                     int64
		list                                  string
		err1, err2, err3, err4, err5, err6, e api.Errno
	}
	call := func(x api.Expr, z int, a, b int64, most int) (r results) {
		r.day, r.err1 = match.Day(x, z, a)
		r.is, r.err2 = match.Is(x, z, a)
		r.next, r.hasNext, r.err3 = match.Next(x, z, a)
		r.prev, r.hasPrev, r.err4 = match.Prev(x, z, b)
		l, err := match.List(x, z, a, b, most)
		r.list, r.err5 = fmt.Sprint(l), err
		r.count, r.err6 = match.Count(x, z, a, b)
		r.ever, r.e = match.Ever(x)
		return r
	}
	l := wrong()
	for _, k := range all() {
		l = append(l, k.x)
	}
	next := chance(8)
	for range 20 {
		n := func() uint64 { return uint64(next(math.MaxInt64)) << next(64) }
		l = append(l, api.Expr{Second: n(), Minute: n(), Hour: n(), Day: n(), Month: n(), Week: n(), AnyDay: next(2) == 0, AnyWeek: next(2) == 0})
	}
	times := append(wrongTimes(), 0, 1, 59, 60, 50400, daySeconds, 951782400, api.MaxTime-50400, api.MaxTime)
	offsets := append(wrongZones(), zones()...)
	for _, x := range l {
		for range 40 {
			z, a, b := offsets[next(int64(len(offsets)))], times[next(int64(len(times)))], times[next(int64(len(times)))]
			if next(2) == 0 {
				z, a, b = int(next(2*lastZone))-lastZone, next(api.MaxTime), next(api.MaxTime)
			}
			most := []int{math.MinInt, -1, 0, 1, 50}[next(5)]
			if one, two := call(x, z, a, b, most), call(x, z, a, b, most); one != two {
				t.Errorf("the calls with %s, %d, %d, %d and %d return %v, and then %v", show(x), z, a, b, most, one, two)
			}
		}
	}
}
