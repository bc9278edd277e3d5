package civil_test

import (
	"cmp"
	"math"
	"slices"
	"strings"
	"testing"
	"time"

	"wakeman/api"
	"wakeman/civil"
)

const (
	daySeconds = 86400
	lastDays   = 2932896
)

// great are numbers far outside all ranges, and those that wrap around when they are multiplied by the seconds of a minute, an hour or a day.
var great = []int{math.MinInt, math.MinInt + 1, -1 << 62, -1 << 32, -1 << 31, -10000, -1970, 1 << 31, 1 << 32, 1 << 58, 1 << 60, 1 << 62, math.MaxInt - 1, math.MaxInt}

func date(year, month, day int) api.Civil {
	return api.Civil{Year: year, Month: month, Day: day}
}

func at(year, month, day, hour, minute, second int) api.Civil {
	return api.Civil{Year: year, Month: month, Day: day, Hour: hour, Minute: minute, Second: second}
}

// leap and length are the definitions, written down another way than in the package.
func leap(year int) bool {
	switch {
	case year%400 == 0:
		return true
	case year%100 == 0:
		return false
	}
	return year%4 == 0
}

func length(year, month int) int {
	switch month {
	case 4, 6, 9, 11:
		return 30
	case 2:
		if leap(year) {
			return 29
		}
		return 28
	}
	return 31
}

// calendar calls f with each date from 1970-01-01 to 9999-12-31, its days, and its day of the week, all of them counted on one by one.
func calendar(f func(days int64, date api.Civil, week int)) {
	days, week := int64(0), 4
	for year := 1970; year <= 9999; year++ {
		for month := 1; month <= 12; month++ {
			for day := 1; day <= length(year, month); day++ {
				f(days, date(year, month, day), week)
				days, week = days+1, (week+1)%7
			}
		}
	}
}

// times returns the edges of the chapter, and times from all years that follow a fixed rule; sorted.
func times() []int64 {
	l := []int64{0, 1, 59, 60, 3599, 3600, daySeconds - 1, daySeconds, daySeconds + 1, 951782399, 951782400, 1709164800, api.MaxTime - daySeconds, api.MaxTime - 1, api.MaxTime}
	x := uint64(1)
	for range 20000 {
		x = x*6364136223846793005 + 1442695040888963407
		l = append(l, int64((x>>1)%uint64(api.MaxTime+1)))
	}
	slices.Sort(l)
	return slices.Compact(l)
}

// invalid are numbers of seconds that are no times.
func invalid() []int64 {
	return []int64{-1, -2, -59, -daySeconds + 1, -daySeconds, -daySeconds - 1, -api.MaxTime, -api.Never, math.MinInt64, math.MinInt64 + 1, api.MaxTime + 1, api.MaxTime + daySeconds, api.MaxTime + daySeconds + 1, api.Never, math.MaxInt64 - 1, math.MaxInt64}
}

func checkDays(t *testing.T, year, month, day int, want int64, err api.Errno) {
	t.Helper()
	if n, e := civil.Days(year, month, day); n != want || e != err {
		t.Errorf("Days(%d, %d, %d) = %d, %d, want %d, %d", year, month, day, n, e, want, err)
	}
}

func checkTime(t *testing.T, c api.Civil, want int64, err api.Errno) {
	t.Helper()
	if n, e := civil.Time(c); n != want || e != err {
		t.Errorf("Time(%v) = %d, %d, want %d, %d", c, n, e, want, err)
	}
}

func checkParse(t *testing.T, s string, want int64, err api.Errno) {
	t.Helper()
	if n, e := civil.Parse(s); n != want || e != err {
		t.Errorf("Parse(%q) = %d, %d, want %d, %d", s, n, e, want, err)
	}
}

// P2.1: Leap, for any number.
func TestLeap(t *testing.T) {
	for _, x := range []struct {
		year int
		want bool
	}{
		{1970, false}, {1972, true}, {2023, false}, {2024, true}, {2026, false},
		{1900, false}, {2100, false}, {9900, false}, {1600, true}, {2000, true}, {9600, true},
		{0, true}, {1, false}, {2, false}, {4, true}, {100, false}, {400, true},
		{-1, false}, {-2, false}, {-4, true}, {-100, false}, {-200, false}, {-400, true},
		{math.MaxInt, false}, {math.MaxInt - 3, true}, {math.MinInt, true}, {math.MinInt + 1, false}, {math.MinInt + 4, true},
		{math.MaxInt - 7, false}, {math.MaxInt - 207, true}, {math.MinInt + 8, false}, {math.MinInt + 208, true},
	} {
		if is := civil.Leap(x.year); is != x.want {
			t.Errorf("Leap(%d) = %t", x.year, is)
		}
	}
	for year := -10000; year <= 20000; year++ {
		if is := civil.Leap(year); is != leap(year) {
			t.Errorf("Leap(%d) = %t", year, is)
		}
	}
}

// P2.1: Length of each month, and of those outside the ranges.
func TestLength(t *testing.T) {
	for month, want := range []int{31, 28, 31, 30, 31, 30, 31, 31, 30, 31, 30, 31} {
		if n, err := civil.Length(2023, month+1); n != want || err != api.OK {
			t.Errorf("Length(2023, %d) = %d, %d, want %d", month+1, n, err, want)
		}
	}
	for year := 1970; year <= 9999; year++ {
		for month := 1; month <= 12; month++ {
			if n, err := civil.Length(year, month); n != length(year, month) || err != api.OK {
				t.Errorf("Length(%d, %d) = %d, %d", year, month, n, err)
			}
		}
	}
	refuse := func(year, month int) {
		if n, err := civil.Length(year, month); n != 0 || err != api.ErrArg {
			t.Errorf("Length(%d, %d) = %d, %d, want 0, ErrArg", year, month, n, err)
		}
	}
	for _, n := range append([]int{-2, -1, 0, 1, 12, 13, 400, 1600, 1900, 1968, 1969, 10000, 10001, 10400}, great...) {
		for month := -1; month <= 14; month++ {
			refuse(n, month)
		}
		if n < 1 || n > 12 {
			refuse(1970, n)
			refuse(2024, n)
			refuse(9999, n)
		}
	}
}

// P2.2: Days, at the edges that the chapter names.
func TestDays(t *testing.T) {
	for _, x := range []struct {
		year, month, day int
		want             int64
	}{
		{1970, 1, 1, 0}, {1970, 1, 2, 1}, {1970, 1, 31, 30}, {1970, 2, 1, 31}, {1970, 12, 31, 364}, {1971, 1, 1, 365},
		{1972, 2, 29, 789}, {1972, 3, 1, 790}, {1972, 12, 31, 1095}, {1973, 1, 1, 1096},
		{2000, 2, 29, 11016}, {2000, 3, 1, 11017}, {2024, 1, 1, 19723}, {2024, 2, 29, 19782}, {2026, 11, 16, 20773},
		{2100, 2, 28, 47540}, {2100, 3, 1, 47541}, {9999, 12, 30, lastDays - 1}, {9999, 12, 31, lastDays},
	} {
		checkDays(t, x.year, x.month, x.day, x.want, api.OK)
		if y, m, d, err := civil.Date(x.want); y != x.year || m != x.month || d != x.day || err != api.OK {
			t.Errorf("Date(%d) = %d, %d, %d, %d", x.want, y, m, d, err)
		}
	}
}

// P2.2: what is not a date.
func TestNoDates(t *testing.T) {
	for _, x := range [][3]int{
		{0, 0, 0}, {1969, 12, 31}, {1969, 1, 1}, {1968, 2, 29}, {10000, 1, 1}, {10000, 2, 29}, {9999, 12, 32}, {9999, 13, 1}, {9999, 0, 1},
		{1970, 1, 0}, {1970, 0, 1}, {1970, 1, -1}, {1970, 2, -30}, {1971, 1, -364}, {2024, 0, 0}, {2024, 13, 1}, {2024, -1, 1},
		{2023, 2, 29}, {2024, 2, 30}, {2100, 2, 29}, {2000, 2, 30}, {2024, 4, 31}, {2024, 6, 31}, {2024, 9, 31}, {2024, 11, 31}, {2024, 1, 32}, {2024, 12, 32},
		{1970, 1, 366}, {1970, 1, 1000}, {1970, 1, lastDays + 1},
	} {
		checkDays(t, x[0], x[1], x[2], 0, api.ErrArg)
	}
	for year := 1970; year <= 9999; year++ {
		for month := 1; month <= 12; month++ {
			checkDays(t, year, month, 0, 0, api.ErrArg)
			checkDays(t, year, month, length(year, month)+1, 0, api.ErrArg)
		}
		checkDays(t, year, 0, 1, 0, api.ErrArg)
		checkDays(t, year, 13, 1, 0, api.ErrArg)
	}
	for _, n := range great {
		checkDays(t, n, 1, 1, 0, api.ErrArg)
		checkDays(t, 2024, n, 1, 0, api.ErrArg)
		checkDays(t, 2024, 1, n, 0, api.ErrArg)
		checkDays(t, 1970, 1, n, 0, api.ErrArg)
		checkDays(t, 9999, 12, n, 0, api.ErrArg)
		checkDays(t, n, n, n, 0, api.ErrArg)
	}
}

// P2.2: days outside the range.
func TestNoDays(t *testing.T) {
	for _, n := range []int64{-1, -2, -365, -366, -lastDays, math.MinInt64, math.MinInt64 + 1, lastDays + 1, lastDays + 2, lastDays + 365, api.MaxTime, api.Never, math.MaxInt64 - 1, math.MaxInt64} {
		if y, m, d, err := civil.Date(n); y != 0 || m != 0 || d != 0 || err != api.ErrTime {
			t.Errorf("Date(%d) = %d, %d, %d, %d, want 0, 0, 0, ErrTime", n, y, m, d, err)
		}
	}
}

// P2.2, P2.3, P2.4, P2.5, P2.7: each date, with its first and its last second.
func TestEachDate(t *testing.T) {
	var count int64
	calendar(func(days int64, c api.Civil, week int) {
		count++
		if n, err := civil.Days(c.Year, c.Month, c.Day); n != days || err != api.OK {
			t.Fatalf("Days of %v = %d, %d, want %d", c, n, err, days)
		}
		if y, m, d, err := civil.Date(days); date(y, m, d) != c || err != api.OK {
			t.Fatalf("Date(%d) = %d, %d, %d, %d, want %v", days, y, m, d, err, c)
		}
		for _, second := range []int64{0, daySeconds - 1} {
			u := days*daySeconds + second
			if second > 0 {
				c.Hour, c.Minute, c.Second = 23, 59, 59
			}
			if n, err := civil.Time(c); n != u || err != api.OK {
				t.Fatalf("Time(%v) = %d, %d, want %d", c, n, err, u)
			}
			if d, err := civil.Of(u); d != c || err != api.OK {
				t.Fatalf("Of(%d) = %v, %d, want %v", u, d, err, c)
			}
			if w, err := civil.Week(u); w != week || err != api.OK {
				t.Fatalf("Week(%d) = %d, %d, want %d", u, w, err, week)
			}
			s, err := civil.Text(u)
			if n, other := civil.Parse(s); n != u || err != api.OK || other != api.OK {
				t.Fatalf("Text(%d) = %q, %d, Parse of it: %d, %d", u, s, err, n, other)
			}
		}
	})
	if count != lastDays+1 {
		t.Errorf("%d dates", count)
	}
}

// P2.3, P2.7: each second of a day.
func TestEachSecond(t *testing.T) {
	u := int64(951696000) // 2000-02-28 00:00:00
	for hour := range 24 {
		for minute := range 60 {
			for second := range 60 {
				c := at(2000, 2, 28, hour, minute, second)
				checkTime(t, c, u, api.OK)
				if d, err := civil.Of(u); d != c || err != api.OK {
					t.Errorf("Of(%d) = %v, %d, want %v", u, d, err, c)
				}
				u++
			}
		}
	}
}

// P2.3: Time and Of, at the edges that the chapter names.
func TestTime(t *testing.T) {
	for _, x := range []struct {
		c    api.Civil
		want int64
	}{
		{at(1970, 1, 1, 0, 0, 0), 0},
		{at(1970, 1, 1, 0, 0, 1), 1},
		{at(1970, 1, 1, 0, 1, 0), 60},
		{at(1970, 1, 1, 1, 0, 0), 3600},
		{at(1970, 1, 1, 23, 59, 59), 86399},
		{at(1970, 1, 2, 0, 0, 0), 86400},
		{at(2000, 2, 28, 23, 59, 59), 951782399},
		{at(2000, 2, 29, 0, 0, 0), 951782400},
		{at(2024, 2, 29, 0, 0, 0), 1709164800},
		{at(2026, 11, 16, 17, 45, 0), 1794851100},
		{at(9999, 12, 31, 0, 0, 0), api.MaxTime - 86399},
		{at(9999, 12, 31, 23, 59, 59), api.MaxTime},
	} {
		checkTime(t, x.c, x.want, api.OK)
		if c, err := civil.Of(x.want); c != x.c || err != api.OK {
			t.Errorf("Of(%d) = %v, %d, want %v", x.want, c, err, x.c)
		}
	}
}

// P2.3: civil times that are not valid, also those whose parts add up to a time.
func TestNoTime(t *testing.T) {
	for _, c := range []api.Civil{
		{}, date(1969, 12, 31), at(1969, 12, 31, 23, 59, 59), date(10000, 1, 1), at(9999, 12, 31, 23, 59, 60), at(9999, 12, 31, 24, 0, 0),
		date(2023, 2, 29), date(2100, 2, 29), date(2000, 2, 30), date(2024, 0, 1), date(2024, 13, 1), date(2024, 1, 0), date(2024, 1, 32),
		at(2024, 2, 28, 24, 0, 0), at(2024, 2, 28, 0, 60, 0), at(2024, 2, 28, 0, 0, 60), at(2024, 2, 28, 23, 60, 0), at(2024, 2, 28, 23, 59, 60),
		at(2024, 2, 28, -1, 0, 0), at(2024, 2, 28, 0, -1, 0), at(2024, 2, 28, 0, 0, -1), at(2024, 2, 28, 1, -1, 0), at(2024, 2, 28, 1, 1, -1), at(2024, 2, 28, 1, -60, 0), at(2024, 2, 28, 0, 1, -60),
		at(1970, 1, 1, 0, 0, -1), at(1970, 1, 1, -1, 60, 0), at(1970, 1, 1, 0, -1, 60),
		// 3,600 times 2^60 and 60 times 2^62 are 0 in 64 bits.
		at(2024, 2, 28, 1<<60, 0, 0), at(2024, 2, 28, 0, 1<<62, 0),
	} {
		checkTime(t, c, 0, api.ErrArg)
	}
	for _, n := range great {
		for _, c := range []api.Civil{date(n, 1, 1), date(2024, n, 1), date(2024, 1, n), at(2024, 1, 1, n, 0, 0), at(2024, 1, 1, 0, n, 0), at(2024, 1, 1, 0, 0, n), at(n, n, n, n, n, n), at(1970, 1, 1, n, n, n), at(9999, 12, 31, n, n, n)} {
			checkTime(t, c, 0, api.ErrArg)
		}
	}
}

// P2.3, P2.4, P2.5: what is not a time.
func TestNoTimes(t *testing.T) {
	for _, n := range invalid() {
		if c, err := civil.Of(n); c != (api.Civil{}) || err != api.ErrTime {
			t.Errorf("Of(%d) = %v, %d, want ErrTime", n, c, err)
		}
		if w, err := civil.Week(n); w != 0 || err != api.ErrTime {
			t.Errorf("Week(%d) = %d, %d, want ErrTime", n, w, err)
		}
		if s, err := civil.Text(n); s != "" || err != api.ErrTime {
			t.Errorf("Text(%d) = %q, %d, want ErrTime", n, s, err)
		}
	}
}

// P2.4.
func TestWeek(t *testing.T) {
	for _, x := range []struct {
		at   int64
		want int
	}{
		{0, 4}, {daySeconds - 1, 4}, {daySeconds, 5}, {2 * daySeconds, 6}, {3*daySeconds - 1, 6}, {3 * daySeconds, 0}, {4 * daySeconds, 1}, {5 * daySeconds, 2}, {6 * daySeconds, 3}, {7 * daySeconds, 4},
		{951782399, 1}, {951782400, 2}, {1709164800, 4}, {1794851100, 1}, {api.MaxTime - daySeconds, 4}, {api.MaxTime, 5},
	} {
		if w, err := civil.Week(x.at); w != x.want || err != api.OK {
			t.Errorf("Week(%d) = %d, %d, want %d", x.at, w, err, x.want)
		}
	}
}

// P2.5: texts that are right.
func TestText(t *testing.T) {
	for _, x := range []struct {
		at   int64
		text string
	}{
		{0, "1970-01-01 00:00:00"},
		{1, "1970-01-01 00:00:01"},
		{daySeconds - 1, "1970-01-01 23:59:59"},
		{951782399, "2000-02-28 23:59:59"},
		{1709164800, "2024-02-29 00:00:00"},
		{1794851100, "2026-11-16 17:45:00"},
		{1767323045, "2026-01-02 03:04:05"},
		{api.MaxTime, "9999-12-31 23:59:59"},
	} {
		if s, err := civil.Text(x.at); s != x.text || err != api.OK {
			t.Errorf("Text(%d) = %q, %d, want %q", x.at, s, err, x.text)
		}
		checkParse(t, x.text, x.at, api.OK)
	}
}

// P2.5: texts that do not look like the text of a time.
func TestParseForm(t *testing.T) {
	const text = "2026-11-16 17:45:00"
	for _, s := range []string{
		"", "2", "2026-11-16", "17:45:00", "2024-2-29 00:00:00", "2024-02-29 0:00:00", "02024-02-29 00:00:00", "10000-01-01 00:00:00",
		"2026-11-16T17:45:00", "2026/11/16 17:45:00", "2026-11-16 17-45-00", "2026:11:16 17:45:00", "2026-11-16_17:45:00", "2026-11-16\t17:45:00",
		"+026-11-16 17:45:00", "-026-11-16 17:45:00", " 026-11-16 17:45:00", "2_26-11-16 17:45:00", "2026-+1-16 17:45:00", "2026--1-16 17:45:00", "2026-11- 6 17:45:00", "2026-11-16 17:45:0x", "0x26-11-16 17:45:00", "2026-11-16 1e:45:00",
		text[:18], text[1:], text + "0", text + " ", " " + text, text + "\n", text + text, text[:18] + "\x00",
		"2026-11-16 17:45:٠", "٢026-11-16 17:45:0", "2026–11-16 17:45", "202６-11-16 17:45", "2026-11-16\u00a017:45:0", strings.Repeat("0", 19), strings.Repeat("-", 19), strings.Repeat("\xff", 19), strings.Repeat(text, 1000),
		// What it says would be ErrArg: the form comes first.
		"2023-02-29 00:00:0x", "2023-13-01 00.00.00",
	} {
		checkParse(t, s, 0, api.ErrForm)
	}
	for i := range len(text) {
		checkParse(t, text[:i], 0, api.ErrForm)
		checkParse(t, text[:i]+text[i+1:], 0, api.ErrForm)
		for c := range 256 {
			s := text[:i] + string([]byte{byte(c)}) + text[i+1:]
			digit := '0' <= text[i] && text[i] <= '9'
			wrong := digit && (c < '0' || c > '9') || !digit && byte(c) != text[i]
			if _, err := civil.Parse(s); (err == api.ErrForm) != wrong {
				t.Errorf("Parse(%q): %d", s, err)
			}
		}
	}
}

// P2.5: digits that say no valid civil time.
func TestParseArg(t *testing.T) {
	for _, s := range []string{
		"0000-00-00 00:00:00", "9999-99-99 99:99:99", "1969-12-31 23:59:59", "1900-01-01 00:00:00", "0001-01-01 00:00:00",
		"2023-02-29 00:00:00", "2100-02-29 00:00:00", "2024-02-30 00:00:00", "2024-04-31 00:00:00", "2024-00-01 00:00:00", "2024-13-01 00:00:00", "2024-01-00 00:00:00", "2024-01-32 00:00:00",
		"2024-02-29 24:00:00", "2024-02-29 23:60:00", "2024-02-29 23:00:60", "2016-12-31 23:59:60", "2024-02-29 99:00:00", "2024-02-29 00:99:00", "2024-02-29 00:00:99", "9999-12-31 23:59:60", "9999-12-31 24:00:00",
	} {
		checkParse(t, s, 0, api.ErrArg)
	}
}

// parts are the fields of a civil time, the first one first.
func parts(c *api.Civil) [6]*int {
	return [6]*int{&c.Year, &c.Month, &c.Day, &c.Hour, &c.Minute, &c.Second}
}

// P2.6: the first parts that differ decide, whatever the ones behind them are.
func TestOrder(t *testing.T) {
	numbers := []int{math.MinInt, math.MinInt + 1, -1 << 62, -1, 0, 1, 12, 59, 2024, 1 << 62, math.MaxInt - 1, math.MaxInt}
	for i := range 6 {
		for _, m := range numbers {
			for _, n := range numbers {
				a, b := at(7, 7, 7, 7, 7, 7), at(7, 7, 7, 7, 7, 7)
				*parts(&a)[i], *parts(&b)[i] = m, n
				if o, want := civil.Order(a, b), cmp.Compare(m, n); o != want {
					t.Errorf("Order(%v, %v) = %d, want %d", a, b, o, want)
				}
				if m == n {
					continue
				}
				for k := i + 1; k < 6; k++ {
					*parts(&a)[k], *parts(&b)[k] = n, m
				}
				if o, want := civil.Order(a, b), cmp.Compare(m, n); o != want {
					t.Errorf("Order(%v, %v) = %d, want %d", a, b, o, want)
				}
			}
		}
	}
	for _, x := range []struct {
		a, b api.Civil
		want int
	}{
		{api.Civil{}, api.Civil{}, 0},
		{date(2024, 1, 31), date(2024, 2, 1), -1},
		{date(2024, 2, 1), date(2024, 1, 31), 1},
		{at(2023, 12, 31, 23, 59, 59), date(2024, 1, 1), -1},
		{at(2024, 1, 1, 0, 0, 0), at(2024, 1, 1, 0, 0, 1), -1},
		{at(-5, 99, -7, 100, 77, 61), at(-5, 99, -7, 100, 77, 61), 0},
		{at(2024, 1, 1, 0, 0, 60), at(2024, 1, 1, 0, 1, 0), -1}, // not valid: the parts count, not the time
	} {
		if o := civil.Order(x.a, x.b); o != x.want {
			t.Errorf("Order(%v, %v) = %d, want %d", x.a, x.b, o, x.want)
		}
	}
}

// P2.7: both ways, and in the same order; the standard library's calendar agrees.
func TestBothWays(t *testing.T) {
	var last api.Civil
	for i, u := range times() {
		c, err := civil.Of(u)
		if n, other := civil.Time(c); err != api.OK || n != u || other != api.OK {
			t.Errorf("Of(%d) = %v, %d, Time of it: %d, %d", u, c, err, n, other)
		}
		s, err := civil.Text(u)
		if n, other := civil.Parse(s); err != api.OK || n != u || other != api.OK {
			t.Errorf("Text(%d) = %q, %d, Parse of it: %d, %d", u, s, err, n, other)
		}
		w, err := civil.Week(u)
		moment := time.Unix(u, 0).UTC()
		if want := moment.Format(time.DateTime); s != want || len(s) != 19 {
			t.Errorf("Text(%d) = %q, want %q", u, s, want)
		}
		if want := at(moment.Year(), int(moment.Month()), moment.Day(), moment.Hour(), moment.Minute(), moment.Second()); c != want {
			t.Errorf("Of(%d) = %v, want %v", u, c, want)
		}
		if want := int(moment.Weekday()); w != want || err != api.OK {
			t.Errorf("Week(%d) = %d, %d, want %d", u, w, err, want)
		}
		if i > 0 && (civil.Order(last, c) != -1 || civil.Order(c, last) != 1) || civil.Order(c, c) != 0 {
			t.Errorf("the civil time of %d is not above the one before", u)
		}
		last = c
	}
}

// P2.7: a civil time is valid just if it is that of a time.
func TestValid(t *testing.T) {
	values := [6][]int{{1969, 1970, 2023, 2024, 9999, 10000}, {-1, 0, 1, 2, 4, 12, 13}, {-1, 0, 1, 28, 29, 30, 31, 32}, {-1, 0, 23, 24}, {-1, 0, 59, 60}, {-1, 0, 59, 60}}
	var walk func(i int, c api.Civil)
	walk = func(i int, c api.Civil) {
		if i < len(values) {
			for _, n := range values[i] {
				*parts(&c)[i] = n
				walk(i+1, c)
			}
			return
		}
		valid := c.Year >= 1970 && c.Year <= 9999 && c.Month >= 1 && c.Month <= 12 && c.Day >= 1 && c.Day <= length(c.Year, c.Month) && c.Hour >= 0 && c.Hour < 24 && c.Minute >= 0 && c.Minute < 60 && c.Second >= 0 && c.Second < 60
		u, err := civil.Time(c)
		if valid != (err == api.OK) || !valid && (u != 0 || err != api.ErrArg) {
			t.Errorf("Time(%v) = %d, %d", c, u, err)
		}
		if d, _ := civil.Of(u); valid && d != c {
			t.Errorf("Time(%v) = %d, Of it: %v", c, u, d)
		}
	}
	walk(0, api.Civil{})
}

// P2.8: from the first day of a month to that of the next one.
func TestMonths(t *testing.T) {
	for year := 1970; year <= 9999; year++ {
		for month := 1; month <= 12; month++ {
			this, _ := civil.Days(year, month, 1)
			n, _ := civil.Length(year, month)
			y, m := year, month+1
			if m > 12 {
				y, m = year+1, 1
			}
			if y > 9999 {
				continue
			}
			if next, err := civil.Days(y, m, 1); next != this+int64(n) || err != api.OK {
				t.Errorf("Days(%d, %d, 1) = %d, %d, the month before begins at %d and has %d days", y, m, next, err, this, n)
			}
		}
	}
}

// P2.8: 400 years have 146,097 days.
func TestCycle(t *testing.T) {
	const cycle = 146097
	for days := int64(0); days+cycle <= lastDays; days++ {
		y, m, d, err := civil.Date(days)
		later, month, day, other := civil.Date(days + cycle)
		if later != y+400 || month != m || day != d || err != api.OK || other != api.OK {
			t.Fatalf("Date(%d) = %d, %d, %d, and 400 years later %d, %d, %d", days, y, m, d, later, month, day)
		}
		w, err := civil.Week(days * daySeconds)
		week, other := civil.Week((days + cycle) * daySeconds)
		if w != week || err != api.OK || other != api.OK {
			t.Fatalf("day %d has the day of the week %d, and 400 years later %d", days, w, week)
		}
	}
}

// P1, R8: all calls return, for all arguments, and return the same again.
func TestEveryArgument(t *testing.T) {
	type results struct {
		leap                                  bool
		length, year, month, day, week, order int
		days, time, parsed                    int64
		civil                                 api.Civil
		text                                  string
		length1, days1, date1, time1, of1     api.Errno
		week1, text1, parsed1                 api.Errno
	}
	call := func(a, b, c int) (r results) {
		r.leap = civil.Leap(a)
		r.length, r.length1 = civil.Length(a, b)
		r.days, r.days1 = civil.Days(a, b, c)
		r.year, r.month, r.day, r.date1 = civil.Date(int64(a))
		r.time, r.time1 = civil.Time(at(a, b, c, a, b, c))
		r.civil, r.of1 = civil.Of(int64(a))
		r.week, r.week1 = civil.Week(int64(a))
		r.text, r.text1 = civil.Text(int64(a))
		r.parsed, r.parsed1 = civil.Parse(r.text)
		r.order = civil.Order(at(a, b, c, a, b, c), at(c, b, a, c, b, a))
		return r
	}
	numbers := append([]int{-1, 0, 1, 2, 12, 13, 28, 29, 31, 32, 1969, 1970, 2000, 2024, 9999, 10000, lastDays, lastDays + 1, int(api.MaxTime), int(api.MaxTime) + 1, int(api.Never)}, great...)
	for _, a := range numbers {
		for _, b := range numbers {
			for _, c := range numbers {
				if first, second := call(a, b, c), call(a, b, c); first != second {
					t.Errorf("the calls with %d, %d and %d return %v, and then %v", a, b, c, first, second)
				}
			}
		}
	}
}
