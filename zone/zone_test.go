package zone_test

import (
	"fmt"
	"math"
	"slices"
	"strings"
	"testing"
	"time"

	"wakeman/api"
	"wakeman/civil"
	"wakeman/zone"
)

const (
	daySeconds = 86400
	lastZone   = 840
)

func date(year, month, day int) api.Civil {
	return api.Civil{Year: year, Month: month, Day: day}
}

func at(year, month, day, hour, minute, second int) api.Civil {
	return api.Civil{Year: year, Month: month, Day: day, Hour: hour, Minute: minute, Second: second}
}

// zones returns all zones.
func zones() []int {
	var l []int
	for z := -lastZone; z <= lastZone; z++ {
		l = append(l, z)
	}
	return l
}

// someZones returns both ends, UTC, whole hours, and zones that are no whole hours.
func someZones() []int {
	return []int{-840, -839, -781, -780, -721, -720, -719, -480, -210, -61, -60, -59, -1, 0, 1, 59, 60, 61, 90, 330, 345, 525, 719, 720, 721, 765, 839, 840}
}

// wrongZones returns numbers that are no zones, some of them so great that 60 times them wraps around to what a zone has, or to 0.
func wrongZones() []int {
	return []int{-841, 841, -842, 842, -900, 900, -1440, 1440, -3600, 3600, 86400, 1 << 31, -1 << 31, 1 << 32, 1<<32 + 60, 1<<62 + 330, 1<<62 - 330, 1 << 62, -1 << 62, 1 << 60, -1 << 58, math.MaxInt, math.MaxInt - 1, math.MinInt, math.MinInt + 1}
}

// wrongTimes returns numbers that are no times; with a zone added to them some are, or wrap around.
func wrongTimes() []int64 {
	return []int64{-1, -2, -59, -60, -3600, -50400, -50401, -daySeconds, -api.MaxTime, -api.Never, api.MaxTime + 1, api.MaxTime + 60, api.MaxTime + 50400, api.MaxTime + 50401, api.Never, math.MaxInt64, math.MaxInt64 - 1, math.MaxInt64 - 50400, math.MinInt64, math.MinInt64 + 1, math.MinInt64 + 50400}
}

// times returns edges, and times from all years that follow a fixed rule; sorted.
func times() []int64 {
	l := []int64{0, 1, 59, 60, 61, 3599, 3600, 50399, 50400, 50401, daySeconds - 1, daySeconds, daySeconds + 1, 90000, 259199, 259200, 951782399, 951782400, 1709164800, api.MaxTime - daySeconds, api.MaxTime - daySeconds + 1, api.MaxTime - 50400, api.MaxTime - 50399, api.MaxTime - 60, api.MaxTime - 59, api.MaxTime - 1, api.MaxTime}
	x := uint64(1)
	for range 2000 {
		x = x*6364136223846793005 + 1442695040888963407
		l = append(l, int64((x>>1)%uint64(api.MaxTime+1)))
	}
	slices.Sort(l)
	return slices.Compact(l)
}

// first and last are the first and the last time of a zone: those that have a local time.
func first(z int) int64 { return max(0, -60*int64(z)) }

func last(z int) int64 { return min(api.MaxTime, api.MaxTime-60*int64(z)) }

// has is the definition: t is a valid time, and so is what the clocks of the zone show.
func has(t int64, z int) bool { return first(z) <= t && t <= last(z) }

// clock is the standard library's local time.
func clock(t int64, z int) time.Time {
	return time.Unix(t, 0).In(time.FixedZone("", 60*z))
}

func local(t int64, z int) api.Civil {
	c := clock(t, z)
	return at(c.Year(), int(c.Month()), c.Day(), c.Hour(), c.Minute(), c.Second())
}

// began is when the local day of t began, by the standard library's calendar.
func began(t int64, z int) int64 {
	c := clock(t, z)
	return time.Date(c.Year(), c.Month(), c.Day(), 0, 0, 0, 0, c.Location()).Unix()
}

// edges returns the times at both ends of a zone, with those just outside, and those at both ends of its first and its last local days.
func edges(z int) []int64 {
	var l []int64
	for _, t := range []int64{0, first(z), last(z), api.MaxTime, began(first(z), z), began(first(z), z) + daySeconds, began(first(z), z) + 2*daySeconds, began(last(z), z) - daySeconds, began(last(z), z), began(last(z), z) + daySeconds} {
		l = append(l, t-1, t, t+1)
	}
	slices.Sort(l)
	return slices.Compact(l)
}

// moments calls f with all zones and their edges, and with some zones and all times.
func moments(f func(t int64, z int)) {
	for _, z := range zones() {
		for _, t := range edges(z) {
			f(t, z)
		}
	}
	for _, z := range someZones() {
		for _, t := range times() {
			f(t, z)
		}
	}
}

func checkText(t *testing.T, z int, want string, err api.Errno) {
	t.Helper()
	if s, e := zone.Text(z); s != want || e != err {
		t.Errorf("Text(%d) = %q, %d, want %q, %d", z, s, e, want, err)
	}
	if e := zone.Check(z); e != err {
		t.Errorf("Check(%d) = %d, want %d", z, e, err)
	}
}

func checkParse(t *testing.T, s string, want int, err api.Errno) {
	t.Helper()
	if z, e := zone.Parse(s); z != want || e != err {
		t.Errorf("Parse(%q) = %d, %d, want %d, %d", s, z, e, want, err)
	}
}

func checkLocal(t *testing.T, u int64, z int, want api.Civil, err api.Errno) {
	t.Helper()
	if c, e := zone.Local(u, z); c != want || e != err {
		t.Errorf("Local(%d, %d) = %v, %d, want %v, %d", u, z, c, e, want, err)
	}
}

func checkBack(t *testing.T, c api.Civil, z int, want int64, err api.Errno) {
	t.Helper()
	if u, e := zone.Back(c, z); u != want || e != err {
		t.Errorf("Back(%v, %d) = %d, %d, want %d, %d", c, z, u, e, want, err)
	}
}

func checkMidnight(t *testing.T, u int64, z int, want int64, err api.Errno) {
	t.Helper()
	if n, e := zone.Midnight(u, z); n != want || e != err {
		t.Errorf("Midnight(%d, %d) = %d, %d, want %d, %d", u, z, n, e, want, err)
	}
}

func checkWeek(t *testing.T, u int64, z int, want int, err api.Errno) {
	t.Helper()
	if w, e := zone.Week(u, z); w != want || e != err {
		t.Errorf("Week(%d, %d) = %d, %d, want %d, %d", u, z, w, e, want, err)
	}
}

func checkSame(t *testing.T, a, b int64, z int, want bool, err api.Errno) {
	t.Helper()
	if is, e := zone.Same(a, b, z); is != want || e != err {
		t.Errorf("Same(%d, %d, %d) = %t, %d, want %t, %d", a, b, z, is, e, want, err)
	}
}

// P3.1: Check and Text at the edges that the chapter names.
func TestText(t *testing.T) {
	for _, x := range []struct {
		zone int
		want string
	}{
		{0, "+00:00"}, {1, "+00:01"}, {-1, "-00:01"}, {9, "+00:09"}, {10, "+00:10"}, {59, "+00:59"}, {-59, "-00:59"},
		{60, "+01:00"}, {-60, "-01:00"}, {61, "+01:01"}, {-61, "-01:01"}, {330, "+05:30"}, {-480, "-08:00"}, {-210, "-03:30"}, {345, "+05:45"},
		{599, "+09:59"}, {600, "+10:00"}, {-599, "-09:59"}, {-600, "-10:00"}, {765, "+12:45"},
		{839, "+13:59"}, {-839, "-13:59"}, {840, "+14:00"}, {-840, "-14:00"},
	} {
		checkText(t, x.zone, x.want, api.OK)
	}
	for _, z := range wrongZones() {
		checkText(t, z, "", api.ErrArg)
	}
}

// P3.1, by its definition, for all zones and many numbers that are none.
func TestTextDefinition(t *testing.T) {
	for z := -10000; z <= 10000; z++ {
		if z < -lastZone || z > lastZone {
			checkText(t, z, "", api.ErrArg)
			continue
		}
		sign, minutes := '+', z
		if z < 0 {
			sign, minutes = '-', -z
		}
		checkText(t, z, fmt.Sprintf("%c%02d:%02d", sign, minutes/60, minutes%60), api.OK)
	}
}

// P3.2: texts of zones, and texts that are none.
func TestParse(t *testing.T) {
	for _, x := range []struct {
		text string
		want int
	}{
		{"+00:00", 0}, {"+00:01", 1}, {"-00:01", -1}, {"+05:30", 330}, {"-08:00", -480}, {"-03:30", -210}, {"+09:59", 599}, {"-10:00", -600},
		{"+13:59", 839}, {"-13:59", -839}, {"+14:00", 840}, {"-14:00", -840},
	} {
		checkParse(t, x.text, x.want, api.OK)
	}
	for _, s := range []string{
		"", "+", "-", "0", "+0", "+00", "+00:", "+00:0", "0000", "00:00", "05:30", "Z", "UTC", "+00:00Z",
		"-00:00", "+14:01", "-14:01", "+14:59", "-14:59", "+15:00", "-15:00", "+24:00", "+99:00", "-99:59", "+99:99",
		"+05:60", "+05:99", "-05:60", "+00:60", "+13:60", "-13:60", "+00:90",
		"+5:30", "+05:3", "+005:3", "+5:030", "+05:030", "+005:30", "+0530", "+053000", "+05:30:00", "+05:300",
		" +05:30", "+05:30 ", "+05: 30", "+ 5:30", "+ 05:30", "+05:30\n", "\x00+05:30", "+05:30\x00", "+05:3\x00",
		" 05:30", "005:30", "*05:30", ".05:30", "/05:30", ",05:30", "\u22125:30", "\u221205:30", "+05-30", "+05+30", "+05.30", "+05;30", "+05 30", "+05030",
		"++5:30", "+-5:30", "--5:30", "-+5:30", "+05:-1", "+05:+1", "+-1:00", "+0x:00", "+0a:00", "+a0:00", "+00:0a", "+00:a0",
		"+0::00", "+0/:00", "+:0:00", "+/0:00", "+00::0", "+00:/0", "+00:0:", "+00:0/", "+/::00", "+00:/:",
		"+0\xff:00", "\xff05:30", "+05\xff30", "\xff\xff\xff\xff\xff\xff", "\x00\x00\x00\x00\x00\x00",
		"+\u0660:30", "+\u0660\u0665:30", "+\uff10\uff15:\uff13\uff10", "\uff0b05:30",
		strings.Repeat("+", 6), strings.Repeat("0", 6), strings.Repeat(":", 6), strings.Repeat("+05:30", 2), strings.Repeat("+05:30", 100000),
	} {
		checkParse(t, s, 0, api.ErrForm)
	}
}

// texts returns the zones of all texts of zones.
func texts() map[string]int {
	m := map[string]int{}
	for _, z := range zones() {
		s, _ := zone.Text(z)
		m[s] = z
	}
	return m
}

// checkAsText checks that s is read as a zone just if it is the text of one.
func checkAsText(t *testing.T, all map[string]int, s string) {
	t.Helper()
	if z, ok := all[s]; ok {
		checkParse(t, s, z, api.OK)
	} else {
		checkParse(t, s, 0, api.ErrForm)
	}
}

// P3.2: all signs and numbers with two digits, and all texts of zones in which one byte is another one, is missing, or stands twice.
func TestParseDefinition(t *testing.T) {
	all := texts()
	if len(all) != 2*lastZone+1 {
		t.Fatalf("%d texts of zones", len(all))
	}
	for hours := range 100 {
		for minutes := range 100 {
			for _, sign := range []string{"+", "-", " ", ""} {
				checkAsText(t, all, fmt.Sprintf("%s%02d:%02d", sign, hours, minutes))
			}
		}
	}
	for s := range all {
		for i := range len(s) {
			for b := range 256 {
				checkAsText(t, all, s[:i]+string([]byte{byte(b)})+s[i+1:])
			}
			checkAsText(t, all, s[:i]+s[i+1:])
			checkAsText(t, all, s[:i+1]+s[i:])
		}
	}
}

// P3.2: two digits of one number, with all bytes: what is wrong in one of them is not made up for by the other one.
func TestParsePairs(t *testing.T) {
	all := texts()
	for a := range 256 {
		for b := range 256 {
			for _, sign := range []byte("+-") {
				checkAsText(t, all, string([]byte{sign, byte(a), byte(b), ':', '0', '0'}))
				checkAsText(t, all, string([]byte{sign, '0', '0', ':', byte(a), byte(b)}))
				checkAsText(t, all, string([]byte{sign, '0', byte(a), ':', byte(b), '0'}))
			}
		}
	}
}

// P3.3 at the edges that the chapter names.
func TestLocal(t *testing.T) {
	for _, x := range []struct {
		t    int64
		zone int
		want api.Civil
	}{
		{0, 0, date(1970, 1, 1)}, {0, 1, at(1970, 1, 1, 0, 1, 0)}, {0, 90, at(1970, 1, 1, 1, 30, 0)}, {0, 840, at(1970, 1, 1, 14, 0, 0)},
		{60, -1, date(1970, 1, 1)}, {61, -1, at(1970, 1, 1, 0, 0, 1)}, {50400, -840, date(1970, 1, 1)},
		{86399, 1, at(1970, 1, 2, 0, 0, 59)}, {86400, -1, at(1970, 1, 1, 23, 59, 0)},
		{951782400, -60, at(2000, 2, 28, 23, 0, 0)}, {951782399, 1, at(2000, 2, 29, 0, 0, 59)}, {951782400, 330, at(2000, 2, 29, 5, 30, 0)},
		{api.MaxTime, 0, at(9999, 12, 31, 23, 59, 59)}, {api.MaxTime, -1, at(9999, 12, 31, 23, 58, 59)}, {api.MaxTime, -840, at(9999, 12, 31, 9, 59, 59)},
		{api.MaxTime - 60, 1, at(9999, 12, 31, 23, 59, 59)}, {api.MaxTime - 50400, 840, at(9999, 12, 31, 23, 59, 59)},
	} {
		checkLocal(t, x.t, x.zone, x.want, api.OK)
	}
	for _, x := range []struct {
		t    int64
		zone int
	}{
		{0, -1}, {59, -1}, {0, -840}, {50399, -840}, {api.MaxTime, 1}, {api.MaxTime - 59, 1}, {api.MaxTime, 840}, {api.MaxTime - 50399, 840},
		{-1, 0}, {-1, 1}, {-60, 1}, {-50400, 840}, {api.MaxTime + 1, 0}, {api.MaxTime + 1, -1}, {api.MaxTime + 50400, -840},
	} {
		checkLocal(t, x.t, x.zone, api.Civil{}, api.ErrTime)
	}
}

// P3.3, P3.5, P3.6, by their definitions: the standard library's clocks and calendar agree.
func TestLocalDefinition(t *testing.T) {
	moments(func(u int64, z int) {
		if !has(u, z) {
			checkLocal(t, u, z, api.Civil{}, api.ErrTime)
			checkMidnight(t, u, z, 0, api.ErrTime)
			checkWeek(t, u, z, 0, api.ErrTime)
			return
		}
		checkLocal(t, u, z, local(u, z), api.OK)
		checkWeek(t, u, z, int(clock(u, z).Weekday()), api.OK)
		if n := began(u, z); n >= 0 {
			checkMidnight(t, u, z, n, api.OK)
		} else {
			checkMidnight(t, u, z, 0, api.ErrTime)
		}
	})
}

// P3.3, P3.5 to P3.7: a wrong zone is ErrArg, also if the time is not valid; a time that is not valid is ErrTime at each zone.
func TestErrors(t *testing.T) {
	all := append(wrongTimes(), 0, 60, 90000, api.MaxTime)
	for _, z := range wrongZones() {
		for _, u := range all {
			checkLocal(t, u, z, api.Civil{}, api.ErrArg)
			checkMidnight(t, u, z, 0, api.ErrArg)
			checkWeek(t, u, z, 0, api.ErrArg)
			for _, v := range all {
				checkSame(t, u, v, z, false, api.ErrArg)
			}
		}
	}
	for _, z := range zones() {
		for _, u := range wrongTimes() {
			checkLocal(t, u, z, api.Civil{}, api.ErrTime)
			checkMidnight(t, u, z, 0, api.ErrTime)
			checkWeek(t, u, z, 0, api.ErrTime)
			for _, v := range []int64{u, u + 1, 90000, api.MaxTime} {
				checkSame(t, u, v, z, false, api.ErrTime)
				checkSame(t, v, u, z, false, api.ErrTime)
			}
		}
	}
}

// P3.4 at the edges that the chapter names.
func TestBack(t *testing.T) {
	for _, x := range []struct {
		c    api.Civil
		zone int
		want int64
	}{
		{date(1970, 1, 1), 0, 0}, {at(1970, 1, 1, 1, 30, 0), 90, 0}, {at(1970, 1, 1, 14, 0, 0), 840, 0}, {at(1970, 1, 1, 0, 30, 0), 30, 0},
		{date(1970, 1, 1), -1, 60}, {date(1970, 1, 1), -840, 50400}, {at(1970, 1, 2, 0, 0, 59), 1, 86399}, {at(2000, 2, 28, 23, 0, 0), -60, 951782400},
		{at(9999, 12, 31, 23, 59, 59), 0, api.MaxTime}, {at(9999, 12, 31, 23, 59, 59), 1, api.MaxTime - 60}, {at(9999, 12, 31, 23, 59, 59), 840, api.MaxTime - 50400},
		{at(9999, 12, 31, 23, 58, 59), -1, api.MaxTime}, {at(9999, 12, 31, 9, 59, 59), -840, api.MaxTime},
	} {
		checkBack(t, x.c, x.zone, x.want, api.OK)
	}
	for _, x := range []struct {
		c    api.Civil
		zone int
	}{
		{date(1970, 1, 1), 1}, {at(1970, 1, 1, 0, 0, 59), 1}, {at(1970, 1, 1, 0, 30, 0), 60}, {at(1970, 1, 1, 13, 59, 59), 840},
		{at(9999, 12, 31, 23, 59, 0), -1}, {at(9999, 12, 31, 23, 59, 59), -1}, {at(9999, 12, 31, 10, 0, 0), -840},
	} {
		checkBack(t, x.c, x.zone, 0, api.ErrTime)
	}
}

// P3.4: what is no civil time is ErrArg, also where a zone would lead back into the range; so is a wrong zone, whatever c is.
func TestBackErrors(t *testing.T) {
	wrong := []api.Civil{
		{}, at(1969, 12, 31, 23, 59, 59), at(1969, 12, 31, 10, 0, 0), date(10000, 1, 1), at(10000, 1, 1, 13, 59, 59), date(-1970, 1, 1),
		date(2001, 2, 29), date(2001, 0, 1), date(2001, 13, 1), date(2001, 1, 0), date(2001, 1, 32), date(2001, 4, 31), date(2100, 2, 29),
		at(2001, 1, 1, -1, 0, 0), at(2001, 1, 1, 24, 0, 0), at(2001, 1, 1, 0, -1, 0), at(2001, 1, 1, 0, 60, 0), at(2001, 1, 1, 0, 0, -1), at(2001, 1, 1, 0, 0, 60),
		at(1970, 1, 1, 0, 30, 60), at(1970, 1, 1, 0, 60, 0), at(1970, 1, 1, -1, 0, 0), at(1970, 1, 1, 0, 0, -1), at(9999, 12, 31, 24, 0, 0), at(9999, 12, 31, 23, 59, 60),
		at(math.MinInt, math.MinInt, math.MinInt, math.MinInt, math.MinInt, math.MinInt), at(math.MaxInt, math.MaxInt, math.MaxInt, math.MaxInt, math.MaxInt, math.MaxInt), at(1970, 1, 1, math.MaxInt, math.MaxInt, math.MaxInt), at(1970, 1, 1, 0, 0, math.MinInt),
	}
	for _, c := range wrong {
		for _, z := range zones() {
			checkBack(t, c, z, 0, api.ErrArg)
		}
	}
	for _, z := range wrongZones() {
		for _, c := range append(wrong, date(1970, 1, 1), at(1970, 1, 1, 0, 30, 0), date(2001, 1, 1), at(9999, 12, 31, 23, 59, 59)) {
			checkBack(t, c, z, 0, api.ErrArg)
		}
	}
}

// P3.4, by its definition: a local time leads back to a time just if there is a valid one that has it.
func TestBackDefinition(t *testing.T) {
	check := func(shown int64, z int) {
		c, err := civil.Of(shown)
		if err != api.OK {
			return
		}
		u := shown - 60*int64(z)
		if u < 0 || u > api.MaxTime {
			checkBack(t, c, z, 0, api.ErrTime)
			return
		}
		checkBack(t, c, z, u, api.OK)
		checkLocal(t, u, z, c, api.OK)
	}
	for _, z := range zones() {
		for _, edge := range []int64{0, 60 * int64(z), daySeconds, api.MaxTime, api.MaxTime + 60*int64(z)} {
			for shown := edge - 2; shown <= edge+2; shown++ {
				check(shown, z)
			}
		}
	}
	for _, z := range someZones() {
		for _, shown := range times() {
			check(shown, z)
		}
	}
}

// P3.5 at the edges that the chapter names.
func TestMidnight(t *testing.T) {
	for _, x := range []struct {
		t    int64
		zone int
		want int64
		err  api.Errno
	}{
		{0, 0, 0, api.OK}, {86399, 0, 0, api.OK}, {86400, 0, 86400, api.OK}, {90000, 0, 86400, api.OK}, {90000, 60, 82800, api.OK},
		{86399, 1, 86340, api.OK}, {259199, 0, 172800, api.OK},
		{60, -1, 60, api.OK}, {86459, -1, 60, api.OK}, {86460, -1, 86460, api.OK}, {50400, -840, 50400, api.OK}, {136799, -840, 50400, api.OK},
		{82799, 60, 0, api.ErrTime}, {82800, 60, 82800, api.OK}, {35999, 840, 0, api.ErrTime}, {36000, 840, 36000, api.OK}, {86339, 1, 0, api.ErrTime}, {86340, 1, 86340, api.OK},
		{0, 60, 0, api.ErrTime}, {0, 1, 0, api.ErrTime}, {0, 840, 0, api.ErrTime},
		{0, -1, 0, api.ErrTime}, {59, -1, 0, api.ErrTime}, {-1, 60, 0, api.ErrTime}, {api.MaxTime, 1, 0, api.ErrTime}, {api.MaxTime + 1, -1, 0, api.ErrTime},
		{api.MaxTime, 0, api.MaxTime - 86399, api.OK}, {api.MaxTime, -840, api.MaxTime - 35999, api.OK}, {api.MaxTime - 50400, 840, api.MaxTime - 50400 - 86399, api.OK},
		{0, 841, 0, api.ErrArg}, {-1, -841, 0, api.ErrArg},
	} {
		checkMidnight(t, x.t, x.zone, x.want, x.err)
	}
}

// P3.6 at the edges that the chapter names.
func TestWeek(t *testing.T) {
	for _, x := range []struct {
		t    int64
		zone int
		want int
		err  api.Errno
	}{
		{0, 0, 4, api.OK}, {86399, 0, 4, api.OK}, {86400, 0, 5, api.OK}, {86399, 1, 5, api.OK}, {86340, 1, 5, api.OK}, {86339, 1, 4, api.OK},
		{86400, -1, 4, api.OK}, {86459, -1, 4, api.OK}, {86460, -1, 5, api.OK}, {0, 840, 4, api.OK}, {50400, -840, 4, api.OK},
		{172800, 0, 6, api.OK}, {259199, 0, 6, api.OK}, {259200, 0, 0, api.OK}, {259199, 1, 0, api.OK}, {259200, -1, 6, api.OK}, {345600, 0, 1, api.OK},
		{api.MaxTime, 0, 5, api.OK}, {api.MaxTime, -840, 5, api.OK}, // 9999-12-31 is a Friday
		{0, -1, 0, api.ErrTime}, {api.MaxTime, 1, 0, api.ErrTime}, {-1, 1, 0, api.ErrTime}, {api.MaxTime + 1, -1, 0, api.ErrTime}, {0, 841, 0, api.ErrArg}, {-1, -841, 0, api.ErrArg},
	} {
		checkWeek(t, x.t, x.zone, x.want, x.err)
	}
}

// P3.7 at the edges that the chapter names; either of the times may be the one without a local time.
func TestSame(t *testing.T) {
	for _, x := range []struct {
		a, b int64
		zone int
		want bool
		err  api.Errno
	}{
		{0, 0, 0, true, api.OK}, {0, 86399, 0, true, api.OK}, {86399, 0, 0, true, api.OK}, {0, 86399, 1, false, api.OK}, {86399, 0, 1, false, api.OK},
		{86399, 86400, 0, false, api.OK}, {86399, 86400, -60, true, api.OK}, {0, 86339, 1, true, api.OK}, {0, 86340, 1, false, api.OK},
		{0, 35999, 840, true, api.OK}, {0, 36000, 840, false, api.OK}, // a local day that began before the time 0
		{60, 86459, -1, true, api.OK}, {60, 86460, -1, false, api.OK},
		{0, 31 * daySeconds, 0, false, api.OK}, {0, 365 * daySeconds, 0, false, api.OK}, {0, 7 * daySeconds, 0, false, api.OK}, // the same day of another month, year, week
		{api.MaxTime, api.MaxTime - 86399, 0, true, api.OK}, {api.MaxTime, api.MaxTime - 86400, 0, false, api.OK}, {0, api.MaxTime, 0, false, api.OK},
		{0, 60, -1, false, api.ErrTime}, {60, 0, -1, false, api.ErrTime}, {0, 0, -1, false, api.ErrTime}, {100, 50, -1, false, api.ErrTime},
		{api.MaxTime, 0, 1, false, api.ErrTime}, {0, api.MaxTime, 1, false, api.ErrTime}, {0, -1, 0, false, api.ErrTime}, {-1, 0, 0, false, api.ErrTime}, {-1, -1, 60, false, api.ErrTime},
		{0, api.MaxTime + 1, 0, false, api.ErrTime}, {api.MaxTime + 1, api.MaxTime + 1, -60, false, api.ErrTime},
		{0, 0, 841, false, api.ErrArg}, {-1, 0, 841, false, api.ErrArg}, {0, -1, -841, false, api.ErrArg}, {-1, -1, 999, false, api.ErrArg},
	} {
		checkSame(t, x.a, x.b, x.zone, x.want, x.err)
	}
}

// P3.7, by its definition, for all pairs of times near the ends of days.
func TestSameDefinition(t *testing.T) {
	for _, z := range someZones() {
		l := edges(z)
		for _, n := range []int64{1, 7, 31, 59, 365, 366, 11016, 146097} {
			l = append(l, began(n*daySeconds, z)-1, began(n*daySeconds, z), n*daySeconds)
		}
		for _, a := range l {
			for _, b := range l {
				if !has(a, z) || !has(b, z) {
					checkSame(t, a, b, z, false, api.ErrTime)
					continue
				}
				checkSame(t, a, b, z, clock(a, z).Format(time.DateOnly) == clock(b, z).Format(time.DateOnly), api.OK)
			}
		}
	}
}

// P3.8: from a time to its local time and back, and the other way round.
func TestThereAndBack(t *testing.T) {
	moments(func(u int64, z int) {
		if c, err := zone.Local(u, z); err == api.OK {
			checkBack(t, c, z, u, api.OK)
		}
		c, err := civil.Of(u)
		if err != api.OK {
			return
		}
		if v, err := zone.Back(c, z); err == api.OK {
			checkLocal(t, v, z, c, api.OK)
		}
	})
}

// P3.9: Midnight is at 00:00:00 of the same local day, and not after t.
func TestMidnightOfDay(t *testing.T) {
	moments(func(u int64, z int) {
		n, err := zone.Midnight(u, z)
		if err != api.OK {
			return
		}
		if n > u || u-n >= daySeconds {
			t.Errorf("Midnight(%d, %d) = %d", u, z, n)
		}
		c, _ := zone.Local(u, z)
		checkLocal(t, n, z, date(c.Year, c.Month, c.Day), api.OK)
		checkMidnight(t, n, z, n, api.OK)
		checkSame(t, u, n, z, true, api.OK)
		if n > 0 && has(n-1, z) {
			checkSame(t, n-1, n, z, false, api.OK)
		}
	})
}

// P3.9: two times have the same local day just if they have the same Midnight.
func TestSameMidnight(t *testing.T) {
	moments(func(u int64, z int) {
		m, err := zone.Midnight(u, z)
		if err != api.OK {
			return
		}
		for _, v := range []int64{u - daySeconds, u - daySeconds + 1, u - 50400, u - 3600, u - 1, u, u + 1, u + 3600, u + 50400, u + daySeconds - 1, u + daySeconds} {
			if n, err := zone.Midnight(v, z); err == api.OK {
				checkSame(t, u, v, z, m == n, api.OK)
			}
		}
	})
}

// P3.9: a day later, the day of the week is the next one, and the time of day the same.
func TestNextDay(t *testing.T) {
	moments(func(u int64, z int) {
		v := u + daySeconds
		if !has(u, z) || !has(v, z) {
			return
		}
		w, _ := zone.Week(u, z)
		checkWeek(t, v, z, (w+1)%7, api.OK)
		checkSame(t, u, v, z, false, api.OK)
		c, _ := zone.Local(u, z)
		if d, err := zone.Local(v, z); err != api.OK || c.Hour != d.Hour || c.Minute != d.Minute || c.Second != d.Second {
			t.Errorf("Local(%d, %d) = %v, and a day later %v, %d", u, z, c, d, err)
		}
		if m, err := zone.Midnight(u, z); err == api.OK {
			checkMidnight(t, v, z, m+daySeconds, api.OK)
		}
	})
}

// P3.10: the zone 0 is that of layer 2.
func TestZero(t *testing.T) {
	for _, u := range append(times(), wrongTimes()...) {
		c, err := civil.Of(u)
		checkLocal(t, u, 0, c, err)
		w, err := civil.Week(u)
		checkWeek(t, u, 0, w, err)
		if err == api.OK {
			checkMidnight(t, u, 0, u-u%daySeconds, api.OK)
			checkBack(t, c, 0, u, api.OK)
		}
	}
}

// P3.10: a zone that is greater by some minutes has the local times of so many minutes later.
func TestGreaterZone(t *testing.T) {
	for _, z := range someZones() {
		for _, greater := range someZones() {
			for _, u := range append(edges(z), edges(greater)...) {
				v := u + 60*int64(greater-z)
				if !has(u, greater) || !has(v, z) {
					continue
				}
				c, err := zone.Local(v, z)
				checkLocal(t, u, greater, c, err)
				w, err := zone.Week(v, z)
				checkWeek(t, u, greater, w, err)
			}
		}
	}
}

// P1, R8: all calls return, for all arguments, and return the same again.
func TestEveryArgument(t *testing.T) {
	type results struct {
		text                                                      string
		parsed, week                                              int
		local                                                     api.Civil
		back, midnight                                            int64
		same                                                      bool
		check, text1, parsed1, local1, back1, night, week1, same1 api.Errno
	}
	call := func(a, b int64, z int) (r results) {
		r.check = zone.Check(z)
		r.text, r.text1 = zone.Text(z)
		r.parsed, r.parsed1 = zone.Parse(r.text)
		r.local, r.local1 = zone.Local(a, z)
		r.back, r.back1 = zone.Back(at(int(a), int(b), z, int(b), z, int(a)), z)
		r.midnight, r.night = zone.Midnight(a, z)
		r.week, r.week1 = zone.Week(a, z)
		r.same, r.same1 = zone.Same(a, b, z)
		return r
	}
	numbers := append([]int64{0, 1, 31, 59, 60, 1970, 9999, daySeconds, api.MaxTime}, wrongTimes()...)
	for _, z := range append(someZones(), wrongZones()...) {
		for _, a := range numbers {
			for _, b := range numbers {
				if one, two := call(a, b, z), call(a, b, z); one != two {
					t.Errorf("the calls with %d, %d and %d return %v, and then %v", a, b, z, one, two)
				}
			}
		}
	}
}
