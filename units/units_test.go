package units_test

import (
	"fmt"
	"math"
	"strings"
	"testing"

	"wakeman/api"
	"wakeman/units"
)

func checkParse(t *testing.T, s string, want int64, err api.Errno) {
	t.Helper()
	if d, e := units.Parse(s); d != want || e != err {
		t.Errorf("Parse(%.200q) = %d, %d, want %d, %d", s, d, e, want, err)
	}
}

func checkPrint(t *testing.T, d int64, want string, err api.Errno) {
	t.Helper()
	if s, e := units.Print(d); s != want || e != err {
		t.Errorf("Print(%d) = %q, %d, want %q, %d", d, s, e, want, err)
	}
}

func checkNormal(t *testing.T, s, want string, err api.Errno) {
	t.Helper()
	if n, e := units.Normal(s); n != want || e != err {
		t.Errorf("Normal(%.200q) = %q, %d, want %q, %d", s, n, e, want, err)
	}
}

func checkSeed(t *testing.T, s string, want uint64, err api.Errno) {
	t.Helper()
	if n, e := units.Seed(s); n != want || e != err {
		t.Errorf("Seed(%.200q) = %d, %d, want %d, %d", s, n, e, want, err)
	}
}

func checkHex(t *testing.T, n uint64, want string) {
	t.Helper()
	if s := units.Hex(n); s != want {
		t.Errorf("Hex(%d) = %q, want %q", n, s, want)
	}
}

func checkInt(t *testing.T, s string, lo, hi, want int64, err api.Errno) {
	t.Helper()
	if n, e := units.Int(s, lo, hi); n != want || e != err {
		t.Errorf("Int(%.200q, %d, %d) = %d, %d, want %d, %d", s, lo, hi, n, e, want, err)
	}
}

func checkPair(t *testing.T, s, key, value string, err api.Errno) {
	t.Helper()
	if k, v, e := units.Pair(s); k != key || v != value || e != err {
		t.Errorf("Pair(%.200q) = %.200q, %.200q, %d, want %.200q, %.200q, %d", s, k, v, e, key, value, err)
	}
}

func checkLimit(t *testing.T, s string, want api.Limit, err api.Errno) {
	t.Helper()
	if l, e := units.Limit(s); l != want || e != err {
		t.Errorf("Limit(%.200q) = %v, %d, want %v, %d", s, l, e, want, err)
	}
}

func checkPrintLimit(t *testing.T, l api.Limit, want string, err api.Errno) {
	t.Helper()
	if s, e := units.PrintLimit(l); s != want || e != err {
		t.Errorf("PrintLimit(%v) = %q, %d, want %q, %d", l, s, e, want, err)
	}
}

// checkDuration compares Parse and Normal of a text with the definitions.
func checkDuration(t *testing.T, s string) {
	t.Helper()
	d, err := parsed(s)
	checkParse(t, s, d, err)
	n, e := units.Normal(s)
	if e != err || err != api.OK && n != "" || err == api.OK && !isShort(n, d) {
		t.Errorf("Normal(%.200q) = %q, %d, of %d, %d", s, n, e, d, err)
	}
}

// checkLimitText compares Limit of a text with the definitions.
func checkLimitText(t *testing.T, s string) {
	t.Helper()
	l, err := limit(s)
	checkLimit(t, s, l, err)
}

// sameDuration has the texts that stand for many durations, each with its number of seconds.
var sameDuration = []struct {
	s string
	d int64
}{
	{"0s", 0}, {"1s", 1}, {"1m", 60}, {"1h", 3600}, {"1d", 86400},
	{"59s", 59}, {"60s", 60}, {"61s", 61}, {"59m", 3540}, {"60m", 3600}, {"61m", 3660}, {"23h", 82800}, {"24h", 86400}, {"25h", 90000},
	{"90m", 5400}, {"1h30m", 5400}, {"5400s", 5400}, {"1h1800s", 5400}, {"89m60s", 5400},
	{"1d2h3m4s", 93784}, {"10d20h30m40s", 937840}, {"1d2h", 93600}, {"1d3m", 86580}, {"1d4s", 86404}, {"2h3m", 7380}, {"2h4s", 7204}, {"3m4s", 184}, {"1d2h3m", 93780}, {"1d2h4s", 93604}, {"1d3m4s", 86584}, {"2h3m4s", 7384},
	{"25h61m61s", 93721}, {"1d24h60m60s", 176460}, {"9s", 9}, {"10s", 10}, {"100s", 100}, {"1020304050s", 1020304050},
	{"68719476736s", api.MaxSpan}, {"68719476735s", api.MaxSpan - 1}, {"795364d7h32m16s", api.MaxSpan}, {"795364d7h32m15s", api.MaxSpan - 1}, {"795364d27136s", api.MaxSpan}, {"19088743h20m736s", api.MaxSpan}, {"1145324612m16s", api.MaxSpan}, {"795364d", 795364 * 86400}, {"19088743h", 19088743 * 3600}, {"1145324612m", 1145324612 * 60},
}

// tooLong has the written durations that stand for more than MaxSpan.
var tooLong = []string{
	"68719476737s", "795364d7h32m17s", "795364d7h33m", "795364d8h", "795365d", "19088744h", "1145324613m", "1145324612m17s", "1d68719476736s", "1m68719476736s", "795364d27137s",
	// They do not fit into an int64, or their sum does not.
	"9223372036854775807s", "9223372036854775808s", "18446744073709551615s", "18446744073709551616s", "18446744073709551617s", "9223372036854775807d", "9223372036854775807d9223372036854775807h9223372036854775807m9223372036854775807s", "1d9223372036854775807s", "99999999999999999999d1s", "1d99999999999999999999s",
	// With numbers of 64 bits, these products or sums would be small, or below 0.
	"213503982334602d", "106751991167301d", "5124095576030431h", "5124095576030432h", "307445734561825861m", "153722867280912931m", "307445734561825860m17s", "106751991167300d9223372036854775807s",
}

// noDuration has texts that are no written durations.
var noDuration = []string{
	"", "s", "m", "h", "d", "dhms", "1", "0", "9", "12", "1h2", "1d2h3m4", "1s1", "0s1", "0s0", "10", "ss", "1ss", "s1", "h1m", "1hm", "1dhms", "dh1m",
	"01s", "00s", "01h", "0h", "0m", "0d", "000", "0001d", "1h0s", "1h00s", "1h01s", "0h1s", "0s1s", "0s0s", "0d0h0m0s", "1d0h", "1d0h1m", "0d1h", "1h0m", "01d1h", "1d01h",
	"1h1h", "1s1s", "1m1m", "1d1d", "1d1h1d", "1h1m1h", "1m1h", "1s1m", "1s1h", "1s1d", "1m1d", "1h1d", "1m1s1m", "1d1h1m1s1s", "1s1m1h1d",
	"-1s", "+1s", "-0s", "+0s", "--1s", "1-s", "1h-1s", "1h+1s", "-1h1s", "1h-0s",
	" 1s", "1s ", "1 s", " ", "\t1s", "1s\n", "1h 1m", "0 s", " 0s", "0s ", "\n", "1s\x00", "\x001s",
	"1S", "1M", "1H", "1D", "0S", "1h1M", "1w", "1y", "1ms", "1us", "1e3s", "1.5h", "1,000s", "1_000s", "0x1s", "1min", "1sec", "one", "1t", "1r", "1n", "1l", "1i", "1g", "1e", "1c",
	"१s", "1ſ", "1\xff", "\xff1s", "1s\xff", "1s\u00a0", "１s",
}

// P13.1: the sum of the parts, each unit alone, and all of them.
func TestParse(t *testing.T) {
	for _, x := range sameDuration {
		checkParse(t, x.s, x.d, api.OK)
	}
	for _, s := range tooLong {
		checkParse(t, s, 0, api.ErrOver)
	}
	for _, s := range noDuration {
		checkParse(t, s, 0, api.ErrForm)
	}
}

// P13.1: all sequences of up to five units, so in every order, and with units twice.
func TestParseOrder(t *testing.T) {
	next := chance(1)
	texts("dhms", 5, func(letters string) {
		for range 3 {
			s := ""
			for _, c := range letters {
				s += fmt.Sprintf("%d%c", 1+next(99), c)
			}
			checkDuration(t, s)
		}
	})
}

// P13.1: all texts of few bytes.
func TestParseShort(t *testing.T) {
	texts("019dhms-", 6, func(s string) { checkDuration(t, s) })
	texts("0123456789dhms +Hw", 4, func(s string) { checkDuration(t, s) })
}

// P13.1: a byte that is wrong, at each place.
func TestParseChanged(t *testing.T) {
	for _, s := range []string{"0s", "1s", "12m", "1d2h3m4s", "10d20h30m40s", "68719476737s", "99999999999999999999d1s"} {
		changed(s, func(s string) { checkDuration(t, s) })
	}
}

// P13.1, P13.2: great numbers of each unit, alone and with all others.
func TestParseGreat(t *testing.T) {
	for _, n := range counts() {
		for _, unit := range []string{"d", "h", "m", "s"} {
			checkDuration(t, n+unit)
		}
		for _, m := range counts() {
			for _, two := range []string{"dh", "dm", "ds", "hm", "hs", "ms"} {
				checkDuration(t, n+two[:1]+m+two[1:])
			}
		}
		checkDuration(t, n+"d"+n+"h"+n+"m"+n+"s")
	}
}

// P13.1: ErrForm comes before ErrOver, wherever in the text the form is wrong.
func TestParseFirstError(t *testing.T) {
	for _, over := range append(tooLong, "1"+strings.Repeat("0", 100000)+"d") {
		for _, s := range []string{over + " ", over + "1", over + "1s1s", over + "0s", over + "d", over + "1d", "0d" + over, "d" + over, "-" + over, " " + over, "0" + over, "1s" + over, over[:len(over)-1], over[:len(over)-1] + "w", over[:len(over)-1] + "S"} {
			checkParse(t, s, 0, api.ErrForm)
			checkNormal(t, s, "", api.ErrForm)
		}
	}
}

// P13.1, P1: long texts.
func TestParseLong(t *testing.T) {
	checkParse(t, strings.Repeat("9", 1<<20)+"s", 0, api.ErrOver)
	checkParse(t, strings.Repeat("9", 1<<20), 0, api.ErrForm)
	checkParse(t, strings.Repeat("0", 1<<20)+"s", 0, api.ErrForm)
	checkParse(t, strings.Repeat("1s", 1<<20), 0, api.ErrForm)
	checkParse(t, strings.Repeat("s", 1<<20), 0, api.ErrForm)
	checkParse(t, "1d"+strings.Repeat(" ", 1<<20), 0, api.ErrForm)
}

// P13.2 (Print): at the ends of what is allowed, and around each unit.
func TestPrint(t *testing.T) {
	for _, x := range []struct {
		d    int64
		want string
	}{
		{0, "0s"}, {1, "1s"}, {2, "2s"}, {9, "9s"}, {10, "10s"}, {59, "59s"}, {60, "1m"}, {61, "1m1s"}, {119, "1m59s"}, {120, "2m"}, {600, "10m"},
		{3599, "59m59s"}, {3600, "1h"}, {3601, "1h1s"}, {3660, "1h1m"}, {3661, "1h1m1s"}, {7199, "1h59m59s"}, {7200, "2h"},
		{86399, "23h59m59s"}, {86400, "1d"}, {86401, "1d1s"}, {86460, "1d1m"}, {86461, "1d1m1s"}, {90000, "1d1h"}, {90001, "1d1h1s"}, {90060, "1d1h1m"}, {90061, "1d1h1m1s"}, {93784, "1d2h3m4s"}, {172799, "1d23h59m59s"}, {172800, "2d"},
		{864000, "10d"}, {31536000, "365d"}, {api.MaxSpan, "795364d7h32m16s"}, {api.MaxSpan - 1, "795364d7h32m15s"}, {api.MaxSpan - 16, "795364d7h32m"}, {795364 * 86400, "795364d"}, {795364*86400 - 1, "795363d23h59m59s"},
	} {
		checkPrint(t, x.d, x.want, api.OK)
	}
	for _, d := range []int64{-1, -60, -86400, api.MaxSpan + 1, 2 * api.MaxSpan, -api.MaxSpan, api.MaxTime, api.Never, -api.Never, 1 << 32 * 86400, math.MaxInt64, math.MinInt64, math.MinInt64 + 1} {
		checkPrint(t, d, "", api.ErrArg)
	}
}

// P13.2 (Print), P13.7: as many of the longer units as possible, for all durations of three days, and for others of all sizes.
func TestPrintAll(t *testing.T) {
	check := func(d int64) {
		s, err := units.Print(d)
		if err != api.OK || !isShort(s, d) {
			t.Fatalf("Print(%d) = %q, %d", d, s, err)
		}
		checkParse(t, s, d, api.OK)
		checkNormal(t, s, s, api.OK)
	}
	for d := range int64(3 * 86400) {
		check(d)
	}
	next := chance(2)
	for size := range 37 {
		for range 500 {
			check((int64(next(1<<31))<<31 | int64(next(1<<31))) % (1<<size + 1))
		}
	}
	for d := range int64(1000) {
		check(api.MaxSpan - d)
	}
}

// P13.2 (Normal): texts with parts that are greater than the next unit, and the errors of Parse.
func TestNormal(t *testing.T) {
	for _, x := range []struct{ s, want string }{
		{"25h60m", "1d2h"}, {"90m", "1h30m"}, {"1h30m", "1h30m"}, {"60s", "1m"}, {"3600s", "1h"}, {"86400s", "1d"}, {"1440m", "1d"}, {"24h", "1d"}, {"48h", "2d"}, {"23h60m", "1d"}, {"23h59m60s", "1d"}, {"23h59m59s", "23h59m59s"}, {"59m60s", "1h"}, {"59m61s", "1h1s"},
		{"1d24h60m60s", "2d1h1m"}, {"1d2h3m4s", "1d2h3m4s"}, {"0s", "0s"}, {"1s", "1s"}, {"100000s", "1d3h46m40s"}, {"1d86400s", "2d"}, {"1d1440m", "2d"}, {"1h3600s", "2h"}, {"68719476736s", "795364d7h32m16s"}, {"1145324612m16s", "795364d7h32m16s"},
	} {
		checkNormal(t, x.s, x.want, api.OK)
	}
	for _, x := range sameDuration {
		want, err := units.Print(x.d)
		checkNormal(t, x.s, want, err)
	}
	for _, s := range tooLong {
		checkNormal(t, s, "", api.ErrOver)
	}
	for _, s := range noDuration {
		checkNormal(t, s, "", api.ErrForm)
	}
}

// P13.7: what Print returned is read as the duration, and Normal leaves it as it is.
func TestDurationsRoundTrip(t *testing.T) {
	for _, x := range sameDuration {
		s, err := units.Print(x.d)
		if err != api.OK {
			t.Errorf("Print(%d): %d", x.d, err)
		}
		checkParse(t, s, x.d, api.OK)
		n, err := units.Normal(x.s)
		if n != s || err != api.OK {
			t.Errorf("Normal(%q) = %q, %d, want %q", x.s, n, err, s)
		}
		checkNormal(t, n, n, api.OK)
	}
}

// P13.3 (Seed): 16 bytes of 0-9 and a-f, and nothing else.
func TestSeed(t *testing.T) {
	for _, x := range []struct {
		s string
		n uint64
	}{
		{"0000000000000000", 0}, {"0000000000000001", 1}, {"000000000000000f", 15}, {"0000000000000010", 16}, {"00000000000000ff", 255}, {"7fffffffffffffff", math.MaxInt64}, {"8000000000000000", 1 << 63}, {"8000000000000001", 1<<63 + 1}, {"fffffffffffffffe", math.MaxUint64 - 1}, {"ffffffffffffffff", math.MaxUint64}, {"0123456789abcdef", 0x0123456789abcdef}, {"fedcba9876543210", 0xfedcba9876543210},
	} {
		checkSeed(t, x.s, x.n, api.OK)
	}
	for _, s := range []string{
		"", "0", "ff", "000000000000000", "00000000000000000", "fffffffffffffff", "fffffffffffffffff", "0ffffffffffffffff", strings.Repeat("0", 32), strings.Repeat("f", 1<<20),
		"00000000000000FF", "FFFFFFFFFFFFFFFF", "0123456789ABCDEF", "0123456789abcdeF", "A000000000000000", "0x00000000000000", "0X00000000000000", "0x0000000000000000", "-000000000000001", "+000000000000001", " 000000000000000", "000000000000000 ", "0000000 00000000", "000000000000000\n", "0000000000000000\n", "0000_0000_0000_0", "0000000000000.00", "000000000000000g", "g000000000000000", "é00000000000000", "००००", "000000000000000\x00", "\xff\xff\xff\xff\xff\xff\xff\xff\xff\xff\xff\xff\xff\xff\xff\xff",
	} {
		checkSeed(t, s, 0, api.ErrForm)
	}
}

// P13.3 (Seed): each byte there is, at each of the 16 places.
func TestSeedBytes(t *testing.T) {
	for _, s := range []string{"0000000000000000", "ffffffffffffffff", "0123456789abcdef"} {
		changed(s, func(s string) {
			n, err := seed(s)
			checkSeed(t, s, n, err)
		})
	}
}

// P13.3 (Hex), P13.8: numbers of all sizes, and back.
func TestHex(t *testing.T) {
	for _, x := range []struct {
		n    uint64
		want string
	}{
		{0, "0000000000000000"}, {1, "0000000000000001"}, {9, "0000000000000009"}, {10, "000000000000000a"}, {15, "000000000000000f"}, {16, "0000000000000010"}, {255, "00000000000000ff"}, {math.MaxInt64, "7fffffffffffffff"}, {1 << 63, "8000000000000000"}, {math.MaxUint64, "ffffffffffffffff"}, {0x0123456789abcdef, "0123456789abcdef"}, {0xfedcba9876543210, "fedcba9876543210"},
	} {
		checkHex(t, x.n, x.want)
	}
	check := func(n uint64) {
		s := units.Hex(n)
		if s != fmt.Sprintf("%016x", n) {
			t.Errorf("Hex(%d) = %q", n, s)
		}
		checkSeed(t, s, n, api.OK)
	}
	next := chance(3)
	for size := range 64 {
		check(1 << size)
		check(1<<size - 1)
		check(^uint64(1 << size))
		for range 50 {
			check((uint64(next(1<<31))<<33 ^ uint64(next(1<<31))<<10 ^ uint64(next(1<<31))) >> size)
		}
	}
}

// P13.8: Hex of Seed of a text is the text.
func TestSeedHex(t *testing.T) {
	next := chance(4)
	for range 5000 {
		s := make([]byte, 16)
		for at := range s {
			s[at] = "0123456789abcdef"[next(16)]
		}
		n, err := units.Seed(string(s))
		if err != api.OK {
			t.Errorf("Seed(%q): %d", s, err)
		}
		checkHex(t, n, string(s))
	}
}

// P13.4: numbers from lo to hi, and beside them.
func TestInt(t *testing.T) {
	const least, most = math.MinInt64, math.MaxInt64
	for _, x := range []struct {
		s      string
		lo, hi int64
		want   int64
		err    api.Errno
	}{
		{"7", 1, 9, 7, api.OK}, {"1", 1, 9, 1, api.OK}, {"9", 1, 9, 9, api.OK}, {"0", 1, 9, 0, api.ErrRange}, {"10", 1, 9, 0, api.ErrRange}, {"-7", 1, 9, 0, api.ErrRange},
		{"0", 0, 0, 0, api.OK}, {"1", 0, 0, 0, api.ErrRange}, {"-1", 0, 0, 0, api.ErrRange}, {"0", -1, 1, 0, api.OK}, {"-1", -1, 1, -1, api.OK}, {"-2", -1, 1, 0, api.ErrRange}, {"2", -1, 1, 0, api.ErrRange},
		{"-5", -7, -3, -5, api.OK}, {"-7", -7, -3, -7, api.OK}, {"-3", -7, -3, -3, api.OK}, {"-8", -7, -3, 0, api.ErrRange}, {"-2", -7, -3, 0, api.ErrRange}, {"5", -7, -3, 0, api.ErrRange},
		{"5", 9, 1, 0, api.ErrRange}, {"9", 9, 1, 0, api.ErrRange}, {"1", 9, 1, 0, api.ErrRange}, {"0", most, least, 0, api.ErrRange}, {"9223372036854775807", most, least, 0, api.ErrRange}, {"-9223372036854775808", most, least, 0, api.ErrRange}, {"1", 1, 0, 0, api.ErrRange}, {"0", 1, 0, 0, api.ErrRange},
		{"9223372036854775807", least, most, most, api.OK}, {"-9223372036854775808", least, most, least, api.OK}, {"9223372036854775806", least, most, most - 1, api.OK}, {"9223372036854775807", least, most - 1, 0, api.ErrRange}, {"-9223372036854775808", least + 1, most, 0, api.ErrRange}, {"9223372036854775807", most, most, most, api.OK}, {"-9223372036854775808", least, least, least, api.OK}, {"-9223372036854775807", least, least, 0, api.ErrRange},
		{"9223372036854775808", least, most, 0, api.ErrRange}, {"-9223372036854775809", least, most, 0, api.ErrRange}, {"18446744073709551616", least, most, 0, api.ErrRange}, {"18446744073709551617", 0, 1, 0, api.ErrRange}, {"1" + strings.Repeat("0", 100000), least, most, 0, api.ErrRange}, {"-1" + strings.Repeat("0", 100), least, most, 0, api.ErrRange}, {"99999999999999999999", 9, 1, 0, api.ErrRange},
	} {
		checkInt(t, x.s, x.lo, x.hi, x.want, x.err)
	}
}

// P13.4: ErrForm comes before ErrRange.
func TestIntForm(t *testing.T) {
	for _, s := range []string{"", "-", "+", "+1", "-0", "--1", "-01", "00", "01", "07", "007", "0x1", "1_000", "1.0", "1e3", " 1", "1 ", "1\n", "\t1", "a", "1a", "a1", "1-", "1-1", "٣", "\xff", "1\x00", "0123456789012345678901234567890", "99999999999999999999x", "-099999999999999999999", "five", "none", "5s"} {
		checkInt(t, s, 0, 9, 0, api.ErrForm)
		checkInt(t, s, 9, 0, 0, api.ErrForm)
		checkInt(t, s, math.MinInt64, math.MaxInt64, 0, api.ErrForm)
		checkInt(t, s, math.MaxInt64, math.MinInt64, 0, api.ErrForm)
	}
}

// P13.4: all short texts, and numbers around the ends of int64, with ranges of many kinds.
func TestIntAll(t *testing.T) {
	ends := []int64{math.MinInt64, math.MinInt64 + 1, -1000, -11, -10, -9, -1, 0, 1, 9, 10, 11, 1000, math.MaxInt64 - 1, math.MaxInt64}
	check := func(s string) {
		for _, lo := range ends {
			for _, hi := range ends {
				want, err := number(s, lo, hi)
				checkInt(t, s, lo, hi, want, err)
			}
		}
	}
	texts("019-+ a", 3, check)
	for _, n := range counts() {
		check(n)
		check("-" + n)
		check("0" + n)
	}
	for _, n := range ends {
		check(fmt.Sprint(n))
	}
}

// P13.5: a key, the first =, and any value.
func TestPair(t *testing.T) {
	long := strings.Repeat("a", 100000)
	for _, x := range []struct{ s, key, value string }{
		{"cap=3", "cap", "3"}, {"a=b=", "a", "b="}, {"a=", "a", ""}, {"a==", "a", "="}, {"a===", "a", "=="}, {"a=b=c=d", "a", "b=c=d"}, {"a= ", "a", " "}, {"a=\n", "a", "\n"}, {"a=b c", "a", "b c"}, {"a=B", "a", "B"}, {"a=\x00\xff", "a", "\x00\xff"}, {"z=é", "z", "é"}, {"a=b", "a", "b"}, {"az=a-z", "az", "a-z"}, {"abcdefghijklmnopqrstuvwxyz=0", "abcdefghijklmnopqrstuvwxyz", "0"}, {long + "=" + long, long, long}, {"none=none", "none", "none"}, {"misfire=last", "misfire", "last"},
	} {
		checkPair(t, x.s, x.key, x.value, api.OK)
	}
	for _, s := range []string{"", "=", "==", "=3", "=a=b", "cap", "Cap=3", "cAp=3", "caP=3", "CAP=3", "c2=3", "2c=3", "2=3", "c-p=3", "c_p=3", "c p=3", " cap=3", "cap =3", "\tcap=3", "cap\n=3", "cap:3", "é=3", "aé=3", "a\x00=3", "\xff=3", "a\xff=3", "`=3", "{=3", "a`=3", "a{=3", "{a=3", "@=3", "[=3", long, long + "A=" + long, "\uff41=1"} {
		checkPair(t, s, "", "", api.ErrForm)
	}
}

// P13.5: all short texts, and each byte at each place of a pair.
func TestPairAll(t *testing.T) {
	check := func(s string) {
		key, value, err := pair(s)
		checkPair(t, s, key, value, err)
	}
	texts("az= A0\n\xff", 5, check)
	changed("cap=3=x", check)
	changed("a=", check)
}

// P13.6 (Limit): what is a written limit.
func TestLimit(t *testing.T) {
	for _, x := range []struct {
		s    string
		want api.Limit
	}{
		{"none", api.Limit{}}, {"1/5s+10s", api.Limit{T: 5, Tau: 10}}, {"1/1s+0s", api.Limit{T: 1}}, {"1/1s+1s", api.Limit{T: 1, Tau: 1}}, {"1/90s+0s", api.Limit{T: 90}}, {"1/1m30s+0s", api.Limit{T: 90}}, {"1/1d+1h1m", api.Limit{T: 86400, Tau: 3660}}, {"1/1d2h3m4s+4s", api.Limit{T: 93784, Tau: 4}}, {"1/4s+1d2h3m4s", api.Limit{T: 4, Tau: 93784}}, {"1/60m+3600s", api.Limit{T: 3600, Tau: 3600}},
		{"1/68719476736s+0s", api.Limit{T: api.MaxSpan}}, {"1/1s+68719476736s", api.Limit{T: 1, Tau: api.MaxSpan}}, {"1/795364d7h32m16s+795364d7h32m16s", api.Limit{T: api.MaxSpan, Tau: api.MaxSpan}},
	} {
		checkLimit(t, x.s, x.want, api.OK)
	}
	for _, s := range []string{
		"", "0", "1", "1/", "/", "+", "1+", "1/+", "/+", "1/5s", "1/5s+", "1/+5s", "1/+", "5s+10s", "/5s+10s", "1 5s+10s", "1/5s 10s", "1/5s10s", "5s", "1/5s-10s", "1/5s/10s", "1:5s+10s", "1\\5s+10s",
		"2/5s+0s", "0/5s+0s", "01/5s+0s", "11/5s+0s", "1//5s+0s", "1/1/5s+0s", "-1/5s+0s", "+1/5s+0s", "1/5s++0s", "1/5s+0s+0s", "1/5s+1s+1s", "1/5s+0s+", "+1/5s+0s",
		"1/0s+0s", "1/0s+5s", "1/0+5s", "1/00s+5s", "1/0s", "1/0s+", "1/0s+68719476737s", "1/5+10s", "1/5s+10", "1/5s+0", "1/5s+00s", "1/05s+0s", "1/5s+05s", "1/5s+-5s", "1/-5s+5s", "1/5x+5s", "1/5s+5x", "1/1m1h+0s", "1/5s+1m1h", "1/1s1s+0s", "1/S+0s", "1/5S+0s", "1/5s+0S",
		" 1/5s+0s", "1/5s+0s ", "1 /5s+0s", "1/ 5s+0s", "1/5s +0s", "1/5s+ 0s", "1/5s+0s\n",
		"None", "NONE", "nonE", " none", "none ", "nonenone", "none\n", "non", "one", "nonee", "nnone", "1/none", "none+0s", "1/none+0s", "1/5s+none", "none/5s+0s", "none\x00", "no", "0s", "off",
	} {
		checkLimit(t, s, api.Limit{}, api.ErrForm)
	}
}

// P13.6 (Limit): ErrOver if a duration is too long, in either place, and ErrForm before it.
func TestLimitOver(t *testing.T) {
	for _, over := range tooLong {
		for _, s := range []string{"1/" + over + "+0s", "1/" + over + "+1s", "1/1s+" + over, "1/" + over + "+" + over, "1/1d+" + over, "1/68719476736s+" + over, "1/" + over + "+68719476736s"} {
			checkLimit(t, s, api.Limit{}, api.ErrOver)
		}
		for _, s := range []string{over, "1/" + over, over + "+0s", "1/" + over + "+", "1/+" + over, "2/" + over + "+0s", "/" + over + "+0s", "1/" + over + "+0", "1/" + over + "+00s", "1/" + over + "+1", "1/" + over + "+none", "1/0s+" + over, "1/5+" + over, "1/+" + over, "1/" + over + "+" + over + "+0s", "1/" + over + "+0s ", " 1/" + over + "+0s", "1/" + over + " +0s", "1/05s+" + over, "1/1m1h+" + over, "2/1s+" + over} {
			checkLimit(t, s, api.Limit{}, api.ErrForm)
		}
	}
}

// P13.6 (Limit): parts that are missing, doubled or changed, and all short texts.
func TestLimitAll(t *testing.T) {
	check := func(s string) { checkLimitText(t, s) }
	for _, s := range []string{"none", "1/5s+10s", "1/1d2h3m4s+0s", "1/0s+0s", "1/68719476737s+0s", "1/1s+68719476737s"} {
		changed(s, check)
	}
	texts("10s/+h", 6, check)
	texts("none1", 5, check)
	var parts func(s string, most int)
	parts = func(s string, most int) {
		check(s)
		if most > 0 {
			for _, part := range []string{"1/", "5s", "+", "0s", "none", "68719476737s", "1", "s"} {
				parts(s+part, most-1)
			}
		}
	}
	parts("", 6)
}

// P13.6 (PrintLimit): what is written, and what is not valid.
func TestPrintLimit(t *testing.T) {
	for _, x := range []struct {
		l    api.Limit
		want string
	}{
		{api.Limit{}, "none"}, {api.Limit{T: 90}, "1/1m30s+0s"}, {api.Limit{T: 5, Tau: 10}, "1/5s+10s"}, {api.Limit{T: 1}, "1/1s+0s"}, {api.Limit{T: 1, Tau: 1}, "1/1s+1s"}, {api.Limit{T: 86400, Tau: 3660}, "1/1d+1h1m"}, {api.Limit{T: api.MaxSpan}, "1/795364d7h32m16s+0s"}, {api.Limit{T: 1, Tau: api.MaxSpan}, "1/1s+795364d7h32m16s"}, {api.Limit{T: api.MaxSpan, Tau: api.MaxSpan}, "1/795364d7h32m16s+795364d7h32m16s"}, {api.Limit{T: 93784, Tau: 7200}, "1/1d2h3m4s+2h"},
	} {
		checkPrintLimit(t, x.l, x.want, api.OK)
	}
	for _, l := range []api.Limit{
		{Tau: 1}, {Tau: 5}, {Tau: -1}, {Tau: api.MaxSpan}, {Tau: api.MaxSpan + 1}, {Tau: math.MaxInt64}, {Tau: math.MinInt64},
		{T: -1}, {T: -90}, {T: api.MaxSpan + 1}, {T: api.Never}, {T: math.MaxInt64}, {T: math.MinInt64}, {T: -1, Tau: 5}, {T: api.MaxSpan + 1, Tau: 5}, {T: api.MaxSpan + 1, Tau: api.MaxSpan},
		{T: 1, Tau: -1}, {T: 5, Tau: -10}, {T: 1, Tau: api.MaxSpan + 1}, {T: 1, Tau: math.MaxInt64}, {T: 1, Tau: math.MinInt64}, {T: api.MaxSpan, Tau: api.MaxSpan + 1}, {T: api.MaxSpan, Tau: -1},
		{T: -1, Tau: -1}, {T: api.MaxSpan + 1, Tau: api.MaxSpan + 1}, {T: -1, Tau: api.MaxSpan + 1}, {T: math.MinInt64, Tau: math.MinInt64},
	} {
		checkPrintLimit(t, l, "", api.ErrRule)
	}
}

// P13.6, P13.8: limits of all kinds: what was written is read as it was, and what was read is written as a text that stands for the same.
func TestLimitRoundTrip(t *testing.T) {
	spans := []int64{math.MinInt64, -api.MaxSpan, -1, 0, 1, 2, 59, 60, 61, 90, 3599, 3600, 3601, 86399, 86400, 86401, 93784, api.MaxSpan - 1, api.MaxSpan, api.MaxSpan + 1, math.MaxInt64}
	next := chance(5)
	for range 100 {
		spans = append(spans, int64(next(1<<31)))
	}
	for _, first := range spans {
		for _, tau := range spans {
			l := api.Limit{T: first, Tau: tau}
			s, err := units.PrintLimit(l)
			if !isRule(l) {
				checkPrintLimit(t, l, "", api.ErrRule)
				continue
			}
			if err != api.OK {
				t.Errorf("PrintLimit(%v): %d", l, err)
			}
			checkLimit(t, s, l, api.OK)
			checkLimitText(t, s)
			one, _ := units.Print(first)
			two, _ := units.Print(tau)
			if long := "1/" + one + "+" + two; first > 0 && s != long {
				t.Errorf("PrintLimit(%v) = %q, want %q", l, s, long)
			}
		}
	}
	for _, x := range sameDuration {
		for _, y := range sameDuration {
			l, err := units.Limit("1/" + x.s + "+" + y.s)
			if x.d == 0 {
				checkLimit(t, "1/"+x.s+"+"+y.s, api.Limit{}, api.ErrForm)
				continue
			}
			if err != api.OK || l != (api.Limit{T: x.d, Tau: y.d}) {
				t.Errorf("Limit of %q and %q is %v, %d", x.s, y.s, l, err)
			}
			one, _ := units.Normal(x.s)
			two, _ := units.Normal(y.s)
			checkPrintLimit(t, l, "1/"+one+"+"+two, api.OK)
		}
	}
}

// P1, R1, R8: all calls end, with the same results when they are repeated, and those that the definitions say, whatever the text is.
func TestEveryArgument(t *testing.T) {
	type results struct {
		d, n                         int64
		normal, key, value, printed  string
		seed                         uint64
		limit                        api.Limit
		err1, err2, err3, err4, err5 api.Errno
		err6                         api.Errno
	}
	call := func(s string, lo, hi int64) (r results) {
		r.d, r.err1 = units.Parse(s)
		r.normal, r.err2 = units.Normal(s)
		r.seed, r.err3 = units.Seed(s)
		r.n, r.err4 = units.Int(s, lo, hi)
		r.key, r.value, r.err5 = units.Pair(s)
		r.limit, r.err6 = units.Limit(s)
		r.printed, _ = units.PrintLimit(api.Limit{T: lo, Tau: hi})
		return r
	}
	check := func(s string, lo, hi int64) {
		one, two := call(s, lo, hi), call(s, lo, hi)
		if one != two {
			t.Errorf("the calls with %.200q, %d and %d return %.200v, and then %.200v", s, lo, hi, one, two)
		}
		checkDuration(t, s)
		checkLimitText(t, s)
		seedWant, err := seed(s)
		checkSeed(t, s, seedWant, err)
		intWant, err := number(s, lo, hi)
		checkInt(t, s, lo, hi, intWant, err)
		key, value, err := pair(s)
		checkPair(t, s, key, value, err)
	}
	for _, s := range append(append([]string{"none", "1/5s+10s", "cap=3", "00000000000000ff", strings.Repeat("1/5s+", 20000), strings.Repeat("=", 100000)}, noDuration...), tooLong...) {
		check(s, math.MinInt64, math.MaxInt64)
		check(s, math.MaxInt64, math.MinInt64)
		check(s, 0, 0)
	}
	next := chance(6)
	for i := range 200000 {
		s := make([]byte, next(24))
		for at := range s {
			if i%2 == 0 {
				s[at] = byte(next(256))
			} else {
				s[at] = "0112sdhm/+=-af"[next(14)]
			}
		}
		check(string(s), int64(next(100)-50), int64(next(100)-50))
	}
}
