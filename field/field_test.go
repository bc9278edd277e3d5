package field_test

import (
	"fmt"
	"math"
	"regexp"
	"slices"
	"strings"
	"testing"

	"wakeman/api"
	"wakeman/bits"
	"wakeman/field"
)

// The indexes of the six kinds.
const (
	second = iota
	minute
	hour
	day
	month
	week
)

// set returns the set of some numbers.
func set(l ...int) uint64 {
	var s uint64
	for _, v := range l {
		s |= 1 << v
	}
	return s
}

// span returns the set of the numbers from lo to hi.
func span(lo, hi int) uint64 {
	var s uint64
	for v := lo; v <= hi; v++ {
		s |= 1 << v
	}
	return s
}

// sixKinds are the six kinds, in the words of the chapter.
func sixKinds() []field.Spec {
	return []field.Spec{
		{Lo: 0, Hi: 59},
		{Lo: 0, Hi: 59},
		{Lo: 0, Hi: 23},
		{Lo: 1, Hi: 31},
		{Lo: 1, Hi: 12, Names: strings.Fields("JAN FEB MAR APR MAY JUN JUL AUG SEP OCT NOV DEC")},
		{Lo: 0, Hi: 6, Names: strings.Fields("SUN MON TUE WED THU FRI SAT"), Week: true},
	}
}

// manyNames returns n different names of up to 9 letters.
func manyNames(n int) []string {
	var l []string
	for i := range n {
		l = append(l, strings.Repeat("Z", i%8)+string(rune('A'+i/8)))
	}
	return l
}

// ownKinds are other kinds: of all numbers, of single ones, with names of one and of nine letters, with names that begin with other names, and with a week without names.
func ownKinds() []field.Spec {
	return []field.Spec{
		{Lo: 0, Hi: 62},
		{Lo: 0, Hi: 62, Names: manyNames(63)},
		{Lo: 0, Hi: 0},
		{Lo: 62, Hi: 62},
		{Lo: 7, Hi: 7, Names: []string{"X"}},
		{Lo: 5, Hi: 7, Names: []string{"A", "AB", "B"}},
		{Lo: 60, Hi: 62, Names: []string{"A", "AB", "ABCDEFGHI"}},
		{Lo: 0, Hi: 6},
		{Lo: 0, Hi: 6, Week: true},
		{Lo: 0, Hi: 7},
		{Lo: 1, Hi: 2, Names: []string{"SK", "KS"}},
	}
}

// kinds are the six kinds and other ones.
func kinds() []field.Spec {
	return append(sixKinds(), ownKinds()...)
}

// wrongKinds are kinds that are not valid.
func wrongKinds() []field.Spec {
	names := strings.Fields("SUN MON TUE WED THU FRI SAT")
	l := []field.Spec{
		// The numbers.
		{Lo: -1, Hi: 5}, {Lo: -1, Hi: -1}, {Lo: -2, Hi: -1}, {Lo: math.MinInt, Hi: 0}, {Lo: math.MinInt, Hi: math.MinInt}, {Lo: math.MinInt, Hi: math.MaxInt},
		{Lo: 5, Hi: 4}, {Lo: 1, Hi: 0}, {Lo: 62, Hi: 0}, {Lo: 0, Hi: -1}, {Lo: 3, Hi: math.MinInt}, {Lo: math.MaxInt, Hi: 0}, {Lo: math.MaxInt, Hi: math.MinInt},
		{Lo: 0, Hi: 63}, {Lo: 63, Hi: 63}, {Lo: 0, Hi: 64}, {Lo: 0, Hi: 1 << 32}, {Lo: 0, Hi: math.MaxInt}, {Lo: 64, Hi: 128}, {Lo: math.MaxInt, Hi: math.MaxInt},
		// The numbers of a week, also with names for all of them.
		{Lo: 0, Hi: 7, Week: true}, {Lo: 0, Hi: 5, Week: true}, {Lo: 1, Hi: 6, Week: true}, {Lo: 1, Hi: 7, Week: true}, {Lo: 0, Hi: 0, Week: true}, {Lo: 6, Hi: 6, Week: true}, {Lo: 6, Hi: 0, Week: true}, {Lo: 0, Hi: 62, Week: true}, {Lo: -1, Hi: 6, Week: true}, {Lo: 0, Hi: 63, Week: true},
		{Lo: 1, Hi: 7, Names: names, Week: true}, {Lo: 0, Hi: 5, Names: names[:6], Week: true},
		// The names: too few, too many.
		{Lo: 0, Hi: 6, Names: names[:6]}, {Lo: 0, Hi: 6, Names: names[:1]}, {Lo: 0, Hi: 6, Names: append(slices.Clone(names), "X")}, {Lo: 0, Hi: 6, Names: names[:6], Week: true}, {Lo: 0, Hi: 6, Names: append(slices.Clone(names), "X"), Week: true},
		{Lo: 1, Hi: 6, Names: names}, {Lo: 0, Hi: 1, Names: []string{"A"}}, {Lo: 62, Hi: 62, Names: []string{"A", "B"}}, {Lo: 0, Hi: 62, Names: manyNames(62)}, {Lo: 0, Hi: 62, Names: manyNames(64)},
		{Lo: 5, Hi: 4, Names: []string{"A"}}, {Lo: 1, Hi: 0, Names: nil}, {Lo: -1, Hi: 0, Names: []string{"A", "B"}}, {Lo: 63, Hi: 63, Names: []string{"A"}}, {Lo: math.MinInt, Hi: math.MaxInt, Names: names},
		// The same name twice.
		{Lo: 0, Hi: 1, Names: []string{"A", "A"}}, {Lo: 0, Hi: 2, Names: []string{"A", "B", "A"}}, {Lo: 0, Hi: 2, Names: []string{"B", "A", "A"}}, {Lo: 0, Hi: 2, Names: []string{"ABCDEFGHI", "A", "ABCDEFGHI"}},
	}
	// What no name is, at the beginning, in the middle and at the end.
	for _, bad := range []string{
		"", "a", "jan", "Jan", "jAN", "JaN", "JAn", "JAN ", " JAN", "J N", "A1", "1", "1A", "-", "A-", "A,B", "*", "A/", "@", "[", "`", "{", "A@", "[A", "A\n", "\x00", "A\x00", "é", "É", "AÉ", "ÉA", "\xc1", "A\xff", "\u0410", "\uff21", "\u212a", "\u017f",
		"ABCDEFGHIJ", "ABCDEFGHIJK", strings.Repeat("A", 256), strings.Repeat("A", 257), strings.Repeat("A", 1<<16+1), "ABCDEFGHi", "aBCDEFGHI", "ABCDEFGH ",
	} {
		l = append(l, field.Spec{Lo: 3, Hi: 3, Names: []string{bad}})
		for i := range 3 {
			three := []string{"X", "Y", "Z"}
			three[i] = bad
			l = append(l, field.Spec{Lo: 60, Hi: 62, Names: three})
		}
	}
	return l
}

// show returns the beginning of what a kind is.
func show(p field.Spec) string {
	return fmt.Sprintf("%.200s", fmt.Sprint(p))
}

func checkParse(t *testing.T, p field.Spec, s string, want uint64, star bool, place int, err api.Errno) {
	t.Helper()
	if got, is, at, e := field.Parse(p, s); got != want || is != star || at != place || e != err {
		t.Errorf("Parse(%s, %.200q) = %#x, %t, %d, %d, want %#x, %t, %d, %d", show(p), s, got, is, at, e, want, star, place, err)
	}
}

func checkPrint(t *testing.T, p field.Spec, s uint64, star bool, want string, err api.Errno) {
	t.Helper()
	if got, e := field.Print(p, s, star); got != want || e != err {
		t.Errorf("Print(%s, %#x, %t) = %q, %d, want %q, %d", show(p), s, star, got, e, want, err)
	}
}

func checkNormal(t *testing.T, p field.Spec, s, want string, place int, err api.Errno) {
	t.Helper()
	if got, at, e := field.Normal(p, s); got != want || at != place || e != err {
		t.Errorf("Normal(%s, %.200q) = %q, %d, %d, want %q, %d, %d", show(p), s, got, at, e, want, place, err)
	}
}

func checkName(t *testing.T, p field.Spec, v int, want string, err api.Errno) {
	t.Helper()
	if got, e := field.Name(p, v); got != want || e != err {
		t.Errorf("Name(%s, %d) = %q, %d, want %q, %d", show(p), v, got, e, want, err)
	}
}

// reads checks fields that have no star alone.
func reads(t *testing.T, p field.Spec, fields map[string]uint64) {
	t.Helper()
	for s, want := range fields {
		checkParse(t, p, s, want, false, 0, api.OK)
	}
}

// refuses checks texts that Parse and Normal refuse with one error, each at a place.
func refuses(t *testing.T, p field.Spec, err api.Errno, texts map[string]int) {
	t.Helper()
	for s, place := range texts {
		checkParse(t, p, s, 0, false, place, err)
		checkNormal(t, p, s, "", place, err)
	}
}

// P6.1: Specs.
func TestSpecs(t *testing.T) {
	got, want := field.Specs(), sixKinds()
	if len(got) != len(want) {
		t.Fatalf("Specs returns %d kinds", len(got))
	}
	for i, p := range got {
		if p.Lo != want[i].Lo || p.Hi != want[i].Hi || p.Week != want[i].Week || !slices.Equal(p.Names, want[i].Names) {
			t.Errorf("the kind %d is %v, want %v", i, p, want[i])
		}
	}
}

// P6.1: Check and Full of valid kinds.
func TestCheckAndFull(t *testing.T) {
	for _, p := range append(kinds(), field.Specs()...) {
		if err := field.Check(p); err != api.OK {
			t.Errorf("Check(%s) = %d", show(p), err)
		}
		if full, err := field.Full(p); full != span(p.Lo, p.Hi) || err != api.OK {
			t.Errorf("Full(%s) = %#x, %d", show(p), full, err)
		}
	}
	for lo := range 63 {
		for hi := lo; hi < 63; hi++ {
			for _, names := range [][]string{nil, {}, manyNames(hi - lo + 1)} {
				p := field.Spec{Lo: lo, Hi: hi, Names: names}
				if err := field.Check(p); err != api.OK {
					t.Errorf("Check(%s) = %d", show(p), err)
				}
				if full, err := field.Full(p); full != span(lo, hi) || err != api.OK {
					t.Errorf("Full(%s) = %#x, %d", show(p), full, err)
				}
				p.Week = true
				want := api.ErrArg
				if lo == 0 && hi == 6 {
					want = api.OK
				}
				if err := field.Check(p); err != want {
					t.Errorf("Check(%s) = %d, want %d", show(p), err, want)
				}
			}
		}
	}
}

// P6.1: each byte, alone and at each place of a name.
func TestCheckNames(t *testing.T) {
	for n := range 12 {
		name := []byte(strings.Repeat("M", n))
		for at := range name {
			for b := range 256 {
				name[at] = byte(b)
				want := api.ErrArg
				if n <= 9 && 'A' <= b && b <= 'Z' {
					want = api.OK
				}
				for _, p := range []field.Spec{{Lo: 9, Hi: 9, Names: []string{string(name)}}, {Lo: 0, Hi: 1, Names: []string{"NO", string(name)}}} {
					if err := field.Check(p); err != want {
						t.Errorf("Check(%q) = %d, want %d", p.Names, err, want)
					}
				}
			}
			name[at] = 'M'
		}
	}
}

// P6.1, and the order of errors of all calls: a kind that is not valid comes first, with zero values.
func TestWrongKinds(t *testing.T) {
	for _, p := range wrongKinds() {
		if err := field.Check(p); err != api.ErrArg {
			t.Errorf("Check(%s) = %d", show(p), err)
		}
		if full, err := field.Full(p); full != 0 || err != api.ErrArg {
			t.Errorf("Full(%s) = %#x, %d", show(p), full, err)
		}
		for _, s := range []string{"", "*", "0", "1,,2", "1,x", "99", "x", "1,7-5", "SUN", "*/0", "\xff"} {
			checkParse(t, p, s, 0, false, 0, api.ErrArg)
			checkNormal(t, p, s, "", 0, api.ErrArg)
		}
		for _, s := range []uint64{0, 1, set(3), span(0, 6), span(60, 62), math.MaxUint64} {
			checkPrint(t, p, s, false, "", api.ErrArg)
			checkPrint(t, p, s, true, "", api.ErrArg)
		}
		for _, v := range []int{-1, 0, 1, 3, 6, 7, 60, 62, 63, math.MinInt, math.MaxInt} {
			checkName(t, p, v, "", api.ErrArg)
		}
	}
}

// P6.2: ordinary fields of each of the six kinds, and the edges of their numbers.
func TestParse(t *testing.T) {
	six := field.Specs()
	for _, k := range []int{second, minute} {
		reads(t, six[k], map[string]uint64{
			"0": set(0), "59": set(59), "00": set(0), "05": set(5), "5": set(5), "7": set(7), "07": set(7), "*/15": set(0, 15, 30, 45), "0,5-7": span(5, 7) | set(0), "50/5": set(50, 55), "0-59": span(0, 59), "10-20/7,59": set(10, 17, 59), "9,8,7,8": set(7, 8, 9), "1-3,2-5": span(1, 5), "59/1": set(59), "59/59": set(59), "58/01": set(58, 59), "1-7/3": set(1, 4, 7), "5-7": span(5, 7),
		})
		refuses(t, six[k], api.ErrArg, map[string]int{"60": 0, "99": 0, "60/5": 0, "0-60": 2, "59-60": 3, "1,60": 2})
	}
	reads(t, six[hour], map[string]uint64{"0": set(0), "23": set(23), "9-17": span(9, 17), "22/1,0": set(0, 22, 23), "*/6": set(0, 6, 12, 18), "20/2": set(20, 22), "7": set(7)})
	refuses(t, six[hour], api.ErrArg, map[string]int{"24": 0, "23-24": 3, "0,24": 2, "24/2": 0})
	reads(t, six[day], map[string]uint64{"1": set(1), "31": set(31), "1-31/10": set(1, 11, 21, 31), "*/10": set(1, 11, 21, 31), "*/31": set(1), "*/30": set(1, 31), "01,31": set(1, 31), "30/1": set(30, 31), "7": set(7)})
	refuses(t, six[day], api.ErrArg, map[string]int{"0": 0, "00": 0, "32": 0, "0-5": 0, "1-32": 2, "31-32": 3, "0/5": 0, "5-0": 2})
	reads(t, six[month], map[string]uint64{"1": set(1), "12": set(12), "jan-Mar,12": set(1, 2, 3, 12), "*/6": set(1, 7), "oct/1": set(10, 11, 12), "DEC": set(12), "7": set(7), "feb-11/3": set(2, 5, 8, 11), "2-NOV/3": set(2, 5, 8, 11), "JAN-DEC": span(1, 12)})
	refuses(t, six[month], api.ErrArg, map[string]int{"0": 0, "13": 0, "0-JAN": 0, "JAN-13": 4, "MAR-feb": 0, "1,MAR-feb": 2, "DEC-0": 4, "JAN/0": 4})
	reads(t, six[week], map[string]uint64{"0": set(0), "6": set(6), "1-5": span(1, 5), "sun,SAT": set(0, 6), "mon-FRI": span(1, 5), "MON/2": set(1, 3, 5), "*/2": set(0, 2, 4, 6)})
	refuses(t, six[week], api.ErrArg, map[string]int{"8": 0, "08": 0, "0-8": 2, "7-8": 2, "SUN-8": 4, "8/2": 0, "SAT-SUN": 0, "6-0": 0})
}

// P6.2: all names of the six kinds, in upper case, in lower case and in both.
func TestParseNames(t *testing.T) {
	for _, p := range kinds() {
		for i, name := range p.Names {
			low := strings.ToLower(name)
			for _, s := range []string{name, low, low[:1] + name[1:], name[:1] + low[1:], name[:len(name)-1] + low[len(name)-1:]} {
				checkParse(t, p, s, set(p.Lo+i), false, 0, api.OK)
				checkParse(t, p, s+"-"+s, set(p.Lo+i), false, 0, api.OK)
				checkParse(t, p, s+"/1", span(p.Lo+i, p.Hi), false, 0, api.OK)
				checkParse(t, p, s+",*", span(p.Lo, p.Hi), false, 0, api.OK)
				refuses(t, p, api.ErrForm, map[string]int{
					s + "QQ": 0, "QQ" + s: 0, s + s + s: 0, s + "q": 0, "*," + s + "QQ": 2, "*," + s + "-" + s + "qq": 3 + len(s),
					s + "1": len(s), s + " ": len(s), s + "*": len(s), s + "\xe9": len(s), s + "é": len(s), s + "_": len(s), s + "@": len(s), s + "[": len(s), s + "`": len(s), s + "{": len(s),
					"1" + s: 1, "*" + s: 1, "*/" + s: 2, "*/1" + s: 3, s + "/" + s: len(s) + 1, " " + s: 0, "-" + s: 0, "/" + s: 0, s + "-" + s + "-" + s: 2*len(s) + 1, s + "--" + s: len(s) + 1,
				})
			}
		}
	}
}

// P6.2: letters that are no name, or not all of one, and letters in a kind that has no names.
func TestParseNoNames(t *testing.T) {
	six := field.Specs()
	refuses(t, six[month], api.ErrForm, map[string]int{
		"JANUARY": 0, "JA": 0, "J": 0, "ja": 0, "x": 0, "SUN": 0, "1,fe": 2, "1,JANU": 2, "JAN-FE": 4, "JAN-FEBR/2": 4, "JAN-,": 4, "JAN1": 3, "JA1": 0, "JA-FEB": 0, "JA,": 0, "JA\xc3": 0, "JA ": 0, "JAN,x": 4, "JAN,,x": 4, "jan-mar,a": 8, "Jan,FEB,Marc": 8, "13,x": 3, "*/x": 2, "*/JAN": 2, "1/jan": 2, "1/2jan": 3, "1jan": 1, "12jan": 2, "123jan": 2, "*jan": 1, "JANFEB": 0, "1-x": 2,
		// Letters that only look like those of a name, or are the same in another alphabet.
		"\u0410PR": 0, "A\u0420R": 0, "\uff21PR": 0, "ma\u0443": 0, "o\u0441t": 0,
	})
	refuses(t, six[week], api.ErrForm, map[string]int{"JAN": 0, "SUNDAY": 0, "SU": 0, "MON-S": 4, "\u017fun": 0, "\u017fUN": 0, "\u017fat": 0, "5-\u017fat": 2, "SA\u0166": 0, "7,x": 2, "7x": 1})
	// S and K have other forms, which are not letters a-z or A-Z.
	own := field.Spec{Lo: 1, Hi: 2, Names: []string{"SK", "KS"}}
	reads(t, own, map[string]uint64{"sk": set(1), "Sk": set(1), "sK": set(1), "ks": set(2), "KS": set(2), "sk-ks": set(1, 2)})
	refuses(t, own, api.ErrForm, map[string]int{"s\u212a": 0, "\u017fk": 0, "\u212a\u017f": 0, "\u017f\u212a": 0, "1-\u212as": 2, "sk\u212a": 2, "k\u017f": 0})
	for _, p := range []field.Spec{six[second], six[minute], six[hour], six[day], {Lo: 0, Hi: 62}, {Lo: 0, Hi: 6, Week: true}} {
		refuses(t, p, api.ErrForm, map[string]int{"x": 0, "JAN": 0, "sun": 0, "A": 0, "z": 0, "1,x": 2, "1-x": 2, "*/x": 2, "1x": 1, "1-2x": 3, "1/2x": 3, "*x": 1, "1,SUN": 2, "x,1": 0, "99,x": 3})
	}
	// A name is read as far as there are letters, also where a shorter one would do.
	letters := field.Spec{Lo: 5, Hi: 7, Names: []string{"A", "AB", "B"}}
	reads(t, letters, map[string]uint64{"A": set(5), "AB": set(6), "B": set(7), "a-ab": set(5, 6), "ab-B": set(6, 7), "A/2": set(5, 7), "aB,a": set(5, 6)})
	refuses(t, letters, api.ErrForm, map[string]int{"ABB": 0, "BA": 0, "AA": 0, "ABA": 0, "A-ABB": 2, "A,BA": 2, "A5": 1, "AB5": 2, "ABC": 0, "C": 0, strings.Repeat("A", 100000): 0, "6," + strings.Repeat("AB", 100000): 2})
	refuses(t, letters, api.ErrArg, map[string]int{"AB-A": 0, "B-6": 0, "4-A": 0, "A-8": 2, "5,8": 2, "B-A/0": 0, "A-B/0": 4})
}

// P6.2: stars, alone and otherwise.
func TestParseStar(t *testing.T) {
	for _, p := range kinds() {
		full := span(p.Lo, p.Hi)
		lo := fmt.Sprint(p.Lo)
		checkParse(t, p, "*", full, true, 0, api.OK)
		for _, s := range []string{"*,*", "*/1", "*/01", "*," + lo, lo + ",*", "*/1,*", "*,*/2", lo + "-" + fmt.Sprint(p.Hi), lo + "/1"} {
			checkParse(t, p, s, full, false, 0, api.OK)
		}
		for n := 1; n <= 99; n++ {
			want := uint64(0)
			for v := p.Lo; v <= p.Hi; v += n {
				want |= set(v)
			}
			checkParse(t, p, fmt.Sprintf("*/%d", n), want, false, 0, api.OK)
			checkParse(t, p, fmt.Sprintf("*/%02d", n), want, false, 0, api.OK)
		}
		refuses(t, p, api.ErrArg, map[string]int{"*/0": 2, "*/00": 2, "*,*/0": 4, "*/0,*": 2})
		refuses(t, p, api.ErrForm, map[string]int{"**": 1, "*-5": 1, "*-*": 1, "*5": 1, "5*": 1, "5-*": 2, "*/*": 2, "*/": 2, "*/5/5": 3, "*,": 2, ",*": 0, "* ": 1, " *": 0, "*/100": 4, "*/-1": 2, "*/+1": 2, "*-": 1, "*/5-6": 3, "*/ 5": 2, "*\x00": 1, "*\xff": 1, "*/\xb2": 2, "*/5*": 3})
	}
}

// P6.2: where 7 is a number of a week, and where it is not.
func TestParseSeven(t *testing.T) {
	for _, p := range []field.Spec{field.Specs()[week], {Lo: 0, Hi: 6, Week: true}} {
		reads(t, p, map[string]uint64{
			"7": set(0), "07": set(0), "5-7": set(0, 5, 6), "5-07": set(0, 5, 6), "0-7": span(0, 6), "7-7": set(0), "6-7": set(0, 6), "1-7": span(0, 6), "7/2": set(0), "7/1": set(0), "7/99": set(0), "7-7/3": set(0),
			"0-7/7": set(0), "1-7/3": set(0, 1, 4), "1-7/2": set(0, 1, 3, 5), "1-7/6": set(0, 1), "2-7/2": set(2, 4, 6), "3-7/4": set(0, 3), "7,1": set(0, 1), "1,7": set(0, 1), "7,7": set(0), "7,0": set(0), "7,*": span(0, 6),
			// A single value goes on to Hi, which is 6.
			"0/7": set(0), "1/6": set(1), "1/3": set(1, 4), "6/1": set(6), "5/1": set(5, 6), "5/2": set(5), "0/1": span(0, 6), "*/7": set(0), "*/6": set(0, 6),
		})
		refuses(t, p, api.ErrArg, map[string]int{"8": 0, "08": 0, "9": 0, "10": 0, "17": 0, "77": 0, "7-0": 0, "7-3": 0, "7-6": 0, "7-8": 2, "8-7": 0, "0-8": 2, "7/0": 2, "7-7/0": 4, "5-7/0": 4, "5-7,8": 4})
		refuses(t, p, api.ErrForm, map[string]int{"007": 2, "7.": 1, "7-": 2, "7/": 2, "77-0,": 5})
	}
	checkParse(t, field.Specs()[week], "fri-7", set(0, 5, 6), false, 0, api.OK)
	checkParse(t, field.Specs()[week], "SUN-7/7", set(0), false, 0, api.OK)
	checkParse(t, field.Specs()[week], "7-SUN", 0, false, 0, api.ErrArg)
	checkParse(t, field.Specs()[week], "7-SAT", 0, false, 0, api.ErrArg)
	// Without a week, 7 is any number.
	reads(t, field.Spec{Lo: 0, Hi: 7}, map[string]uint64{"7": set(7), "5-7": span(5, 7), "0-7/7": set(0, 7), "7/2": set(7), "6/1": set(6, 7)})
	refuses(t, field.Spec{Lo: 0, Hi: 6}, api.ErrArg, map[string]int{"7": 0, "07": 0, "5-7": 2, "7/2": 0, "7-7": 0, "0,7": 2})
	refuses(t, field.Spec{Lo: 0, Hi: 0}, api.ErrArg, map[string]int{"7": 0, "0-7": 2})
	reads(t, field.Spec{Lo: 7, Hi: 7}, map[string]uint64{"7": set(7), "7-7": set(7), "7/7": set(7), "*/7": set(7), "*,7": set(7)})
	refuses(t, field.Spec{Lo: 7, Hi: 7}, api.ErrArg, map[string]int{"0": 0, "6": 0, "8": 0, "0-7": 0, "7-0": 2})
}

// P6.2: ranges and steps.
func TestParseSteps(t *testing.T) {
	m := field.Specs()[minute]
	reads(t, m, map[string]uint64{
		"5-5": set(5), "5-5/1": set(5), "5-5/9": set(5), "5-6/1": set(5, 6), "5-6/2": set(5), "5-7/2": set(5, 7), "5-8/2": set(5, 7), "5-9/2": set(5, 7, 9), "0-59/59": set(0, 59), "0-58/59": set(0), "0-59/60": set(0), "0-59/99": set(0), "3-4/99": set(3),
		"5/9": set(5, 14, 23, 32, 41, 50, 59), "5/54": set(5, 59), "5/55": set(5), "5/99": set(5), "0/1": span(0, 59), "0/59": set(0, 59), "0/60": set(0), "58/1": set(58, 59), "59/1": set(59), "0/30,15/30": set(0, 15, 30, 45), "1-2,4/40,*/50": set(0, 1, 2, 4, 44, 50), "05-09/02": set(5, 7, 9),
	})
	refuses(t, m, api.ErrArg, map[string]int{"1,7-5": 2, "7-5": 0, "1-0": 0, "59-58": 0, "59-0/5": 0, "*/0": 2, "5/0": 2, "05/00": 3, "5-9/0": 4, "5-9/00": 4, "10-19/0": 6, "*,5/0": 4})
	own := field.Spec{Lo: 0, Hi: 62}
	reads(t, own, map[string]uint64{"62": set(62), "0-62": span(0, 62), "0-62/62": set(0, 62), "*/62": set(0, 62), "*/31": set(0, 31, 62), "61/1": set(61, 62), "62/1": set(62), "0/62": set(0, 62), "*/63": set(0), "7": set(7), "0-62/99": set(0)})
	refuses(t, own, api.ErrArg, map[string]int{"63": 0, "64": 0, "65": 0, "99": 0, "0-63": 2, "62-63": 3, "63/1": 0, "63-0": 0, "99-98": 0, "0-64/64": 2})
	one := field.Spec{Lo: 62, Hi: 62}
	reads(t, one, map[string]uint64{"62": set(62), "62-62": set(62), "62/1": set(62), "62/9": set(62), "*/9": set(62), "62,62": set(62)})
	refuses(t, one, api.ErrArg, map[string]int{"0": 0, "61": 0, "63": 0, "61-62": 0, "62-63": 3, "62-61": 3, "62/0": 3})
	zero := field.Spec{}
	reads(t, zero, map[string]uint64{"0": set(0), "00": set(0), "0-0": set(0), "0/1": set(0), "*/1": set(0), "0,0": set(0)})
	refuses(t, zero, api.ErrArg, map[string]int{"1": 0, "01": 0, "0-1": 2, "1-0": 0, "0/0": 2, "7": 0})
}

// P6.2: the places at which texts stop being fields, at each place of an item.
func TestParseForm(t *testing.T) {
	for _, p := range []field.Spec{field.Specs()[second], field.Specs()[minute], {Lo: 0, Hi: 62}} {
		refuses(t, p, api.ErrForm, map[string]int{
			"": 0, "1-": 2, "5-": 2, "1/": 2, "1-2/": 4, "*/": 2, "1,": 2, "1-2,": 4, "1-2/3,": 6, "*,": 2, "*/3,": 4, "1,5-": 4, "1,*/": 4, "12-": 3, "12/": 3, "12,": 3,
			",": 0, ",1": 0, ",,": 0, "1,,2": 2, "1,,": 2, ",1,": 0, "1,2,": 4, "1,2,,3": 4, "*,,": 2, "-": 0, "/": 0, "-1": 0, "/5": 0, "+1": 0, "1-,2": 2, "1/,2": 2, "1-/2": 2, "1--2": 2, "1//2": 2, "1-2-3": 3, "1/2/3": 3, "1/2-3": 3, "1-2/3/4": 5, "1-2/3-4": 5, "1/*": 2, "1-2/*": 4, "1-*/2": 2,
			"100": 2, "000": 2, "001": 2, "0059": 2, "1-100": 4, "1-000": 4, "1/100": 4, "1-2/100": 6, "*/000": 4, "1,100": 4, "100,x": 2, "12345678901234567890": 2, "1-12345678901234567890": 4, "*/12345678901234567890": 4,
			" ": 0, " 1": 0, "1 ": 1, "1 ,2": 1, "1, 2": 2, "1 -2": 1, "1- 2": 2, "1-2 ": 3, "1/ 2": 2, "1/2 ": 3, "1\n": 1, "1\t": 1, "\n": 0, "1;2": 1, "1.5": 1, "1_0": 1, "0x1": 1, "1e1": 1, "1:2": 1, "?": 0, "#": 0, "L": 0, "1\x00": 1, "\x00": 0,
			"\xff": 0, "1\xff": 1, "1-\xff": 2, "1-2\xff": 3, "1/\xff": 2, "1/2\xff": 3, "1,\xff": 2, "*\xff": 1, "é": 0, "1é": 1, "1,é": 2, "\u0661": 0, "1\u0661": 1, "\uff11": 0, "1\u2010\u0032": 1, "1\xb2": 1, "\xb1": 0, "1\xac2": 1, "1\xad2": 1, "1\xaf2": 1, "\xaa": 0,
		})
	}
	// Bytes next to the digits and to the letters.
	m := field.Specs()[month]
	refuses(t, m, api.ErrForm, map[string]int{"@": 0, "[": 0, "`": 0, "{": 0, ":": 0, "1:": 1, "1/:": 2, "1//": 2, "JAN@": 3, "JAN[": 3, "JAN`": 3, "JAN{": 3, "1-@": 2, "1-[": 2, "1-`": 2, "1-{": 2})
	for _, p := range kinds() {
		checkParse(t, p, "", 0, false, 0, api.ErrForm)
		checkNormal(t, p, "", "", 0, api.ErrForm)
	}
}

// P6.2: which item is wrong first, and at which place; a text that is no field comes before all of them.
func TestParseOrder(t *testing.T) {
	m := field.Specs()[minute]
	refuses(t, m, api.ErrArg, map[string]int{
		// One item that is wrong in several ways.
		"70-60/0": 0, "60-70/0": 0, "60-5/0": 0, "5-60/0": 2, "5-4/0": 0, "4-5/0": 4, "60-70": 0, "70-60": 0, "99-0": 0, "0-99": 2, "60/0": 0, "5/0": 2, "59-60/0": 3, "60-59": 0,
		// Several items that are wrong: the first one counts, not the worst.
		"1,*/0,60": 4, "60,*/0": 0, "*/0,60": 2, "1-60,70": 2, "9-8,60": 0, "1,2-1,60,*/0": 2, "1,2,3,4-60,5-4": 8, "5-4,4-60": 0, "4-60,5-4": 2, "1/0,5-4,60": 2, "0,1,2,99": 6, "10,20-10/5": 3,
	})
	refuses(t, m, api.ErrForm, map[string]int{"99,x": 3, "60,": 3, "5-4,": 4, "*/0,": 4, "*/0x": 3, "60-": 3, "60/": 3, "99-98/0/": 7, "*/0,,": 4, "7-5,100": 6, "60,60,60,60,-": 12, "99x": 2, "*/0\xff": 3, "1,60,2,": 7})
	w := field.Specs()[week]
	refuses(t, w, api.ErrArg, map[string]int{"8-9/0": 0, "SAT-8/0": 4, "SAT-MON/0": 0, "MON-SAT/0": 8, "MON,8,SAT-MON": 4})
	refuses(t, w, api.ErrForm, map[string]int{"8,SU": 2, "SAT-MON,x": 8, "8-9/0/": 5})
}

// form returns how a field of a kind looks.
func form(p field.Spec) *regexp.Regexp {
	value := `[0-9][0-9]?`
	for _, name := range p.Names {
		value += "|"
		for _, c := range name {
			value += fmt.Sprintf("[%c%c]", c, c+'a'-'A')
		}
	}
	item := `(\*|(` + value + `)(-(` + value + `))?)(/[0-9][0-9]?)?`
	return regexp.MustCompile(`\A` + item + `(,` + item + `)*\z`)
}

// judge knows what Parse has to return, in the words of the chapter.
type judge struct {
	kind field.Spec
	form *regexp.Regexp
	ends []string // with one of them, each beginning of a field goes on to a field
	seen map[string]bool
}

func newJudge(p field.Spec) *judge {
	j := &judge{kind: p, form: form(p), ends: []string{"", "0"}, seen: map[string]bool{}}
	for _, name := range p.Names {
		for i := 1; i < len(name); i++ {
			j.ends = append(j.ends, name[i:])
		}
	}
	slices.Sort(j.ends)
	j.ends = slices.Compact(j.ends)
	return j
}

// begins reports whether a text is the beginning of a field.
func (j *judge) begins(s string) bool {
	is, known := j.seen[s]
	if !known {
		is = slices.ContainsFunc(j.ends, func(end string) bool { return j.form.MatchString(s + end) })
		if len(s) < 5 {
			j.seen[s] = is
		}
	}
	return is
}

func isLetter(b byte) bool {
	return b < 128 && strings.IndexByte("abcdefghijklmnopqrstuvwxyzABCDEFGHIJKLMNOPQRSTUVWXYZ", b) >= 0
}

// number returns the number of a value, and whether there is one.
func (j *judge) number(s string) (int, bool) {
	for i, name := range j.kind.Names {
		if strings.ToUpper(s) == name {
			return j.kind.Lo + i, true
		}
	}
	n, read := 0, 0
	read, _ = fmt.Sscanf(s, "%d", &n)
	return n, read == 1
}

// stops returns the place of a text that is no field.
func (j *judge) stops(s string) int {
	at := 0
	for at < len(s) && j.begins(s[:at+1]) {
		at++
	}
	from, to := at, at
	for from > 0 && isLetter(s[from-1]) {
		from--
	}
	for to < len(s) && isLetter(s[to]) {
		to++
	}
	if from < to && !slices.Contains(j.kind.Names, strings.ToUpper(s[from:to])) {
		return from
	}
	return at
}

// item returns the numbers of an item, or the place at which it is wrong, or -1.
func (j *judge) item(s string) (map[int]bool, int) {
	values, step, stepped := strings.Cut(s, "/")
	first, last, ranged := strings.Cut(values, "-")
	lo, hi := j.kind.Lo, j.kind.Hi
	if values != "*" {
		lo, _ = j.number(first)
		hi = lo
		if ranged {
			hi, _ = j.number(last)
		}
	}
	has := func(v int) bool { return v >= j.kind.Lo && v <= j.kind.Hi || v == 7 && j.kind.Week }
	by := 1
	if stepped {
		by, _ = j.number(step)
	}
	switch {
	case !has(lo):
		return nil, 0
	case !has(hi):
		return nil, len(first) + 1
	case lo > hi:
		return nil, 0
	case by == 0:
		return nil, len(values) + 1
	}
	if stepped && !ranged && hi < j.kind.Hi {
		hi = j.kind.Hi
	}
	numbers := map[int]bool{}
	for v := lo; v <= hi; v += by {
		if v == 7 && j.kind.Week {
			numbers[0] = true
		} else {
			numbers[v] = true
		}
	}
	return numbers, -1
}

// check checks Parse and Normal with a text.
func (j *judge) check(t *testing.T, s string) {
	t.Helper()
	if !j.form.MatchString(s) {
		at := j.stops(s)
		checkParse(t, j.kind, s, 0, false, at, api.ErrForm)
		checkNormal(t, j.kind, s, "", at, api.ErrForm)
		return
	}
	var want uint64
	at := 0
	for item := range strings.SplitSeq(s, ",") {
		numbers, wrong := j.item(item)
		if wrong >= 0 {
			checkParse(t, j.kind, s, 0, false, at+wrong, api.ErrArg)
			checkNormal(t, j.kind, s, "", at+wrong, api.ErrArg)
			return
		}
		for v := range numbers {
			want |= set(v)
		}
		at += len(item) + 1
	}
	checkParse(t, j.kind, s, want, s == "*", 0, api.OK)
	checkNormal(t, j.kind, s, print(want, s == "*"), 0, api.OK)
}

// print returns the text of a set.
func print(s uint64, star bool) string {
	if star {
		return "*"
	}
	text := ""
	for i, run := range bits.Runs(s) {
		if i > 0 {
			text += ","
		}
		switch lo, hi, step := run[0], run[1], run[2]; {
		case lo == hi:
			text += fmt.Sprintf("%d", lo)
		case step == 1:
			text += fmt.Sprintf("%d-%d", lo, hi)
		default:
			text += fmt.Sprintf("%d-%d/%d", lo, hi, step)
		}
	}
	return text
}

// texts calls f with all texts of up to most bytes of an alphabet.
func texts(alphabet string, most int, f func(s string)) {
	var longer func(s []byte)
	longer = func(s []byte) {
		f(string(s))
		if len(s) == most {
			return
		}
		for i := range len(alphabet) {
			longer(append(slices.Clip(s), alphabet[i]))
		}
	}
	longer(nil)
}

// chance returns a function that returns numbers below a bound, which follow a fixed rule.
func chance() func(below int) int {
	x := uint64(1)
	return func(below int) int {
		x = x*6364136223846793005 + 1442695040888963407
		return int((x >> 33) % uint64(below))
	}
}

// pieces returns parts from which texts of a kind can be put together.
func pieces(p field.Spec) []string {
	l := []string{",", ",", ",", "-", "-", "/", "/", "*", "0", "00", "1", "2", "3", "7", "07", "8", "99", fmt.Sprint(p.Lo), fmt.Sprint(p.Hi), fmt.Sprintf("%02d", p.Lo), fmt.Sprint(p.Hi + 1), fmt.Sprint((p.Lo + p.Hi) / 2)}
	for i, name := range p.Names {
		if i%8 == 0 || i == len(p.Names)-1 {
			l = append(l, name, strings.ToLower(name), name[:1]+strings.ToLower(name[1:]))
		}
	}
	return append(l, "x", "100", " ", "\xff")
}

// fields calls f with fields of a kind, and with texts that are nearly fields, which follow a fixed rule.
func fields(p field.Spec, many int, f func(s string)) {
	next := chance()
	l := pieces(p)
	good := l[7 : len(l)-4]
	for range many {
		s := ""
		for i := range 1 + next(4) {
			if i > 0 {
				s += ","
			}
			s += good[next(len(good))]
			if next(3) > 0 {
				s += "-" + good[1+next(len(good)-1)]
			}
			if next(3) == 0 {
				s += "/" + good[1+next(14)]
			}
		}
		f(s)
		// The same text with one part in another place, or in the place of a byte.
		at := next(len(s))
		f(s[:at] + l[next(len(l))] + s[at:])
		f(s[:at] + l[next(len(l))] + s[at+1:])
		f(s[:at])
	}
	for range many {
		s := ""
		for range next(9) {
			s += l[next(len(l))]
		}
		f(s)
	}
}

// P6.2, P6.4, by their definitions: all short texts of some bytes, and longer ones.
func TestParseDefinition(t *testing.T) {
	for _, p := range kinds() {
		j := newJudge(p)
		fields(p, 2000, func(s string) { j.check(t, s) })
		for b := range 256 {
			c := string([]byte{byte(b)})
			for _, s := range []string{"", "1", "1-", "1-2", "1/", "1/2", "*", "*/", "1,", "SUN", "SUN-", "JAN,", "A", "SK"} {
				j.check(t, s+c)
				j.check(t, c+s)
				j.check(t, s+c+"1")
				j.check(t, s+c+"x")
			}
		}
	}
	for _, x := range []struct {
		kind     field.Spec
		alphabet string
	}{
		{field.Specs()[minute], "0156,-/*x"},
		{field.Specs()[week], "0678,-/*\xc3"},
		{field.Spec{Lo: 5, Hi: 7, Names: []string{"A", "AB", "B"}}, "aABb56,-/"},
		{field.Spec{Lo: 1, Hi: 2, Names: []string{"SK", "KS"}}, "sK12,-/* "},
	} {
		j := newJudge(x.kind)
		texts(x.alphabet, 5, func(s string) { j.check(t, s) })
	}
}

// P6.2: all pairs of values of each kind, with and without a step.
func TestParseRanges(t *testing.T) {
	for _, p := range kinds() {
		j := newJudge(p)
		for lo := range 100 {
			j.check(t, fmt.Sprintf("%d", lo))
			j.check(t, fmt.Sprintf("%02d", lo))
			for n := range 100 {
				s := fmt.Sprintf("%d-%d", lo, n)
				if p.Lo <= lo && lo <= p.Hi || n%9 == 0 {
					j.check(t, s)
					j.check(t, fmt.Sprintf("%d/%d", lo, n))
					j.check(t, fmt.Sprintf("%s/%d", s, n%7))
				}
			}
		}
	}
}

// P6.3 at the edges that the chapter names.
func TestPrint(t *testing.T) {
	six := field.Specs()
	for _, x := range []struct {
		kind int
		s    uint64
		want string
	}{
		{minute, set(0, 15, 30, 45), "0-45/15"}, {minute, span(0, 59), "0-59"}, {minute, set(0), "0"}, {minute, set(59), "59"}, {minute, set(1, 4), "1,4"}, {minute, set(8, 9), "8-9"}, {minute, set(1, 2, 3, 9), "1-3,9"}, {minute, set(0, 2, 4, 5, 6), "0-4/2,5-6"}, {minute, set(5, 10, 15), "5-15/5"}, {minute, set(0, 59), "0,59"}, {minute, span(1, 59), "1-59"}, {minute, span(0, 58), "0-58"}, {minute, set(7), "7"},
		{minute, set(0, 1, 3, 5, 10, 20, 30, 40, 58, 59), "0-1,3,5,10-40/10,58-59"}, {second, set(0, 30), "0,30"}, {second, set(0, 29, 58), "0-58/29"}, {hour, span(0, 23), "0-23"}, {hour, set(0, 6, 12, 18), "0-18/6"}, {hour, set(23), "23"},
		{day, span(1, 31), "1-31"}, {day, set(1), "1"}, {day, set(31), "31"}, {day, set(1, 11, 21, 31), "1-31/10"}, {month, span(1, 12), "1-12"}, {month, set(1, 2, 3, 12), "1-3,12"}, {month, set(2), "2"}, {week, set(0, 1, 5, 6), "0-1,5-6"}, {week, span(0, 6), "0-6"}, {week, set(0), "0"}, {week, set(6), "6"}, {week, set(0, 2, 4, 6), "0-6/2"},
	} {
		checkPrint(t, six[x.kind], x.s, false, x.want, api.OK)
	}
	checkPrint(t, field.Spec{Lo: 0, Hi: 62}, span(0, 62), false, "0-62", api.OK)
	checkPrint(t, field.Spec{Lo: 0, Hi: 62}, set(0, 31, 62), false, "0-62/31", api.OK)
	checkPrint(t, field.Spec{Lo: 0, Hi: 62}, set(62), false, "62", api.OK)
	checkPrint(t, field.Spec{Lo: 62, Hi: 62}, set(62), false, "62", api.OK)
	checkPrint(t, field.Spec{}, set(0), false, "0", api.OK)
	for _, p := range kinds() {
		checkPrint(t, p, span(p.Lo, p.Hi), true, "*", api.OK)
	}
}

// P6.3: sets that Print refuses.
func TestPrintRefuses(t *testing.T) {
	for _, p := range kinds() {
		full := span(p.Lo, p.Hi)
		bad := []uint64{0, 1 << 63, full | 1<<63, full | 1<<(p.Hi+1), 1 << (p.Hi + 1), math.MaxUint64, ^full, set(p.Lo) | 1<<63}
		if p.Lo > 0 {
			bad = append(bad, set(p.Lo-1), full|set(p.Lo-1), set(0), full|1, set(0, p.Hi))
		}
		for _, s := range bad {
			checkPrint(t, p, s, false, "", api.ErrArg)
			checkPrint(t, p, s, true, "", api.ErrArg)
		}
		for v := range 64 {
			if p.Lo <= v && v <= p.Hi {
				checkPrint(t, p, 1<<v, false, fmt.Sprint(v), api.OK)
				checkPrint(t, p, full&^(1<<v), true, "", api.ErrArg)
				continue
			}
			for _, star := range []bool{false, true} {
				checkPrint(t, p, 1<<v, star, "", api.ErrArg)
				checkPrint(t, p, full|1<<v, star, "", api.ErrArg)
			}
		}
	}
}

// sets returns sets of a kind that follow a fixed rule: thin ones, thick ones, and regular ones.
func sets(p field.Spec, many int) []uint64 {
	next := chance()
	full := span(p.Lo, p.Hi)
	l := []uint64{full}
	for range many {
		s, other := uint64(0), uint64(0)
		for v := range 64 {
			s |= uint64(next(2)) << v
			other |= uint64(next(2)) << v
		}
		l = append(l, s&full, s&other&full, (s|other)&full)
		by := 1 + next(9)
		from := p.Lo + next(p.Hi-p.Lo+1)
		for v := from; v <= p.Hi; v += by {
			l = append(l, span(from, v)&full, l[len(l)-1]|set(v))
		}
	}
	return slices.DeleteFunc(l, func(s uint64) bool { return s == 0 })
}

// P6.3, P6.6: what Print writes, by its definition, is read as the same set, and the same star; and it is its own normal text.
func TestPrintDefinition(t *testing.T) {
	for _, p := range kinds() {
		for _, s := range sets(p, 300) {
			want := print(s, false)
			checkPrint(t, p, s, false, want, api.OK)
			checkParse(t, p, want, s, false, 0, api.OK)
			checkNormal(t, p, want, want, 0, api.OK)
		}
		checkParse(t, p, "*", span(p.Lo, p.Hi), true, 0, api.OK)
		checkNormal(t, p, "*", "*", 0, api.OK)
	}
}

// P6.4 at the edges that the chapter names.
func TestNormal(t *testing.T) {
	six := field.Specs()
	for _, x := range []struct {
		kind    int
		s, want string
	}{
		{week, "fri-7,MON", "0-1,5-6"}, {week, "7", "0"}, {week, "0-7", "0-6"}, {week, "*", "*"}, {week, "*,7", "0-6"}, {week, "SUN-SAT", "0-6"}, {week, "5-7", "0,5-6"}, {week, "7/2", "0"},
		{minute, "*", "*"}, {minute, "*,5", "0-59"}, {minute, "*/1", "0-59"}, {minute, "*/15", "0-45/15"}, {minute, "0,5-7", "0,5-7"}, {minute, "50/5", "50,55"}, {minute, "05", "5"}, {minute, "9,8,7", "7-9"}, {minute, "3,1", "1,3"}, {minute, "*/59", "0,59"}, {minute, "0/30", "0,30"}, {minute, "5,5,5", "5"},
		{month, "jan-Mar,12", "1-3,12"}, {month, "DEC", "12"}, {month, "*/6", "1,7"}, {month, "*/1", "1-12"}, {day, "*", "*"}, {day, "1-31", "1-31"}, {hour, "09-17", "9-17"}, {second, "*/20", "0-40/20"},
	} {
		checkNormal(t, six[x.kind], x.s, x.want, 0, api.OK)
	}
	refuses(t, six[minute], api.ErrForm, map[string]int{"5-": 2, "1,,2": 2, "x": 0, "100": 2, "": 0, "99,x": 3})
	refuses(t, six[minute], api.ErrArg, map[string]int{"60": 0, "1,7-5": 2, "*/0": 2})
}

// P6.5.
func TestName(t *testing.T) {
	for _, p := range append(kinds(), field.Specs()...) {
		for v := -70; v <= 140; v++ {
			switch {
			case v < p.Lo || v > p.Hi:
				checkName(t, p, v, "", api.ErrRange)
			case len(p.Names) == 0:
				checkName(t, p, v, "", api.ErrNone)
			default:
				checkName(t, p, v, p.Names[v-p.Lo], api.OK)
			}
		}
		for _, v := range []int{math.MinInt, math.MinInt + 1, math.MinInt + p.Lo, -1 << 32, 1 << 32, 1<<32 + p.Lo, 1<<32 + p.Hi, math.MaxInt - 1, math.MaxInt} {
			checkName(t, p, v, "", api.ErrRange)
		}
	}
	six := field.Specs()
	checkName(t, six[month], 1, "JAN", api.OK)
	checkName(t, six[month], 2, "FEB", api.OK)
	checkName(t, six[month], 12, "DEC", api.OK)
	checkName(t, six[month], 0, "", api.ErrRange)
	checkName(t, six[month], 13, "", api.ErrRange)
	checkName(t, six[week], 0, "SUN", api.OK)
	checkName(t, six[week], 6, "SAT", api.OK)
	checkName(t, six[week], 7, "", api.ErrRange)
	checkName(t, six[minute], 2, "", api.ErrNone)
	checkName(t, six[minute], 60, "", api.ErrRange)
	checkName(t, six[day], 0, "", api.ErrRange)
	checkName(t, field.Spec{Lo: 3, Hi: 3, Names: []string{}}, 3, "", api.ErrNone)
}

// P6.6: Normal of a normal field is this field, and is read as the same set.
func TestNormalAgain(t *testing.T) {
	for _, p := range kinds() {
		fields(p, 1000, func(s string) {
			want, star, _, err := field.Parse(p, s)
			if err != api.OK {
				return
			}
			text, _, _ := field.Normal(p, s)
			checkParse(t, p, text, want, star, 0, api.OK)
			checkNormal(t, p, text, text, 0, api.OK)
		})
	}
}

// P6.7: the set of two fields with a comma between them has the numbers of both.
func TestTwoFields(t *testing.T) {
	for _, p := range kinds() {
		before, sum := "*", span(p.Lo, p.Hi)
		fields(p, 1000, func(s string) {
			one, _, at, err := field.Parse(p, s)
			if err != api.OK {
				checkParse(t, p, before+","+s, 0, false, len(before)+1+at, err)
				return
			}
			checkParse(t, p, before+","+s, sum|one, false, 0, api.OK)
			checkParse(t, p, s+","+before, sum|one, false, 0, api.OK)
			before, sum = s, one
		})
	}
}

// P6.7: the letters of a name may be in either case, and its number can be written instead.
func TestNamesOrNumbers(t *testing.T) {
	word := regexp.MustCompile(`[A-Za-z]+`)
	for _, p := range kinds() {
		if len(p.Names) == 0 {
			continue
		}
		next := chance()
		fields(p, 1000, func(s string) {
			want, star, _, err := field.Parse(p, s)
			if err != api.OK {
				return
			}
			mixed := []byte(s)
			for i, b := range mixed {
				if isLetter(b) && next(2) == 0 {
					mixed[i] = b ^ 32
				}
			}
			plain := word.ReplaceAllStringFunc(s, func(name string) string {
				return fmt.Sprint(p.Lo + slices.Index(p.Names, strings.ToUpper(name)))
			})
			for _, other := range []string{string(mixed), strings.ToUpper(s), strings.ToLower(s), plain} {
				checkParse(t, p, other, want, star, 0, api.OK)
			}
		})
	}
}

// P6.8: behind a byte at the place of an ErrForm that is no letter, it does not matter what stands.
func TestBehindThePlace(t *testing.T) {
	tails := []string{"", "x", "JAN", ",", "-", "/", "*", "0", "99", ",99", ",*/0", " ", "\n", "\xff", "é", "\x00", ",x,", strings.Repeat("9", 1000), strings.Repeat(",", 1000)}
	for _, p := range kinds() {
		fields(p, 500, func(s string) {
			_, _, at, err := field.Parse(p, s)
			if err != api.ErrForm || at == len(s) || isLetter(s[at]) {
				return
			}
			for _, tail := range tails {
				checkParse(t, p, s[:at+1]+tail, 0, false, at, api.ErrForm)
			}
		})
	}
}

// P1: long texts, of fields and of others.
func TestLongTexts(t *testing.T) {
	six := field.Specs()
	const many = 1 << 18
	checkParse(t, six[minute], strings.Repeat("1,", many)+"2", set(1, 2), false, 0, api.OK)
	checkParse(t, six[minute], strings.Repeat("1,", many), 0, false, 2*many, api.ErrForm)
	checkParse(t, six[minute], strings.Repeat("60,", many)+"2", 0, false, 0, api.ErrArg)
	checkParse(t, six[minute], "2,"+strings.Repeat("60,", many), 0, false, 3*many+2, api.ErrForm)
	checkParse(t, six[minute], strings.Repeat("1,", many)+"60", 0, false, 2*many, api.ErrArg)
	checkParse(t, six[minute], strings.Repeat("*/15,", many)+"0-59/0", 0, false, 5*many+5, api.ErrArg)
	checkParse(t, six[month], strings.Repeat("JAN-MAR/2,", many)+"dec", set(1, 3, 12), false, 0, api.OK)
	checkParse(t, six[week], strings.Repeat("5-7,", many)+"MON", set(0, 1, 5, 6), false, 0, api.OK)
	for b := range 256 {
		s := strings.Repeat(string([]byte{byte(b)}), many)
		place := 0
		switch {
		case b == '*':
			place = 1
		case '0' <= b && b <= '9':
			place = 2
		}
		for _, p := range six {
			checkParse(t, p, s, 0, false, place, api.ErrForm)
			checkNormal(t, p, s, "", place, api.ErrForm)
		}
	}
}

// R4: Specs shares no memory, and no call changes the names of a kind, or looks behind their end.
func TestMemory(t *testing.T) {
	for _, p := range field.Specs() {
		clear(p.Names)
		_ = append(p.Names, "X")
	}
	first := field.Specs()
	clear(first)
	TestSpecs(t)
	specs := field.Specs()
	names := slices.Clone(specs[week].Names)
	_ = append(specs[month].Names, "X", "Y", "Z")
	if !slices.Equal(specs[week].Names, names) {
		t.Errorf("the names of two kinds share memory: %q", specs[week].Names)
	}
	long := []string{"A", "B", "C", "C", "", "x"}
	p := field.Spec{Lo: 1, Hi: 3, Names: long[:3]}
	field.Check(p)
	field.Full(p)
	checkParse(t, p, "a-C", span(1, 3), false, 0, api.OK)
	checkPrint(t, p, set(1, 3), false, "1,3", api.OK)
	checkNormal(t, p, "c,b", "2-3", 0, api.OK)
	checkName(t, p, 2, "B", api.OK)
	if !slices.Equal(long, []string{"A", "B", "C", "C", "", "x"}) {
		t.Errorf("the names are changed to %q", long)
	}
	p.Names = long[:0]
	checkParse(t, p, "a", 0, false, 0, api.ErrForm)
	checkName(t, p, 2, "", api.ErrNone)
}

// P1, R8: all calls return, for all arguments, and return the same again.
func TestEveryArgument(t *testing.T) {
	type results struct {
		parsed, full                       uint64
		star                               bool
		parsedAt, normalAt                 int
		printed, normal, name              string
		err1, err2, err3, err4, err5, err6 api.Errno
	}
	call := func(p field.Spec, s string, set uint64, star bool, v int) (r results) {
		r.parsed, r.star, r.parsedAt, r.err1 = field.Parse(p, s)
		r.printed, r.err2 = field.Print(p, set, star)
		r.normal, r.normalAt, r.err3 = field.Normal(p, s)
		r.full, r.err4 = field.Full(p)
		r.name, r.err5 = field.Name(p, v)
		r.err6 = field.Check(p)
		return r
	}
	for _, p := range append(kinds(), wrongKinds()...) {
		for i, s := range []string{"", "*", "5", "5-7", "7/2", "1,x", "99", "sun", "A-B", "\xff", "1,,", strings.Repeat("1,", 1000)} {
			for _, v := range []int{0, 1, 7, 62, 63, -1, math.MaxInt, math.MinInt} {
				if one, two := call(p, s, uint64(v), i%2 == 0, v), call(p, s, uint64(v), i%2 == 0, v); one != two {
					t.Errorf("the calls with %s, %.200q and %d return %v, and then %v", show(p), s, v, one, two)
				}
			}
		}
	}
}
