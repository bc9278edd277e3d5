package expr_test

import (
	"fmt"
	"math"
	"regexp"
	"slices"
	"strings"
	"testing"

	"wakeman/api"
	"wakeman/expr"
	"wakeman/field"
)

// The full fields, in the words of chapter 6.
const (
	sixty  uint64 = 1<<60 - 1
	hours  uint64 = 1<<24 - 1
	days   uint64 = 1<<32 - 1<<1
	months uint64 = 1<<13 - 1<<1
	weeks  uint64 = 1<<7 - 1
)

// The indexes of the fields.
const (
	second = iota
	minute
	hour
	day
	month
	week
	many
)

// full are the full fields.
func full() [many]uint64 {
	return [many]uint64{sixty, sixty, hours, days, months, weeks}
}

// set returns the set of some numbers.
func set(l ...int) uint64 {
	var s uint64
	for _, v := range l {
		s |= 1 << v
	}
	return s
}

// span returns the set of the numbers from lo to hi.
func span(lo, hi int) uint64 {
	var s uint64
	for v := lo; v <= hi; v++ {
		s |= 1 << v
	}
	return s
}

// at returns a field of an expression.
func at(x *api.Expr, i int) *uint64 {
	switch i {
	case second:
		return &x.Second
	case minute:
		return &x.Minute
	case hour:
		return &x.Hour
	case day:
		return &x.Day
	case month:
		return &x.Month
	}
	return &x.Week
}

// show returns what an expression is.
func show(x api.Expr) string {
	s := ""
	for i := range many {
		s += fmt.Sprintf("%#x ", *at(&x, i))
	}
	return s + fmt.Sprint(x.AnyDay, x.AnyWeek)
}

// chance returns a function that returns numbers below a bound, which follow a fixed rule.
func chance() func(below int) int {
	x := uint64(7)
	return func(below int) int {
		x = x*6364136223846793005 + 1442695040888963407
		return int((x >> 33) % uint64(below))
	}
}

func checkParse(t *testing.T, s string, want api.Expr, place int, err api.Errno) {
	t.Helper()
	if x, at, e := expr.Parse(s); x != want || at != place || e != err {
		t.Errorf("Parse(%.200q) = %s, %d, %d, want %s, %d, %d", s, show(x), at, e, show(want), place, err)
	}
}

func checkNormal(t *testing.T, s, want string, place int, err api.Errno) {
	t.Helper()
	if text, at, e := expr.Normal(s); text != want || at != place || e != err {
		t.Errorf("Normal(%.200q) = %q, %d, %d, want %q, %d, %d", s, text, at, e, want, place, err)
	}
}

func checkPrint(t *testing.T, x api.Expr, want string, err api.Errno) {
	t.Helper()
	if text, e := expr.Print(x); text != want || e != err {
		t.Errorf("Print(%s) = %q, %d, want %q, %d", show(x), text, e, want, err)
	}
}

func checkMacro(t *testing.T, s string, want api.Expr, ok bool) {
	t.Helper()
	if x, is := expr.Macro(s); x != want || is != ok {
		t.Errorf("Macro(%.200q) = %s, %t, want %s, %t", s, show(x), is, show(want), ok)
	}
}

func checkEqual(t *testing.T, a, b api.Expr, want bool) {
	t.Helper()
	if is := expr.Equal(a, b); is != want {
		t.Errorf("Equal(%s, %s) = %t", show(a), show(b), is)
	}
}

func checkBoth(t *testing.T, a, b, want api.Expr, ok bool, err api.Errno) {
	t.Helper()
	if x, is, e := expr.Both(a, b); x != want || is != ok || e != err {
		t.Errorf("Both(%s, %s) = %s, %t, %d, want %s, %t, %d", show(a), show(b), show(x), is, e, show(want), ok, err)
	}
}

func checkSeconds(t *testing.T, x api.Expr, want int, err api.Errno) {
	t.Helper()
	if n, e := expr.Seconds(x); n != want || e != err {
		t.Errorf("Seconds(%s) = %d, %d, want %d, %d", show(x), n, e, want, err)
	}
}

// refuses checks texts that Parse and Normal refuse with one error, each at a place; none of them is a macro.
func refuses(t *testing.T, err api.Errno, texts map[string]int) {
	t.Helper()
	for s, place := range texts {
		checkParse(t, s, api.Expr{}, place, err)
		checkNormal(t, s, "", place, err)
		checkMacro(t, s, api.Expr{}, false)
	}
}

// parsed returns the expression of a text, which has to be one.
func parsed(t *testing.T, s string) api.Expr {
	t.Helper()
	x, at, err := expr.Parse(s)
	if at != 0 || err != api.OK {
		t.Fatalf("Parse(%q) returns %d, %d", s, at, err)
	}
	return x
}

// P7.2: ordinary texts, with five words and with six.
func TestParse(t *testing.T) {
	for s, want := range map[string]api.Expr{
		"*/15 9-17 * * 1-5":                 {Second: set(0), Minute: set(0, 15, 30, 45), Hour: span(9, 17), Day: days, Month: months, Week: span(1, 5), AnyDay: true},
		"0 0 13 * 5":                        {Second: set(0), Minute: set(0), Hour: set(0), Day: set(13), Month: months, Week: set(5)},
		"0 0 13 * *":                        {Second: set(0), Minute: set(0), Hour: set(0), Day: set(13), Month: months, Week: weeks, AnyWeek: true},
		"0 0 * * 5":                         {Second: set(0), Minute: set(0), Hour: set(0), Day: days, Month: months, Week: set(5), AnyDay: true},
		"* * * * *":                         {Second: set(0), Minute: sixty, Hour: hours, Day: days, Month: months, Week: weeks, AnyDay: true, AnyWeek: true},
		"* * * * * *":                       {Second: sixty, Minute: sixty, Hour: hours, Day: days, Month: months, Week: weeks, AnyDay: true, AnyWeek: true},
		"0 * * * * *":                       {Second: set(0), Minute: sixty, Hour: hours, Day: days, Month: months, Week: weeks, AnyDay: true, AnyWeek: true},
		"1 2 3 4 5 6":                       {Second: set(1), Minute: set(2), Hour: set(3), Day: set(4), Month: set(5), Week: set(6)},
		"2 3 4 5 6":                         {Second: set(0), Minute: set(2), Hour: set(3), Day: set(4), Month: set(5), Week: set(6)},
		"0 0 0 1 1 0":                       {Second: set(0), Minute: set(0), Hour: set(0), Day: set(1), Month: set(1), Week: set(0)},
		"59 59 23 31 12 6":                  {Second: set(59), Minute: set(59), Hour: set(23), Day: set(31), Month: set(12), Week: set(6)},
		"59 23 31 12 7":                     {Second: set(0), Minute: set(59), Hour: set(23), Day: set(31), Month: set(12), Week: set(0)},
		"0 0 1 JAN sun":                     {Second: set(0), Minute: set(0), Hour: set(0), Day: set(1), Month: set(1), Week: set(0)},
		"5,6 7-9 */6 10/10 feb-Apr fri-7":   {Second: set(5, 6), Minute: span(7, 9), Hour: set(0, 6, 12, 18), Day: set(10, 20, 30), Month: span(2, 4), Week: set(0, 5, 6)},
		"0-59 0-59 0-23 1-31 1-12 0-6":      {Second: sixty, Minute: sixty, Hour: hours, Day: days, Month: months, Week: weeks},
		"0-59 0-23 1-31 1-12 0-6":           {Second: set(0), Minute: sixty, Hour: hours, Day: days, Month: months, Week: weeks},
		"*/1 */1 */1 */1 */1 */1":           {Second: sixty, Minute: sixty, Hour: hours, Day: days, Month: months, Week: weeks},
		"*,1 *,1 *,1 *,1 *,1 *,1":           {Second: sixty, Minute: sixty, Hour: hours, Day: days, Month: months, Week: weeks},
		"*,* *,* *,* *,* *,*":               {Second: set(0), Minute: sixty, Hour: hours, Day: days, Month: months, Week: weeks},
		"0 0 1-31 * *":                      {Second: set(0), Minute: set(0), Hour: set(0), Day: days, Month: months, Week: weeks, AnyWeek: true},
		"0 0 * * 0-6":                       {Second: set(0), Minute: set(0), Hour: set(0), Day: days, Month: months, Week: weeks, AnyDay: true},
		"0 0 */1 * SUN-SAT":                 {Second: set(0), Minute: set(0), Hour: set(0), Day: days, Month: months, Week: weeks},
		"0 0 */2 * *":                       {Second: set(0), Minute: set(0), Hour: set(0), Day: 0xAAAAAAAA, Month: months, Week: weeks, AnyWeek: true},
		"0 0 * * */2":                       {Second: set(0), Minute: set(0), Hour: set(0), Day: days, Month: months, Week: set(0, 2, 4, 6), AnyDay: true},
		"* 0 0 1 1 1":                       {Second: sixty, Minute: set(0), Hour: set(0), Day: set(1), Month: set(1), Week: set(1)},
		"0 * 0 1 1 1":                       {Second: set(0), Minute: sixty, Hour: set(0), Day: set(1), Month: set(1), Week: set(1)},
		"0 0 * 1 1 1":                       {Second: set(0), Minute: set(0), Hour: hours, Day: set(1), Month: set(1), Week: set(1)},
		"0 0 0 * 1 1":                       {Second: set(0), Minute: set(0), Hour: set(0), Day: days, Month: set(1), Week: set(1), AnyDay: true},
		"0 0 0 1 * 1":                       {Second: set(0), Minute: set(0), Hour: set(0), Day: set(1), Month: months, Week: set(1)},
		"0 0 0 1 1 *":                       {Second: set(0), Minute: set(0), Hour: set(0), Day: set(1), Month: set(1), Week: weeks, AnyWeek: true},
		"00 00 00 01 01 00":                 {Second: set(0), Minute: set(0), Hour: set(0), Day: set(1), Month: set(1), Week: set(0)},
		"30 0 0 1 1 *":                      {Second: set(30), Minute: set(0), Hour: set(0), Day: set(1), Month: set(1), Week: weeks, AnyWeek: true},
		"0,0 0 29 2 *":                      {Second: set(0), Minute: set(0), Hour: set(0), Day: set(29), Month: set(2), Week: weeks, AnyWeek: true},
		"0 0 30 FEB *":                      {Second: set(0), Minute: set(0), Hour: set(0), Day: set(30), Month: set(2), Week: weeks, AnyWeek: true},
		"10-20/5 1-3,50 22/1 1,15,31 */6 7": {Second: set(10, 15, 20), Minute: set(1, 2, 3, 50), Hour: set(22, 23), Day: set(1, 15, 31), Month: set(1, 7), Week: set(0)},
	} {
		checkParse(t, s, want, 0, api.OK)
		checkMacro(t, s, api.Expr{}, false)
	}
}

// spaced calls f with texts that have some words and different blanks before, between and behind them, and with the places of the words.
func spaced(l []string, f func(s string, places []int)) {
	for _, x := range [][3]string{
		{"", " ", ""}, {" ", " ", ""}, {"", " ", " "}, {" ", " ", " "}, {"", "\t", ""}, {"\t", "\t", "\t"}, {"", "  ", ""}, {"", "\t\t", ""}, {"", " \t", ""}, {"", "\t ", ""},
		{" \t", "\t \t", "\t "}, {"\t\t\t ", "    ", "  \t\t"}, {"   ", " ", ""}, {"", " ", "\t\t\t"}, {strings.Repeat(" \t", 100), strings.Repeat("\t ", 50), strings.Repeat(" ", 300)},
	} {
		s := x[0]
		var places []int
		for i, w := range l {
			if i > 0 {
				s += x[1]
			}
			places = append(places, len(s))
			s += w
		}
		f(s+x[2], places)
	}
}

// P7.2: blanks and tabs before, between and behind the words do not matter.
func TestParseBlanks(t *testing.T) {
	for _, s := range []string{"*/15 9-17 * * 1-5", "0 0 13 * 5", "* * * * * *", "* * * * *", "1 2 3 4 5 6", "0 0 1 JAN sun", "5,6 7-9 */6 10/10 feb-Apr fri-7"} {
		want := parsed(t, s)
		text, _, _ := expr.Normal(s)
		spaced(strings.Fields(s), func(s string, _ []int) {
			checkParse(t, s, want, 0, api.OK)
			checkNormal(t, s, text, 0, api.OK)
		})
	}
	// Just spaces and tabs are blanks; all other bytes belong to words.
	for b := range 256 {
		c := string([]byte{byte(b)})
		switch {
		case b == ' ' || b == '\t':
			checkParse(t, "1"+c+"2"+c+"3"+c+"4"+c+"5"+c+"6", api.Expr{Second: set(1), Minute: set(2), Hour: set(3), Day: set(4), Month: set(5), Week: set(6)}, 0, api.OK)
			refuses(t, api.ErrForm, map[string]int{c: 1, c + c: 2, "*" + c + "*": 3})
		case b == '@':
			refuses(t, api.ErrForm, map[string]int{c: 0, c + c: 0, "*" + c + "*": 3, c + " " + c: 3, c + " * * * * ": 0, " * * * * *" + c: 10})
		default:
			refuses(t, api.ErrForm, map[string]int{c: 1, c + c: 2, "1" + c + "2" + c + "3" + c + "4" + c + "5": 9, "* * * *" + c + "*": 9, c + " * * * ": 8, "* * * * * * " + c: 12})
		}
	}
	for _, s := range []string{"\n", "\r", "\v", "\f", "\x00", "\u0085", "\u00a0", "\u2003", "\u3000", "\x85", "\xa0"} {
		refuses(t, api.ErrForm, map[string]int{
			s: len(s), s + s: 2 * len(s), s + "* * * * *": 0, "* * * * *" + s: 9, "* *" + s + "* * * *": 3, "*" + s + "* * * * *": 1, "*" + s + "* * * *": 8 + len(s), "* * * *" + s + "* *": 7, "* " + s + " * * *": 2, "* * * * * " + s: 10, "* * * * * * " + s: 12, "@daily" + s: 0, s + "@daily": 6 + len(s), "@daily " + s: 7 + len(s),
		})
	}
}

// P7.2: texts of too few and of too many words.
func TestParseCount(t *testing.T) {
	refuses(t, api.ErrForm, map[string]int{
		"": 0, " ": 1, "\t": 1, " \t": 2, "    ": 4, strings.Repeat("\t ", 500): 1000,
		"*": 1, "0": 1, "daily": 5, "x": 1, "* *": 3, "* * *": 5, "* * * *": 7, " * * * *": 8, "* * * * ": 8, "\t*  *\t\t* * \t ": 13, "x x x x": 7, "99 99 99 99": 11, "60": 2, "*****": 5, "*,*,*,*,*": 9, "*_*_*_*_*": 9,
		"* * * * * * *": 12, "1 2 3 4 5 6 7": 12, "* * * * * * * *": 12, "  * * * * * *   *": 16, "* * * * * *\t*\t": 12, "x x x x x x x": 12, "99 99 99 99 99 99 99": 18, "* * * * * * @daily": 12, "* * * * * * \xff": 12, "1 2 3 4 5 6 x 60 @": 12, "0 0 0 1 1 * 2026": 12, "* * * * * * #": 12,
	})
	for n := range 12 {
		for _, w := range []string{"*", "1", "x", "60", "1,x", "JAN", "\xff", "*/15", "a@daily", "@daily"} {
			l := slices.Repeat([]string{w}, n)
			spaced(l, func(s string, places []int) {
				switch {
				case n == 1 && w == "@daily":
					checkParse(t, s, parsed(t, "0 0 * * *"), 0, api.OK)
				case n < 5:
					refuses(t, api.ErrForm, map[string]int{s: len(s)})
				case n > 6:
					refuses(t, api.ErrForm, map[string]int{s: places[6]})
				}
			})
		}
	}
}

// wrongWord is a word that is wrong in a field: its error, and the place in it.
type wrongWord struct {
	text  string
	err   api.Errno
	place int
}

// wrongWords are words that are wrong in each of the six fields.
func wrongWords() [many][]wrongWord {
	var l [many][]wrongWord
	for i := range many {
		l[i] = []wrongWord{{"x", api.ErrForm, 0}, {"1,x", api.ErrForm, 2}, {"1-", api.ErrForm, 2}, {"1,2,", api.ErrForm, 4}, {"**", api.ErrForm, 1}, {"*/", api.ErrForm, 2}, {"100", api.ErrForm, 2}, {"99,x", api.ErrForm, 3}, {"@daily", api.ErrForm, 0}, {"*/0", api.ErrArg, 2}, {"1,99", api.ErrArg, 2}, {"1,2,3-2,x9", api.ErrForm, 8}, {"1,2,3-2,99", api.ErrArg, 4}, {"1-99", api.ErrArg, 2}}
	}
	more := [many][]wrongWord{
		{{"60", api.ErrArg, 0}, {"0-60", api.ErrArg, 2}, {"JAN", api.ErrForm, 0}},
		{{"60", api.ErrArg, 0}, {"59,0-60", api.ErrArg, 5}, {"SUN", api.ErrForm, 0}},
		{{"24", api.ErrArg, 0}, {"23,24", api.ErrArg, 3}, {"5,sun", api.ErrForm, 2}},
		{{"0", api.ErrArg, 0}, {"32", api.ErrArg, 0}, {"31,0-4", api.ErrArg, 3}, {"1-mon", api.ErrForm, 2}},
		{{"0", api.ErrArg, 0}, {"13", api.ErrArg, 0}, {"12,13", api.ErrArg, 3}, {"SUN", api.ErrForm, 0}, {"JAN,JANUARY", api.ErrForm, 4}, {"MAR-feb", api.ErrArg, 0}},
		{{"8", api.ErrArg, 0}, {"6,8", api.ErrArg, 2}, {"JAN", api.ErrForm, 0}, {"SUN,SUNDAY", api.ErrForm, 4}, {"SAT-SUN", api.ErrArg, 0}, {"7,0-8", api.ErrArg, 4}},
	}
	for i := range many {
		l[i] = append(l[i], more[i]...)
	}
	return l
}

// P7.2: the places of a word that is wrong, and in it, in each of the six fields, with five words and with six.
func TestParsePlaces(t *testing.T) {
	refuses(t, api.ErrArg, map[string]int{"0 24 * * *": 2, "60 * * * *": 0, "0 0 0 * *": 4, "0 0 1 13 *": 6, "0 0 1 1 8": 8, "60 0 0 1 1 *": 0, "0 60 0 1 1 *": 2, "0 0 24 1 1 *": 4, "0 0 0 32 1 *": 6, "0 0 0 1 0 *": 8, "0 0 0 1 1 8": 10, "60 x * * *": 0, " \t0 5,24 x * *": 6, "1 1 1 1-32 * *": 8})
	refuses(t, api.ErrForm, map[string]int{"0 0  x * *": 5, "x 60 * * *": 0, "0 0 1 1 1x": 9, "0 0 1 1 7-": 10, "0 0 1 1 7- ": 10, "0 0 1 1 7,\t": 10, "1 2 3 4 5 -6": 10, "@daily * * * *": 0, "* * * * @daily": 8, "@daily @daily @daily @daily @daily": 0, "@ @ @ @ @ @": 0})
	for i, l := range wrongWords() {
		for _, w := range l {
			for _, good := range []string{"*", "1", "1-3", "1,3,5"} {
				words := slices.Repeat([]string{good}, many)
				words[i] = w.text
				spaced(words, func(s string, places []int) {
					refuses(t, w.err, map[string]int{s: places[i] + w.place})
				})
				if i > second {
					spaced(words[1:], func(s string, places []int) {
						refuses(t, w.err, map[string]int{s: places[i-1] + w.place})
					})
				}
			}
		}
	}
}

// P7.2: of several words that are wrong the first one counts; all of that comes behind the number of words.
func TestParseOrder(t *testing.T) {
	wrong := wrongWords()
	for i := range many {
		for j := i + 1; j < many; j++ {
			for _, one := range wrong[i] {
				for _, two := range wrong[j] {
					words := slices.Repeat([]string{"1-2"}, many)
					words[i], words[j] = one.text, two.text
					s := strings.Join(words, " ")
					refuses(t, one.err, map[string]int{s: len(strings.Join(words[:i], " ")) + min(i, 1) + one.place})
					if i > second {
						refuses(t, one.err, map[string]int{s[4:]: len(strings.Join(words[:i], " ")) - 3 + one.place})
					}
					refuses(t, api.ErrForm, map[string]int{s + " *": len(s) + 1})
				}
			}
		}
	}
	refuses(t, api.ErrArg, map[string]int{"60 60 24 0 0 8": 0, "60 24 0 0 8": 0, "1 60 x 0 x 8": 2, "1 1 24 x x x": 4, "1 1 1 32 x x": 6, "1 1 1 1 13 x": 8, "*/0 x x x x": 2})
	refuses(t, api.ErrForm, map[string]int{"x 60 24 0 0 8": 0, "1 x 24 0 0 8": 2, "1 1 x 0 0 8": 4, "1 1 1 x 0 8": 6, "1 1 1 1 x 8": 8, "1 1 1 1 1 x": 10, "99,x 60 60 60 60": 3, "60 60 60 60": 11, "60 x": 4, "60 60 60 60 60 60 60": 18})
}

// macros are the macros, with the texts of their expressions, in the words of the chapter.
func macros() map[string]string {
	return map[string]string{"@yearly": "0 0 1 1 *", "@annually": "0 0 1 1 *", "@monthly": "0 0 1 * *", "@weekly": "0 0 * * 0", "@daily": "0 0 * * *", "@midnight": "0 0 * * *", "@hourly": "0 * * * *", "@minutely": "* * * * *", "@secondly": "* * * * * *"}
}

// P7.5, P7.2: what the macros stand for.
func TestMacros(t *testing.T) {
	base := api.Expr{Second: set(0), Minute: set(0), Hour: set(0), Day: days, Month: months, Week: weeks, AnyDay: true, AnyWeek: true}
	wants := map[string]func(x *api.Expr){
		"@yearly":   func(x *api.Expr) { x.Day, x.Month, x.AnyDay = set(1), set(1), false },
		"@annually": func(x *api.Expr) { x.Day, x.Month, x.AnyDay = set(1), set(1), false },
		"@monthly":  func(x *api.Expr) { x.Day, x.AnyDay = set(1), false },
		"@weekly":   func(x *api.Expr) { x.Week, x.AnyWeek = set(0), false },
		"@daily":    func(x *api.Expr) {},
		"@midnight": func(x *api.Expr) {},
		"@hourly":   func(x *api.Expr) { x.Hour = hours },
		"@minutely": func(x *api.Expr) { x.Hour, x.Minute = hours, sixty },
		"@secondly": func(x *api.Expr) { x.Hour, x.Minute, x.Second = hours, sixty, sixty },
	}
	for s, text := range macros() {
		want := base
		wants[s](&want)
		checkMacro(t, s, want, true)
		checkParse(t, s, want, 0, api.OK)
		checkParse(t, text, want, 0, api.OK)
		checkNormal(t, s, text, 0, api.OK)
		checkPrint(t, want, text, api.OK)
		spaced([]string{s}, func(s string, places []int) {
			checkParse(t, s, want, 0, api.OK)
			checkNormal(t, s, text, 0, api.OK)
			if s != strings.TrimSpace(s) {
				checkMacro(t, s, api.Expr{}, false)
			}
		})
	}
}

// P7.5, P7.2: words that begin with @ and are no macro, and macros with further words.
func TestNoMacros(t *testing.T) {
	refuses(t, api.ErrForm, map[string]int{
		"@never": 0, "@": 0, "@@": 0, "@@daily": 0, "@DAILY": 0, "@Daily": 0, "@reboot": 0, "@year": 0, "@annual": 0, "@month": 0, "@week": 0, "@day": 0, "@hour": 0, "@minute": 0, "@second": 0, "@every": 0, "@noon": 0, "@daily,": 0, "@daily,@daily": 0, "@d\xffaily": 0, "@0": 0, "@*": 0, "@\u0430nnually": 0,
		"  @never ": 2, "\t@": 1, " \t @DAILY\t": 3, "daily": 5, " daily ": 7, "x@daily": 7, "* @daily": 8, "\xff@daily": 7,
		"@daily @daily": 13, "@daily @": 8, "@ @daily": 8, "@never @never": 13, "@daily x": 8, "@daily *": 8, "@daily 5 ": 9, "@daily * *": 10, "@daily * * *": 12, "@daily * * * *": 0, "@daily * * * * *": 0, " @daily\t* * * * *": 1, "@daily * * * * * *": 17, "@never * * * *": 0, "* * * * @daily": 8, "@daily 99 x": 11,
	})
	for s := range macros() {
		for _, n := range []int{1, 2, 3, 4, 5, 6, 7} {
			spaced(append([]string{s}, slices.Repeat([]string{"1"}, n)...), func(s string, places []int) {
				switch {
				case n < 4:
					refuses(t, api.ErrForm, map[string]int{s: len(s)})
				case n < 6:
					refuses(t, api.ErrForm, map[string]int{s: places[0]})
				default:
					refuses(t, api.ErrForm, map[string]int{s: places[6]})
				}
			})
		}
		// The macro without one byte, with another one in its place, and with one more.
		for i := 1; i <= len(s); i++ {
			refuses(t, api.ErrForm, map[string]int{s[:i] + "e" + s[i:]: 0, " \t" + s[:i] + "@" + s[i:] + " ": 2})
			if i == len(s) {
				continue
			}
			refuses(t, api.ErrForm, map[string]int{s[:i]: 0, s[:i] + s[i+1:]: 0, s[:i] + strings.ToUpper(s[i:]): 0, s[:i] + " " + s[i:]: len(s) + 1})
			for b := range 256 {
				c := string([]byte{byte(b)})
				if c == s[i:i+1] || c == " " || c == "\t" {
					continue
				}
				refuses(t, api.ErrForm, map[string]int{s[:i] + c + s[i+1:]: 0})
			}
		}
		refuses(t, api.ErrForm, map[string]int{s[1:]: len(s) - 1, s + s: 0, strings.ToUpper(s): 0})
	}
}

// definition returns what Parse has to return, in the words of the chapter.
func definition(s string) (api.Expr, int, api.Errno) {
	var words []string
	var places []int
	for _, x := range regexp.MustCompile(`[^ \t]+`).FindAllStringIndex(s, -1) {
		words, places = append(words, s[x[0]:x[1]]), append(places, x[0])
	}
	if len(words) == 1 && strings.HasPrefix(words[0], "@") {
		text, ok := macros()[words[0]]
		if !ok {
			return api.Expr{}, places[0], api.ErrForm
		}
		return definition(text)
	}
	if len(words) < 5 {
		return api.Expr{}, len(s), api.ErrForm
	}
	if len(words) > 6 {
		return api.Expr{}, places[6], api.ErrForm
	}
	x := api.Expr{Second: 1}
	for i, w := range words {
		i += many - len(words)
		set, star, place, err := field.Parse(field.Specs()[i], w)
		if err != api.OK {
			return api.Expr{}, places[i-many+len(words)] + place, err
		}
		*at(&x, i) = set
		if star && i == day {
			x.AnyDay = true
		}
		if star && i == week {
			x.AnyWeek = true
		}
	}
	return x, 0, api.OK
}

// texts calls f with texts of which most are expressions, and with some that are nearly so, which follow a fixed rule.
func texts(times int, f func(s string)) {
	next := chance()
	good := [many][]string{
		{"*", "0", "59", "*/7", "0,30", "5-10"}, {"*", "0", "0-59", "*/15", "7,8,9", "50/5"}, {"*", "0", "23", "9-17", "*/6", "22/1,0"}, {"*", "*", "13", "1-31", "*/2", "1,15,31"}, {"*", "12", "JAN", "feb-Apr", "1-12", "*/5"}, {"*", "*", "5", "fri-7", "0-6", "SUN,3"},
	}
	blanks := []string{" ", " ", "\t", "  ", " \t "}
	odd := []string{"x", "60", "99,x", "*/0", "@daily", "@", "\n", "\xff", "5-", "", "", " ", "JAN", "13", "0", "*", ",", "8"}
	for range times {
		s := ""
		for i := next(2); i < many; i++ {
			s += good[i][next(len(good[i]))] + blanks[next(len(blanks))]
		}
		if next(2) == 0 {
			s = strings.TrimRight(s, " \t")
		}
		f(s)
		// The same text with a part in another place, or in the place of a byte, or cut off.
		i := next(len(s))
		part := odd[next(len(odd))]
		f(s[:i] + part + s[i:])
		f(s[:i] + part + s[i+1:])
		f(s[:i])
		f(s[i:])
		f(part + " " + s)
		f(s + " " + part)
	}
}

// P7.2, by its definition: many texts, and all short ones of some words.
func TestParseDefinition(t *testing.T) {
	check := func(s string) {
		want, place, err := definition(s)
		checkParse(t, s, want, place, err)
		if err != api.OK {
			checkNormal(t, s, "", place, err)
		}
	}
	texts(20000, check)
	var longer func(s string, n int)
	longer = func(s string, n int) {
		check(s)
		if n == 7 {
			return
		}
		for _, w := range []string{"*", "0", "13\t"} {
			longer(s+" "+w, n+1)
		}
	}
	longer("", 0)
}

// times are expressions whose days match always, with many sets in each of the other fields.
func times() []api.Expr {
	next := chance()
	base := api.Expr{Second: set(0), Minute: set(0), Hour: set(0), Day: days, Month: set(1), Week: weeks, AnyDay: true, AnyWeek: true}
	l := []api.Expr{base}
	all := full()
	for _, i := range []int{second, minute, hour, month} {
		for v := range 60 {
			x := base
			*at(&x, i) = 1 << v & all[i]
			l = append(l, x)
			*at(&x, i) = all[i] &^ (1 << v)
			l = append(l, x)
			*at(&x, i) |= 1 << v & all[i]
			l = append(l, x)
		}
	}
	for range 200 {
		x := base
		for _, i := range []int{second, minute, hour, month} {
			thin, thick := uint64(0), uint64(0)
			for v := range 64 {
				one, two := uint64(next(2))<<v, uint64(next(2))<<v
				thin |= one & two
				thick |= one | two
			}
			*at(&x, i) = []uint64{thin, thick, all[i], set(0, 5, 59)}[next(4)] & all[i]
		}
		l = append(l, x)
	}
	return slices.DeleteFunc(l, func(x api.Expr) bool { return x.Second == 0 || x.Minute == 0 || x.Hour == 0 || x.Month == 0 })
}

// someDays are fields Day and Week, and the stars that they can have, with all other fields zero.
func someDays() []api.Expr {
	var l []api.Expr
	for _, d := range []uint64{days, set(1), set(13), set(31), span(1, 20), span(10, 31), days &^ set(1), days &^ set(31), set(2, 13, 30)} {
		for _, w := range []uint64{weeks, set(0), set(5), set(6), span(1, 5), weeks &^ set(0), weeks &^ set(6), set(0, 5)} {
			x := api.Expr{Day: d, Week: w}
			l = append(l, x)
			if d == days {
				x.AnyDay = true
				l = append(l, x)
			}
			if w == weeks {
				x.AnyWeek = true
				l = append(l, x)
			}
			if d == days && w == weeks {
				x.AnyDay = false
				l = append(l, x)
			}
		}
	}
	return l
}

// valid are valid expressions of all kinds.
func valid() []api.Expr {
	l := times()
	clocks := times()
	for i, x := range someDays() {
		y := clocks[i*7%len(clocks)]
		y.Day, y.Week, y.AnyDay, y.AnyWeek = x.Day, x.Week, x.AnyDay, x.AnyWeek
		l = append(l, y)
	}
	return l
}

// wrong are expressions that are not valid, in one way or in several.
func wrong() []api.Expr {
	l := []api.Expr{{}, {AnyDay: true}, {AnyWeek: true}, {AnyDay: true, AnyWeek: true}, {Second: math.MaxUint64, Minute: math.MaxUint64, Hour: math.MaxUint64, Day: math.MaxUint64, Month: math.MaxUint64, Week: math.MaxUint64, AnyDay: true, AnyWeek: true}}
	all := full()
	for _, base := range []api.Expr{
		{Second: 1, Minute: 1, Hour: 1, Day: set(13), Month: 2, Week: set(5)},
		{Second: 1, Minute: 1, Hour: 1, Day: days, Month: 2, Week: weeks},
		{Second: 1, Minute: 1, Hour: 1, Day: days, Month: 2, Week: set(5), AnyDay: true},
		{Second: 1, Minute: 1, Hour: 1, Day: set(13), Month: 2, Week: weeks, AnyWeek: true},
		{Second: sixty, Minute: sixty, Hour: hours, Day: days, Month: months, Week: weeks, AnyDay: true, AnyWeek: true},
	} {
		for i := range many {
			x := base
			*at(&x, i) = 0
			l = append(l, x)
			*at(&x, i) = math.MaxUint64
			l = append(l, x)
			*at(&x, i) = ^all[i]
			l = append(l, x)
			for v := range 64 {
				if all[i]>>v&1 == 0 {
					*at(&x, i) = 1 << v
					l = append(l, x)
					*at(&x, i) = all[i] | 1<<v
					l = append(l, x)
					*at(&x, i) = *at(&base, i) | 1<<v
					l = append(l, x)
				}
			}
		}
	}
	for v := range 64 {
		d, w := days&^(1<<v), weeks&^(1<<v)
		for _, star := range []bool{false, true} {
			if d != days {
				l = append(l, api.Expr{Second: 1, Minute: 1, Hour: 1, Day: d, Month: 2, Week: weeks, AnyDay: true, AnyWeek: star}, api.Expr{Second: 1, Minute: 1, Hour: 1, Day: 1 << v, Month: 2, Week: weeks, AnyDay: true, AnyWeek: star})
			}
			if w != weeks {
				l = append(l, api.Expr{Second: 1, Minute: 1, Hour: 1, Day: days, Month: 2, Week: w, AnyDay: star, AnyWeek: true}, api.Expr{Second: 1, Minute: 1, Hour: 1, Day: days, Month: 2, Week: 1 << v, AnyDay: star, AnyWeek: true})
			}
		}
	}
	return append(l, api.Expr{Second: 1, Minute: 1, Hour: 1, Day: set(13), Month: 2, Week: set(5), AnyDay: true}, api.Expr{Second: 1, Minute: 1, Hour: 1, Day: set(13), Month: 2, Week: set(5), AnyWeek: true}, api.Expr{Second: 1, Minute: 1, Hour: 1, Day: set(13), Month: 2, Week: set(5), AnyDay: true, AnyWeek: true})
}

// P7.1.
func TestCheck(t *testing.T) {
	for _, x := range valid() {
		if err := expr.Check(x); err != api.OK {
			t.Errorf("Check(%s) = %d", show(x), err)
		}
	}
	for _, x := range wrong() {
		if err := expr.Check(x); err != api.ErrRule {
			t.Errorf("Check(%s) = %d", show(x), err)
		}
	}
	// Each number, alone in each field.
	all := full()
	for i := range many {
		for v := range 64 {
			x := api.Expr{Second: 1, Minute: 1, Hour: 1, Day: set(13), Month: 2, Week: set(5)}
			*at(&x, i) = 1 << v
			want := api.ErrRule
			if all[i]>>v&1 == 1 {
				want = api.OK
			}
			if err := expr.Check(x); err != want {
				t.Errorf("Check(%s) = %d, want %d", show(x), err, want)
			}
		}
	}
	for s := range macros() {
		if err := expr.Check(parsed(t, s)); err != api.OK {
			t.Errorf("Check of %s = %d", s, err)
		}
	}
}

// P7.3, P7.7, P7.8: an expression that is not valid comes before all else, with zero values.
func TestWrongExpressions(t *testing.T) {
	good := []api.Expr{parsed(t, "* * * * * *"), parsed(t, "0 0 13 * *"), parsed(t, "0 0 * * 5"), parsed(t, "0 0 13 * 5"), parsed(t, "59 59 23 31 12 6")}
	for _, x := range wrong() {
		checkPrint(t, x, "", api.ErrRule)
		checkSeconds(t, x, 0, api.ErrRule)
		checkBoth(t, x, x, api.Expr{}, false, api.ErrRule)
		checkBoth(t, x, api.Expr{}, api.Expr{}, false, api.ErrRule)
		for _, y := range good {
			checkBoth(t, x, y, api.Expr{}, false, api.ErrRule)
			checkBoth(t, y, x, api.Expr{}, false, api.ErrRule)
		}
		checkEqual(t, x, x, true)
	}
}

// P7.3 at the edges that the chapter names.
func TestPrint(t *testing.T) {
	base := api.Expr{Second: set(0), Minute: set(0), Hour: set(0), Day: set(1), Month: set(1), Week: set(0)}
	for _, x := range []struct {
		change func(x *api.Expr)
		want   string
	}{
		{func(x *api.Expr) {}, "0 0 1 1 0"},
		{func(x *api.Expr) { x.Second = set(1) }, "1 0 0 1 1 0"},
		{func(x *api.Expr) { x.Second = set(0, 1) }, "0-1 0 0 1 1 0"},
		{func(x *api.Expr) { x.Second = set(0, 30) }, "0,30 0 0 1 1 0"},
		{func(x *api.Expr) { x.Second = set(0, 20, 40) }, "0-40/20 0 0 1 1 0"},
		{func(x *api.Expr) { x.Second = sixty }, "* 0 0 1 1 0"},
		{func(x *api.Expr) { x.Second = sixty &^ 1 }, "1-59 0 0 1 1 0"},
		{func(x *api.Expr) { x.Second = sixty &^ set(59) }, "0-58 0 0 1 1 0"},
		{func(x *api.Expr) { x.Minute = sixty }, "* 0 1 1 0"},
		{func(x *api.Expr) { x.Minute = span(0, 58) }, "0-58 0 1 1 0"},
		{func(x *api.Expr) { x.Minute = set(0, 15, 30, 45) }, "0-45/15 0 1 1 0"},
		{func(x *api.Expr) { x.Hour = hours }, "0 * 1 1 0"},
		{func(x *api.Expr) { x.Hour = span(9, 17) }, "0 9-17 1 1 0"},
		{func(x *api.Expr) { x.Month = months }, "0 0 1 * 0"},
		{func(x *api.Expr) { x.Month = set(1, 3, 12) }, "0 0 1 1,3,12 0"},
		{func(x *api.Expr) { x.Day = set(1, 15, 31) }, "0 0 1,15,31 1 0"},
		{func(x *api.Expr) { x.Week = set(0, 5, 6) }, "0 0 1 1 0,5-6"},
		{func(x *api.Expr) { x.Day = days }, "0 0 1-31 1 0"},
		{func(x *api.Expr) { x.Day, x.AnyDay = days, true }, "0 0 * 1 0"},
		{func(x *api.Expr) { x.Week = weeks }, "0 0 1 1 0-6"},
		{func(x *api.Expr) { x.Week, x.AnyWeek = weeks, true }, "0 0 1 1 *"},
		{func(x *api.Expr) { x.Day, x.Week = days, weeks }, "0 0 1-31 1 0-6"},
		{func(x *api.Expr) { x.Day, x.Week, x.AnyDay = days, weeks, true }, "0 0 * 1 0-6"},
		{func(x *api.Expr) { x.Day, x.Week, x.AnyWeek = days, weeks, true }, "0 0 1-31 1 *"},
		{func(x *api.Expr) { x.Day, x.Week, x.AnyDay, x.AnyWeek = days, weeks, true, true }, "0 0 * 1 *"},
		{func(x *api.Expr) {
			*x = api.Expr{Second: sixty, Minute: sixty, Hour: hours, Day: days, Month: months, Week: weeks}
		}, "* * * 1-31 * 0-6"},
		{func(x *api.Expr) {
			*x = api.Expr{Second: set(59), Minute: set(59), Hour: set(23), Day: set(31), Month: set(12), Week: set(6)}
		}, "59 59 23 31 12 6"},
	} {
		y := base
		x.change(&y)
		checkPrint(t, y, x.want, api.OK)
		checkParse(t, x.want, y, 0, api.OK)
		checkNormal(t, x.want, x.want, 0, api.OK)
	}
}

// P7.3: the first field is left out if it has just the number 0.
func TestFirstField(t *testing.T) {
	for _, rest := range []string{"0 0 1 1 0", "* * * * *", "0 0 13 * 5", "5 0 * * *"} {
		x := parsed(t, rest)
		checkPrint(t, x, rest, api.OK)
		for _, first := range []string{"0", "00", "0,0", "0-0", "*/60", "0/60"} {
			checkParse(t, first+" "+rest, x, 0, api.OK)
			checkNormal(t, first+" "+rest, rest, 0, api.OK)
		}
		for v := 1; v < 60; v++ {
			x.Second = set(v)
			checkPrint(t, x, fmt.Sprintf("%d %s", v, rest), api.OK)
			checkNormal(t, fmt.Sprintf("%02d  %s", v, rest), fmt.Sprintf("%d %s", v, rest), 0, api.OK)
			x.Second = set(0, v)
			text := fmt.Sprintf("0,%d %s", v, rest)
			if v == 1 {
				text = "0-1 " + rest
			}
			checkPrint(t, x, text, api.OK)
			checkParse(t, text, x, 0, api.OK)
		}
		x.Second = sixty
		checkPrint(t, x, "* "+rest, api.OK)
		checkParse(t, "* "+rest, x, 0, api.OK)
	}
}

// written is the text of a valid expression, in the words of the chapter.
func written(x api.Expr) string {
	s := ""
	for i, p := range field.Specs() {
		if i == second && x.Second == 1 {
			continue
		}
		star := *at(&x, i) == full()[i]
		switch i {
		case day:
			star = x.AnyDay
		case week:
			star = x.AnyWeek
		}
		text, _ := field.Print(p, *at(&x, i), star)
		if s != "" {
			s += " "
		}
		s += text
	}
	return s
}

// P7.3, P7.9: the text of an expression, by its definition, is read as this expression; and it is its own normal text.
func TestPrintDefinition(t *testing.T) {
	for _, x := range valid() {
		s := written(x)
		checkPrint(t, x, s, api.OK)
		checkParse(t, s, x, 0, api.OK)
		checkNormal(t, s, s, 0, api.OK)
	}
}

// P7.3, P7.9: Day and Week that are full are no stars while AnyDay or AnyWeek is false.
func TestFullDays(t *testing.T) {
	for _, x := range someDays() {
		x.Second, x.Minute, x.Hour, x.Month = 1, 1, 1, months
		text, _ := expr.Print(x)
		l := strings.Fields(text)
		if len(l) != 5 || (l[2] == "*") != x.AnyDay || (l[4] == "*") != x.AnyWeek || (l[2] == "1-31") != (x.Day == days && !x.AnyDay) || (l[4] == "0-6") != (x.Week == weeks && !x.AnyWeek) {
			t.Errorf("Print(%s) = %q", show(x), text)
		}
		checkParse(t, text, x, 0, api.OK)
	}
}

// P7.4 at the edges that the chapter names.
func TestNormal(t *testing.T) {
	for s, want := range map[string]string{
		"0 5 0 * * *": "5 0 * * *", "@weekly": "0 0 * * 0", "1 0 0 1 1 *": "1 0 0 1 1 *", "0-59 * * * *": "* * * * *", "0-59 0-59 * * * *": "* * * * * *", "0 0 1-31 1-12 0-6": "0 0 1-31 * 0-6", "@secondly": "* * * * * *", "@hourly": "0 * * * *", " 7   3 1 1 7": "7 3 1 1 0", "0 0 1 JAN sun": "0 0 1 1 0",
		"0-59 0-23 */1 */1 */1": "* * 1-31 * 0-6", "*,5 * *,* * *": "* * 1-31 * *", "0 0 * * *,3": "0 0 * * 0-6", "*/1 * * * * *": "* * * * * *", "00 00 05 05 05": "0 0 5 5 5", "\t*/15\t9-17 *  * MON-fri ": "0-45/15 9-17 * * 1-5", "0 0 * * 7": "0 0 * * 0", "0,1,2 3,1 5/9 1,2 DEC,1 sat,7": "0-2 1,3 5-23/9 1-2 1,12 0,6", "0 0 13 * 5": "0 0 13 * 5", "*/2 0 0 1 1 1": "0-58/2 0 0 1 1 1",
	} {
		checkNormal(t, s, want, 0, api.OK)
	}
	refuses(t, api.ErrForm, map[string]int{"* * * *": 7, "0 0  x * *": 5, "@never": 0, "": 0, "* * * * * * *": 12, " @Daily": 1})
	refuses(t, api.ErrArg, map[string]int{"0 24 * * *": 2, "0 0 1,32 * *": 6, "*/0 0 0 1 1 1": 2})
}

// P7.4, P7.9: what Normal returns is its own normal text, and is read as the same expression; it is what Print writes.
func TestNormalAgain(t *testing.T) {
	read := 0
	texts(5000, func(s string) {
		x, _, err := expr.Parse(s)
		if err != api.OK {
			return
		}
		read++
		text := written(x)
		checkNormal(t, s, text, 0, api.OK)
		checkNormal(t, text, text, 0, api.OK)
		checkParse(t, text, x, 0, api.OK)
	})
	if read < 5000 {
		t.Errorf("only %d texts are expressions", read)
	}
}

// P7.6: expressions that differ in one number of one field, or in a star alone, valid or not.
func TestEqual(t *testing.T) {
	for _, base := range []api.Expr{{}, {AnyDay: true, AnyWeek: true}, parsed(t, "@daily"), parsed(t, "@secondly"), parsed(t, "1 2 3 4 5 6"), {Second: math.MaxUint64, Minute: math.MaxUint64, Hour: math.MaxUint64, Day: math.MaxUint64, Month: math.MaxUint64, Week: math.MaxUint64}} {
		checkEqual(t, base, base, true)
		var others []api.Expr
		for i := range many {
			for v := range 64 {
				x := base
				*at(&x, i) ^= 1 << v
				others = append(others, x)
			}
			x := base
			*at(&x, i) = ^*at(&x, i)
			others = append(others, x)
		}
		x, y, z := base, base, base
		x.AnyDay = !x.AnyDay
		y.AnyWeek = !y.AnyWeek
		z.AnyDay, z.AnyWeek = !z.AnyDay, !z.AnyWeek
		others = append(others, x, y, z)
		for _, x := range others {
			checkEqual(t, base, x, false)
			checkEqual(t, x, base, false)
			checkEqual(t, x, x, true)
		}
	}
	x := api.Expr{Second: 1, Minute: 2}
	checkEqual(t, x, api.Expr{Second: 2, Minute: 1}, false)
	l := append(valid(), wrong()...)
	for i, x := range l[len(l)-300:] {
		for j, y := range l[len(l)-300:] {
			same := show(x) == show(y)
			if i == j && !same {
				t.Errorf("%s is not itself", show(x))
			}
			checkEqual(t, x, y, same)
		}
	}
}

// P7.7: each of its cases, in both orders.
func TestBoth(t *testing.T) {
	const none, differs = "none", "differs"
	for _, x := range []struct{ a, b, ab, ba string }{
		// The examples.
		{"0 9-17 * * 1-5", "0 12-20 * * 5-6", "0 12-17 * * 5", ""},
		{"0 0 13 * *", "0 0 * * 5", differs, ""},
		{"0 0 * * *", "1 0 * * *", none, ""},
		// The days of one are free, in each of the ways, those of the other one are not.
		{"0 0 * * *", "0 0 13 * *", "0 0 13 * *", ""}, {"0 0 1-31 * *", "0 0 13 * *", "0 0 13 * *", ""}, {"0 0 * * 0-6", "0 0 13 * *", "0 0 13 * *", ""}, {"0 0 1-31 * 0-6", "0 0 13 * *", "0 0 13 * *", ""}, {"0 0 1-31 * 5", "0 0 13 * *", "0 0 13 * *", ""}, {"0 0 7 * 0-6", "0 0 13 * *", "0 0 13 * *", ""},
		{"0 0 * * *", "0 0 * * 5", "0 0 * * 5", ""}, {"0 0 1-31 * *", "0 0 * * 5", "0 0 * * 5", ""}, {"0 0 * * 0-6", "0 0 * * 5", "0 0 * * 5", ""}, {"0 0 1-31 * 0-6", "0 0 * * 5", "0 0 * * 5", ""}, {"0 0 1-31 * 4", "0 0 * * 5", "0 0 * * 5", ""}, {"0 0 13 * 0-6", "0 0 * * 5", "0 0 * * 5", ""},
		{"0 0 * * *", "0 0 13 * 5", "0 0 13 * 5", ""}, {"0 0 1-31 * *", "0 0 13 * 5", "0 0 13 * 5", ""}, {"0 0 * * 0-6", "0 0 13 * 5", "0 0 13 * 5", ""}, {"0 0 1-31 * 0-6", "0 0 13 * 5", "0 0 13 * 5", ""}, {"0 0 1-31 * 4", "0 0 13 * 5", "0 0 13 * 5", ""}, {"0 0 7 * 0-6", "0 0 13 * 5", "0 0 13 * 5", ""},
		// The days of both are free: those of the result are the second ones.
		{"0 0 * * *", "0 0 * * *", "0 0 * * *", ""}, {"0 0 * * *", "0 0 1-31 * *", "0 0 1-31 * *", "0 0 * * *"}, {"0 0 * * 0-6", "0 0 1-31 * *", "0 0 1-31 * *", "0 0 * * 0-6"}, {"0 0 * * *", "0 0 1-31 * 5", "0 0 1-31 * 5", "0 0 * * *"}, {"0 0 1-31 * 5", "0 0 13 * 0-6", "0 0 13 * 0-6", "0 0 1-31 * 5"}, {"0 0 1-31 * 5", "0 0 1-31 * 4", "0 0 1-31 * 4", "0 0 1-31 * 5"}, {"0 0 13 * 0-6", "0 0 14 * 0-6", "0 0 14 * 0-6", "0 0 13 * 0-6"}, {"0 0 1-31 * 0-6", "0 0 * * *", "0 0 * * *", "0 0 1-31 * 0-6"},
		// Both are by Day.
		{"0 0 1-20 * *", "0 0 10-31 * *", "0 0 10-20 * *", ""}, {"0 0 13 * *", "0 0 13 * *", "0 0 13 * *", ""}, {"0 0 13 * *", "0 0 */2 * *", "0 0 13 * *", ""}, {"0 0 1 * *", "0 0 2 * *", none, ""}, {"0 0 */2 * *", "0 0 2/2 * *", none, ""}, {"0 0 1-30 * *", "0 0 2-31 * *", "0 0 2-30 * *", ""},
		// Both are by Week.
		{"0 0 * * 1-5", "0 0 * * 5-7", "0 0 * * 5", ""}, {"0 0 * * 5", "0 0 * * 5", "0 0 * * 5", ""}, {"0 0 * * 0-5", "0 0 * * 1-6", "0 0 * * 1-5", ""}, {"0 0 * * 1", "0 0 * * 2", none, ""}, {"0 0 * * 6-7", "0 0 * * 1-5", none, ""},
		// Both are by either.
		{"0 0 13 * 5", "0 0 13 * 5", "0 0 13 * 5", ""}, {"0 0 13,14 * 5", "0 0 14,13 * FRI", "0 0 13-14 * 5", ""}, {"0 0 13 * 5", "0 0 13 * 4", differs, ""}, {"0 0 13 * 5", "0 0 12 * 5", differs, ""}, {"0 0 13 * 5", "0 0 12 * 4", differs, ""}, {"0 0 13 * 5", "0 0 13 * 4-5", differs, ""}, {"0 0 13 * 5", "0 0 12-13 * 5", differs, ""},
		// Each is by something else.
		{"0 0 13 * 5", "0 0 13 * *", differs, ""}, {"0 0 13 * 5", "0 0 * * 5", differs, ""}, {"0 0 1-30 * *", "0 0 * * 0-5", differs, ""}, {"0 0 1 * *", "0 0 * * 1", differs, ""},
		// The other fields have the numbers that both have.
		{"0-40 * * * * *", "20-59 * * * * *", "20-40 * * * * *", ""}, {"0-40 * * * *", "20-59 * * * *", "20-40 * * * *", ""}, {"0 0-12 * * *", "0 6-23 * * *", "0 6-12 * * *", ""}, {"0 0 * 1-6 *", "0 0 * 4-12 *", "0 0 * 4-6 *", ""}, {"*/2 */3 */4 * */5 *", "*/3 */4 */6 * */3 *", "0-54/6 0-48/12 0,12 * 1 *", ""}, {"* * * * * *", "5 6 7 8 9 1", "5 6 7 8 9 1", ""}, {"* * * * *", "* * * * * *", "* * * * *", ""}, {"0 0 13 * 5", "0 0 * 1 *", "0 0 13 1 5", ""},
		// One of them is left without a number.
		{"0 * * * * *", "1 * * * * *", none, ""}, {"*/2 0 0 1 1 *", "1/2 0 0 1 1 *", none, ""}, {"* * * * *", "1 * * * * *", none, ""}, {"0 * * * *", "1-59 * * * *", none, ""}, {"0 0 * * *", "0 1-23 * * *", none, ""}, {"0 0 * 1-6 *", "0 0 * 7-12 *", none, ""}, {"0 0 13 1 5", "0 0 13 2 5", none, ""}, {"0 1 13 * 5", "0 2 * * *", none, ""}, {"0 0 0 1 1 1", "1 1 1 1 2 1", none, ""}, {"1 1 1 1 *", "2 2 2 2 *", none, ""},
		// ErrArg comes first.
		{"0 1 13 * *", "0 2 * * 5", differs, ""}, {"0 0 13 1 5", "0 0 13 2 4", differs, ""}, {"1 1 1 1 1 *", "2 2 2 * 2 2", differs, ""}, {"0 0 13 * 5", "1 1 14 1 5", differs, ""},
	} {
		a, b := parsed(t, x.a), parsed(t, x.b)
		if x.ba == "" {
			x.ba = x.ab
		}
		check := func(a, b api.Expr, s string) {
			t.Helper()
			switch s {
			case none:
				checkBoth(t, a, b, api.Expr{}, false, api.OK)
			case differs:
				checkBoth(t, a, b, api.Expr{}, false, api.ErrArg)
			default:
				checkBoth(t, a, b, parsed(t, s), true, api.OK)
			}
		}
		check(a, b, x.ab)
		check(b, a, x.ba)
	}
}

// daysMatch reports whether the days of an expression match, in the words of the chapter.
func daysMatch(x api.Expr, d, w int) bool {
	byDay, byWeek := x.Day>>d&1 == 1, x.Week>>w&1 == 1
	switch {
	case x.AnyDay && x.AnyWeek:
		return true
	case x.AnyDay:
		return byWeek
	case x.AnyWeek:
		return byDay
	}
	return byDay || byWeek
}

// matches reports whether an expression matches some numbers, in the order of the fields.
func matches(x api.Expr, v [many]int) bool {
	for _, i := range []int{second, minute, hour, month} {
		if *at(&x, i)>>v[i]&1 == 0 {
			return false
		}
	}
	return daysMatch(x, v[day], v[week])
}

// kind returns how the days of an expression match, by trying all of them.
func kind(x api.Expr) string {
	for d := 1; d <= 31; d++ {
		for w := range 7 {
			if !daysMatch(x, d, w) {
				return fmt.Sprint(x.AnyDay, x.AnyWeek)
			}
		}
	}
	return "free"
}

// both is what Both has to return for valid expressions, in the words of the chapter.
func both(a, b api.Expr) (api.Expr, bool, api.Errno) {
	x := api.Expr{Second: a.Second & b.Second, Minute: a.Minute & b.Minute, Hour: a.Hour & b.Hour, Month: a.Month & b.Month}
	switch ka, kb := kind(a), kind(b); {
	case ka == "free":
		x.Day, x.Week, x.AnyDay, x.AnyWeek = b.Day, b.Week, b.AnyDay, b.AnyWeek
	case kb == "free":
		x.Day, x.Week, x.AnyDay, x.AnyWeek = a.Day, a.Week, a.AnyDay, a.AnyWeek
	case ka == "false true" && kb == "false true":
		x.Day, x.Week, x.AnyWeek = a.Day&b.Day, weeks, true
	case ka == "true false" && kb == "true false":
		x.Day, x.Week, x.AnyDay = days, a.Week&b.Week, true
	case ka == kb && a.Day == b.Day && a.Week == b.Week:
		x.Day, x.Week = a.Day, a.Week
	default:
		return api.Expr{}, false, api.ErrArg
	}
	for i := range many {
		if *at(&x, i) == 0 {
			return api.Expr{}, false, api.OK
		}
	}
	return x, true, api.OK
}

// meet checks Both with two expressions: by its definition, and that it does not depend on their order but for the days if those of both are free. It returns what Both returns.
func meet(t *testing.T, a, b api.Expr) (api.Expr, bool, api.Errno) {
	t.Helper()
	want, ok, err := both(a, b)
	checkBoth(t, a, b, want, ok, err)
	x, is, e := expr.Both(a, b)
	y, isToo, eToo := expr.Both(b, a)
	if kind(a) == "free" && kind(b) == "free" {
		y.Day, y.Week, y.AnyDay, y.AnyWeek = x.Day, x.Week, x.AnyDay, x.AnyWeek
	}
	if x != y || is != isToo || e != eToo {
		t.Errorf("Both of %s and %s is %s, %t, %d, in the other order %s, %t, %d", show(a), show(b), show(x), is, e, show(y), isToo, eToo)
	}
	if is && expr.Check(x) != api.OK {
		t.Errorf("Both of %s and %s is %s, which is not valid", show(a), show(b), show(x))
	}
	return x, is, e
}

// P7.7, P7.10: all pairs of some days, at all days.
func TestBothDays(t *testing.T) {
	l := someDays()
	for i := range l {
		l[i].Second, l[i].Minute, l[i].Hour, l[i].Month = 1, 1, 1, months
	}
	for _, a := range l {
		for _, b := range l {
			x, _, err := meet(t, a, b)
			if err != api.OK {
				continue
			}
			for d := 1; d <= 31; d++ {
				for w := range 7 {
					// If Both returns false, x is the zero expression, which matches no day.
					if daysMatch(x, d, w) != (daysMatch(a, d, w) && daysMatch(b, d, w)) {
						t.Errorf("Both of %s and %s is %s; they differ at the day %d of the week %d", show(a), show(b), show(x), d, w)
					}
				}
			}
		}
	}
}

// P7.7, P7.10: many pairs of expressions, at many times.
func TestBothTimes(t *testing.T) {
	next := chance()
	l := valid()
	clocks := len(times())
	numbers := [many]int{60, 60, 24, 31, 12, 7}
	found, lost := 0, 0
	for range 20000 {
		a := l[next(len(l))]
		b := l[next(len(l))]
		if next(2) == 0 {
			b = l[next(clocks)]
		}
		x, is, err := meet(t, a, b)
		if err != api.OK {
			continue
		}
		if is {
			found++
		} else {
			lost++
		}
		for range 40 {
			var v [many]int
			for i := range v {
				v[i] = next(numbers[i])
				// Most of the numbers are in both fields, or both expressions would match nearly never.
				for range 8 {
					if *at(&a, i)&*at(&b, i)>>v[i]&1 == 0 {
						v[i] = next(numbers[i])
					}
				}
			}
			v[day] = max(v[day], 1)
			if matches(x, v) != (matches(a, v) && matches(b, v)) {
				t.Errorf("Both of %s and %s is %s; they differ at %v", show(a), show(b), show(x), v)
			}
		}
	}
	if found < 3000 || lost < 1000 {
		t.Errorf("%d pairs match together, %d never", found, lost)
	}
}

// P7.7, P7.10: both fields have a number, or one of them has not, for each number of each field.
func TestBothNumbers(t *testing.T) {
	all := full()
	for _, i := range []int{second, minute, hour, month} {
		for v := range 64 {
			if all[i]>>v&1 == 0 {
				continue
			}
			a := parsed(t, "* * * * * *")
			b := parsed(t, "0 0 13 1 5")
			*at(&a, i), *at(&b, i) = 1<<v, all[i]
			want := b
			*at(&want, i) = 1 << v
			checkBoth(t, a, b, want, true, api.OK)
			checkBoth(t, b, a, want, true, api.OK)
			*at(&b, i) = all[i] &^ (1 << v)
			checkBoth(t, a, b, api.Expr{}, false, api.OK)
			checkBoth(t, b, a, api.Expr{}, false, api.OK)
		}
	}
	for v := 1; v <= 31; v++ {
		a, b := parsed(t, "0 0 13 1 *"), parsed(t, "0 0 13 1 *")
		a.Day, b.Day = 1<<v, days&^(1<<v)
		checkBoth(t, a, b, api.Expr{}, false, api.OK)
		checkBoth(t, b, a, api.Expr{}, false, api.OK)
		checkBoth(t, a, a, a, true, api.OK)
		checkBoth(t, b, b, b, true, api.OK)
	}
	for v := range 7 {
		a, b := parsed(t, "0 0 * 1 1"), parsed(t, "0 0 * 1 1")
		a.Week, b.Week = 1<<v, weeks&^(1<<v)
		checkBoth(t, a, b, api.Expr{}, false, api.OK)
		checkBoth(t, b, a, api.Expr{}, false, api.OK)
		checkBoth(t, a, a, a, true, api.OK)
		checkBoth(t, b, b, b, true, api.OK)
	}
}

// P7.8, P7.11: Seconds at its limits, and for all numbers of the three fields.
func TestSeconds(t *testing.T) {
	for s, want := range map[string]int{
		"@daily": 1, "@midnight": 1, "@yearly": 1, "@weekly": 1, "@monthly": 1, "@hourly": 24, "@minutely": 1440, "@secondly": 86400, "*/15 9-17 * * 1-5": 36, "1-3 0 0 1 1 *": 3, "59 59 23 31 12 6": 1, "* 0 0 * * *": 60, "0 * 0 * * *": 60, "0 0 * * * *": 24, "* * 0 * * *": 3600, "* 0 * * * *": 1440, "0-58 * * * * *": 84960, "* 1-59 * * * *": 84960, "* * 0-22 * * *": 82800, "0,1 0-2 0-4 1 1 1": 30, "0 0 1-31 * 0-6": 1, "0 0 30 2 *": 1,
	} {
		checkSeconds(t, parsed(t, s), want, api.OK)
	}
	for i := range 60 {
		for j := range 60 {
			for k := range 24 {
				if i > 2 && j > 2 && k > 2 && (i+j+k)%7 > 0 {
					continue
				}
				// The numbers are the last ones of their kinds, or the first ones.
				x := api.Expr{Second: span(59-i, 59), Minute: span(0, j), Hour: span(23-k, 23), Day: days, Month: months, Week: set(3), AnyDay: true}
				checkSeconds(t, x, (i+1)*(j+1)*(k+1), api.OK)
			}
		}
	}
	for _, x := range valid() {
		want := 0
		for v := range 60 {
			for w := range 60 {
				for u := range 24 {
					if x.Second>>v&1 == 1 && x.Minute>>w&1 == 1 && x.Hour>>u&1 == 1 {
						want++
					}
				}
			}
		}
		checkSeconds(t, x, want, api.OK)
		if want < 1 || want > 86400 {
			t.Errorf("%s has %d seconds", show(x), want)
		}
	}
}

// P1: long texts, of expressions and of others.
func TestLongTexts(t *testing.T) {
	const long = 1 << 20
	blanks, stars, words := strings.Repeat(" \t", long), strings.Repeat("*,", long), strings.Repeat("* ", long)
	x := parsed(t, "* * * * *")
	checkParse(t, blanks, api.Expr{}, 2*long, api.ErrForm)
	checkParse(t, blanks+"* * * * *", x, 0, api.OK)
	checkParse(t, "* * * * *"+blanks, x, 0, api.OK)
	checkParse(t, "*"+blanks+"* * *"+blanks+"*", x, 0, api.OK)
	checkNormal(t, "*"+blanks+"* * *"+blanks+"*", "* * * * *", 0, api.OK)
	checkParse(t, "* * * *"+blanks, api.Expr{}, 7+2*long, api.ErrForm)
	checkParse(t, "* * * * * *"+blanks+"*", api.Expr{}, 11+2*long, api.ErrForm)
	checkParse(t, "* *"+blanks+"x * *", api.Expr{}, 3+2*long, api.ErrForm)
	checkParse(t, stars+"* * * * *", x, 0, api.OK)
	checkParse(t, "* * * * "+stars+"99", api.Expr{}, 8+2*long, api.ErrArg)
	checkParse(t, "* * * * "+stars, api.Expr{}, 8+2*long, api.ErrForm)
	checkParse(t, words, api.Expr{}, 12, api.ErrForm)
	checkParse(t, "  "+words, api.Expr{}, 14, api.ErrForm)
	checkNormal(t, words, "", 12, api.ErrForm)
	checkParse(t, strings.Repeat("*", long), api.Expr{}, long, api.ErrForm)
	refuses(t, api.ErrForm, map[string]int{"@" + strings.Repeat("a", long): 0, " @daily" + strings.Repeat("y", long): 1, strings.Repeat("@", long): 0, strings.Repeat("@ ", long): 12, strings.Repeat("@daily", long/8): 0})
	checkParse(t, blanks+"@daily"+blanks, parsed(t, "@daily"), 0, api.OK)
}

// P1, R8: all calls return, for all arguments, and return the same again.
func TestEveryArgument(t *testing.T) {
	type results struct {
		parsed, macro, both             api.Expr
		parsedAt, normalAt, seconds     int
		printed, normal                 string
		ok1, ok2, ok3                   bool
		err1, err2, err3, err4, err5, e api.Errno
	}
	call := func(s string, a, b api.Expr) (r results) {
		r.parsed, r.parsedAt, r.err1 = expr.Parse(s)
		r.normal, r.normalAt, r.err2 = expr.Normal(s)
		r.macro, r.ok1 = expr.Macro(s)
		r.printed, r.err3 = expr.Print(a)
		r.both, r.ok2, r.err4 = expr.Both(a, b)
		r.ok3 = expr.Equal(a, b)
		r.seconds, r.err5 = expr.Seconds(a)
		r.e = expr.Check(b)
		return r
	}
	l := append(valid(), wrong()...)
	next := chance()
	texts(2000, func(s string) {
		a, b := l[next(len(l))], l[next(len(l))]
		if one, two := call(s, a, b), call(s, a, b); one != two {
			t.Errorf("the calls with %q, %s and %s return %v, and then %v", s, show(a), show(b), one, two)
		}
	})
}
