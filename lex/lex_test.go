package lex_test

import (
	"bytes"
	"fmt"
	"math"
	"math/big"
	"regexp"
	"slices"
	"strings"
	"testing"

	"wakeman/api"
	"wakeman/lex"
)

// texts calls f with all texts of up to most bytes of an alphabet.
func texts(alphabet string, most int, f func(s string)) {
	var longer func(s []byte)
	longer = func(s []byte) {
		f(string(s))
		if len(s) == most {
			return
		}
		for i := range len(alphabet) {
			longer(append(slices.Clip(s), alphabet[i]))
		}
	}
	longer(nil)
}

// mixed is an alphabet with a line feed, both blanks, a letter, and a byte beyond 127 that is no text of its own.
const mixed = "\n \ta\xc3"

// random returns texts that follow a fixed rule, of up to most bytes, with few different bytes or with all.
func random(n, most int) []string {
	var l []string
	x := uint64(1)
	next := func(below int) int {
		x = x*6364136223846793005 + 1442695040888963407
		return int((x >> 33) % uint64(below))
	}
	for i := range n {
		s := make([]byte, next(most+1))
		for at := range s {
			if i%2 == 0 {
				s[at] = mixed[next(len(mixed))]
			} else {
				s[at] = byte(next(256))
			}
		}
		l = append(l, string(s))
	}
	return l
}

// someTexts returns what is special: blanks and line feeds at all places, other white space, zero bytes, bytes beyond 127, and long texts.
func someTexts() []string {
	return append([]string{
		"", "\n", "\n\n", "\n\n\n", "a", "a\n", "\na", "\na\n", "a\nb", "a\nb\n", "a\n\nb", "a\n\n\nb\n\n", "ab\n\nc", "abc\n \n\t\nd",
		" ", "  ", "\t", "\t\t", " \t", "\t ", " \t \t ", " a", "a ", " a ", "\ta", "a\t", "\ta\t", "a b", "a\tb", "a \t b", "  a  b  ", "\n a\n b \n", " \n ", "a \n b",
		"\r", "\r\n", "a\r\nb\r\n", "a\rb", "a\vb", "a\fb", "\v \f", "\x00", "a\x00b", "\x00\n\x00", " \x00 ", "a\x1fb", "a\x7fb",
		"\u00a0", "a\u00a0b", "a\u2028b\u2029c\u0085d", "a\u3000b", "\u0120 \u010a", "\u200b", "\ufeffa b", "\xff", "\xff\n\xff", "\x85", "a\x85b", "a\xa0b", "\x8a\n\x8a", "\xa0 \x89", "é ü\nß", "\xc3 \xa9", "\xc3\n\xa9", "日本 語\n", "\xe6\x97 \xa5",
		strings.Repeat("\n", 1000), strings.Repeat(" ", 1000), strings.Repeat("\t", 1000), strings.Repeat("a", 1000), strings.Repeat("a\n", 500), strings.Repeat("\na", 500), strings.Repeat("a ", 500), strings.Repeat(" a", 500), strings.Repeat("\xff", 1000),
	}, random(300, 60)...)
}

// allTexts calls f with all short texts of the mixed alphabet, and with the special ones.
func allTexts(f func(s string)) {
	texts(mixed, 6, f)
	for _, s := range someTexts() {
		f(s)
	}
}

func checkLines(t *testing.T, s string, want []lex.Line, err api.Errno) {
	t.Helper()
	if l, e := lex.Lines(s); !slices.Equal(l, want) || e != err {
		t.Errorf("Lines(%.200q) = %.200v, %d, want %.200v, %d", s, l, e, want, err)
	}
}

func checkWords(t *testing.T, s string, want []lex.Word) {
	t.Helper()
	if l := lex.Words(s); !slices.Equal(l, want) {
		t.Errorf("Words(%.200q) = %.200v, want %.200v", s, l, want)
	}
}

func checkCut(t *testing.T, s string, sep byte, before, behind string, is bool) {
	t.Helper()
	if a, b, ok := lex.Cut(s, sep); a != before || b != behind || ok != is {
		t.Errorf("Cut(%.200q, %q) = %.200q, %.200q, %t, want %.200q, %.200q, %t", s, sep, a, b, ok, before, behind, is)
	}
}

func checkNumber(t *testing.T, s string, want int64, err api.Errno) {
	t.Helper()
	if n, e := lex.Number(s); n != want || e != err {
		t.Errorf("Number(%.200q) = %d, %d, want %d, %d", s, n, e, want, err)
	}
}

func checkDigits(t *testing.T, n int64, want string) {
	t.Helper()
	if s := lex.Digits(n); s != want {
		t.Errorf("Digits(%d) = %q, want %q", n, s, want)
	}
}

func checkName(t *testing.T, s string, want bool) {
	t.Helper()
	if is := lex.Name(s); is != want {
		t.Errorf("Name(%.200q) = %t", s, is)
	}
}

func checkJoin(t *testing.T, l []string, sep, want string, err api.Errno) {
	t.Helper()
	if s, e := lex.Join(l, sep); s != want || e != err {
		t.Errorf("Join of %d texts %.200q with %.200q = %.200q, %d, want %.200q, %d", len(l), l, sep, s, e, want, err)
	}
}

func checkPlace(t *testing.T, s string, at, line, column int, err api.Errno) {
	t.Helper()
	if l, c, e := lex.Place(s, at); l != line || c != column || e != err {
		t.Errorf("Place(%.200q, %d) = %d, %d, %d, want %d, %d, %d", s, at, l, c, e, line, column, err)
	}
}

// P5.1 at the edges that the chapter names.
func TestLines(t *testing.T) {
	for _, x := range []struct {
		s    string
		want []lex.Line
	}{
		{"", nil},
		{"a", []lex.Line{{1, 0, "a"}}},
		{"ab\n", []lex.Line{{1, 0, "ab"}}},
		{"\n", []lex.Line{{1, 0, ""}}},
		{"\n\n", []lex.Line{{1, 0, ""}, {2, 1, ""}}},
		{"\n\n\n", []lex.Line{{1, 0, ""}, {2, 1, ""}, {3, 2, ""}}},
		{"ab\n\nc", []lex.Line{{1, 0, "ab"}, {2, 3, ""}, {3, 4, "c"}}},
		{"ab\n\nc\n", []lex.Line{{1, 0, "ab"}, {2, 3, ""}, {3, 4, "c"}}},
		{"ab\n\nc\n\n", []lex.Line{{1, 0, "ab"}, {2, 3, ""}, {3, 4, "c"}, {4, 6, ""}}},
		{"\na", []lex.Line{{1, 0, ""}, {2, 1, "a"}}},
		{"\n\nab", []lex.Line{{1, 0, ""}, {2, 1, ""}, {3, 2, "ab"}}},
		{" ", []lex.Line{{1, 0, " "}}},
		{"\t\n ", []lex.Line{{1, 0, "\t"}, {2, 2, " "}}},
		{" a \n\tb\t\n", []lex.Line{{1, 0, " a "}, {2, 4, "\tb\t"}}},
		{"a\r\nb\rc", []lex.Line{{1, 0, "a\r"}, {2, 3, "b\rc"}}},
		{"\x00\n\x00\x00", []lex.Line{{1, 0, "\x00"}, {2, 2, "\x00\x00"}}},
		{"\xff\xfe\n\x8a\n\x85", []lex.Line{{1, 0, "\xff\xfe"}, {2, 3, "\x8a"}, {3, 5, "\x85"}}},
		{"é\n\u2028\nz", []lex.Line{{1, 0, "é"}, {2, 3, "\u2028"}, {3, 7, "z"}}},
		{"\xc3\n\xa9", []lex.Line{{1, 0, "\xc3"}, {2, 2, "\xa9"}}},
	} {
		checkLines(t, x.s, x.want, api.OK)
	}
}

// lines divides a text in the words of the chapter.
func lines(s string) []lex.Line {
	pieces := strings.Split(s, "\n")
	// Split has what is behind the last line feed also if it is empty.
	if pieces[len(pieces)-1] == "" {
		pieces = pieces[:len(pieces)-1]
	}
	var l []lex.Line
	at := 0
	for i, p := range pieces {
		l = append(l, lex.Line{No: i + 1, At: at, Text: p})
		at += len(p) + 1
	}
	return l
}

// P5.1, by its definition.
func TestLinesDefinition(t *testing.T) {
	allTexts(func(s string) { checkLines(t, s, lines(s), api.OK) })
	for b := range 256 {
		c := string([]byte{byte(b)})
		for _, s := range []string{c, c + c, "a" + c + "b", c + "\n" + c, "\n" + c + "\n"} {
			checkLines(t, s, lines(s), api.OK)
		}
	}
}

// P5.1: texts of just MaxText bytes, and longer ones.
func TestLinesLong(t *testing.T) {
	for _, s := range []string{"\n", "a", " ", "a\n", "\na", "ab\n\n", "\xff", "0123456789abcde\n"} {
		long := strings.Repeat(s, 2*api.MaxText)
		for _, n := range []int{api.MaxText - 1, api.MaxText} {
			checkLines(t, long[:n], lines(long[:n]), api.OK)
		}
		for _, n := range []int{api.MaxText + 1, api.MaxText + 2, 2*api.MaxText - 1, 2 * api.MaxText, len(long)} {
			checkLines(t, long[:n], nil, api.ErrLong)
		}
	}
	// What counts is bytes, not runes, nor what is left without line feeds.
	checkLines(t, strings.Repeat("é", api.MaxText/2)+"\n", nil, api.ErrLong)
	checkLines(t, strings.Repeat("a", api.MaxText)+"\n", nil, api.ErrLong)
	checkLines(t, strings.Repeat("a", api.MaxText-1)+"\n", []lex.Line{{1, 0, strings.Repeat("a", api.MaxText-1)}}, api.OK)
	checkLines(t, strings.Repeat("a\n", 1<<20), nil, api.ErrLong)
}

// P5.2 at the edges that the chapter names.
func TestWords(t *testing.T) {
	for _, x := range []struct {
		s    string
		want []lex.Word
	}{
		{"", nil}, {" ", nil}, {"\t", nil}, {" \t\t  \t", nil},
		{"a", []lex.Word{{0, "a"}}},
		{"abc", []lex.Word{{0, "abc"}}},
		{" ab\t c", []lex.Word{{1, "ab"}, {5, "c"}}},
		{"a b", []lex.Word{{0, "a"}, {2, "b"}}},
		{"a\tb", []lex.Word{{0, "a"}, {2, "b"}}},
		{"\tab  c ", []lex.Word{{1, "ab"}, {5, "c"}}},
		{"  a", []lex.Word{{2, "a"}}},
		{"a  ", []lex.Word{{0, "a"}}},
		{"a\nb c\n", []lex.Word{{0, "a\nb"}, {4, "c\n"}}},
		{"\n", []lex.Word{{0, "\n"}}},
		{" \n ", []lex.Word{{1, "\n"}}},
		{"\n\n a", []lex.Word{{0, "\n\n"}, {3, "a"}}},
		{"a\r\v\f\x00b", []lex.Word{{0, "a\r\v\f\x00b"}}},
		{"\u00a0 a\u3000b", []lex.Word{{0, "\u00a0"}, {3, "a\u3000b"}}},
		{"\xff \x89\x85\xa0\t\xc3", []lex.Word{{0, "\xff"}, {2, "\x89\x85\xa0"}, {6, "\xc3"}}},
		{"\xc3 \xa9", []lex.Word{{0, "\xc3"}, {2, "\xa9"}}},
	} {
		checkWords(t, x.s, x.want)
	}
}

func blank(b byte) bool { return b == 32 || b == 9 }

// words finds, in the words of the chapter, the longest parts of a text that are not empty and have no blanks.
func words(s string) []lex.Word {
	var l []lex.Word
	for from := range len(s) {
		if from > 0 && !blank(s[from-1]) {
			continue // it could be longer
		}
		to := from
		for to < len(s) && !blank(s[to]) {
			to++
		}
		if to > from {
			l = append(l, lex.Word{At: from, Text: s[from:to]})
		}
	}
	return l
}

// P5.2, by its definition; also for texts that are longer than MaxText.
func TestWordsDefinition(t *testing.T) {
	allTexts(func(s string) { checkWords(t, s, words(s)) })
	for b := range 256 {
		c := string([]byte{byte(b)})
		for _, s := range []string{c, c + c, "a" + c + "b", c + "a" + c, c + " " + c, "\t" + c + "\t"} {
			checkWords(t, s, words(s))
		}
	}
	for _, s := range []string{" ", "\t", "a", "a ", " a", "ab\t\t", "\n", "\n \n", "\xff "} {
		for _, n := range []int{api.MaxText - 1, api.MaxText, api.MaxText + 1, 1 << 20} {
			long := strings.Repeat(s, n/len(s)+1)[:n]
			checkWords(t, long, words(long))
		}
	}
}

// P5.3 at the edges that the chapter names.
func TestCut(t *testing.T) {
	for _, x := range []struct {
		s              string
		sep            byte
		before, behind string
		is             bool
	}{
		{"a=b=c", '=', "a", "b=c", true}, {"abc", '=', "abc", "", false}, {"", '=', "", "", false},
		{"=", '=', "", "", true}, {"==", '=', "", "=", true}, {"=a", '=', "", "a", true}, {"a=", '=', "a", "", true}, {"==a", '=', "", "=a", true}, {"a==", '=', "a", "=", true},
		{"a b", ' ', "a", "b", true}, {" ", ' ', "", "", true}, {"a\tb", ' ', "a\tb", "", false}, {"a\nb\n", '\n', "a", "b\n", true},
		{"", 0, "", "", false}, {"a", 0, "a", "", false}, {"a\x00b", 0, "a", "b", true}, {"\x00", 0, "", "", true},
		{"a\xffb", 0xff, "a", "b", true}, {"a\xc3\xbfb", 0xff, "a\xc3\xbfb", "", false}, {"a\xc3\xbfb", 0xc3, "a", "\xbfb", true}, {"é", 0xa9, "\xc3", "", true}, {"é", 0xe9, "é", "", false}, {"a\xff", 0xfe, "a\xff", "", false},
		{"\ufffd", 0xff, "\ufffd", "", false}, {"\x80", 0x80, "", "", true}, {"a\xe9b", 0xe9, "a", "b", true},
	} {
		checkCut(t, x.s, x.sep, x.before, x.behind, x.is)
	}
}

// P5.3, by its definition, with each byte.
func TestCutDefinition(t *testing.T) {
	check := func(s string, sep byte) {
		at := 0
		for at < len(s) && s[at] != sep {
			at++
		}
		if at == len(s) {
			checkCut(t, s, sep, s, "", false)
		} else {
			checkCut(t, s, sep, s[:at], s[at+1:], true)
		}
	}
	allTexts(func(s string) {
		for i := range len(mixed) {
			check(s, mixed[i])
		}
		check(s, '=')
	})
	for b := range 256 {
		c := string([]byte{byte(b)})
		for sep := range 256 {
			for _, s := range []string{c, c + c, "a" + c, c + "a", "a" + c + "b" + c} {
				check(s, byte(sep))
			}
		}
		for _, s := range someTexts() {
			check(s, byte(b))
		}
	}
	long := strings.Repeat("a", 1<<20)
	for _, s := range []string{long, long + "=", "=" + long, long + "=" + long, long + "==" + long} {
		check(s, '=')
	}
}

// P5.4: Number at the edges that the chapter names.
func TestNumber(t *testing.T) {
	for _, x := range []struct {
		s    string
		want int64
	}{
		{"0", 0}, {"1", 1}, {"9", 9}, {"10", 10}, {"-1", -1}, {"-9", -9}, {"-10", -10}, {"-12", -12}, {"100", 100}, {"-1000", -1000}, {"1234567890", 1234567890},
		{"2147483647", math.MaxInt32}, {"2147483648", 1 << 31}, {"-2147483649", -1<<31 - 1}, {"4294967296", 1 << 32}, {"9007199254740993", 1<<53 + 1}, {"4611686018427387904", api.Never}, {"-4611686018427387904", -api.Never},
		{"9223372036854775806", math.MaxInt64 - 1}, {"9223372036854775807", math.MaxInt64}, {"-9223372036854775807", math.MinInt64 + 1}, {"-9223372036854775808", math.MinInt64}, {"999999999999999999", 999999999999999999}, {"1000000000000000000", 1000000000000000000},
	} {
		checkNumber(t, x.s, x.want, api.OK)
		checkDigits(t, x.want, x.s)
	}
	for _, s := range []string{
		"", " ", "-", "--", "+", "-0", "+0", "00", "-00", "000", "01", "-01", "007", "-007", "0000000000000000000000001", "+1", "++1", "--1", "-+1", "+-1", "1-", "1-1", "-1-", "-1-1",
		" 1", "1 ", "- 1", "\t1", "1\t", "1\n", "\n1", "1 2", "1_0", "_1", "1_", "-_1", "1,000", "1.", "1.0", ".1", "0.", "1e3", "1E3", "0x1", "0X1", "0b1", "0o7", "0_1", "x", "a", "f", "1a", "a1", "1x", "NaN", "Inf", "-Inf", "infinity",
		"/", ":", "1/", "1:", "/1", ":1", "-/", "-:", "\x00", "1\x00", "\x001", "0\x00", "-\x00", "\xff", "1\xff", "\xb1", "\u0661", "1\u0661", "\uff11", "\u22121", "\u00b2", "1\u00a0",
	} {
		checkNumber(t, s, 0, api.ErrForm)
	}
}

// P5.4: numbers that do not fit, by a little and by far, and long texts that are no numbers.
func TestNumberOver(t *testing.T) {
	for _, s := range []string{
		"9223372036854775808", "9223372036854775809", "9223372036854775810", "9223372036854775817", "9300000000000000000", "9999999999999999999", "10000000000000000000", "18446744073709551614", "18446744073709551615", "18446744073709551616", "18446744073709551617", "36893488147419103233",
		"-9223372036854775809", "-9223372036854775810", "-9223372036854775818", "-9999999999999999999", "-10000000000000000000", "-18446744073709551615", "-18446744073709551616", "-18446744073709551617",
		"92233720368547758070", "100000000000000000000", "-100000000000000000000", "340282366920938463463374607431768211456", "340282366920938463463374607431768211457", "-340282366920938463463374607431768211457",
		"9" + strings.Repeat("0", 1000), "1" + strings.Repeat("0", 1<<20), "-1" + strings.Repeat("0", 1<<20), strings.Repeat("9", 1<<20), "-" + strings.Repeat("7", 1<<20),
	} {
		checkNumber(t, s, 0, api.ErrOver)
		checkNumber(t, "0"+s, 0, api.ErrForm)
		checkNumber(t, "+"+s, 0, api.ErrForm)
		checkNumber(t, s+"x", 0, api.ErrForm)
		checkNumber(t, s+"-", 0, api.ErrForm)
		checkNumber(t, s+" ", 0, api.ErrForm)
		checkNumber(t, s+"0x", 0, api.ErrForm)
		checkNumber(t, s+"\xff", 0, api.ErrForm)
		checkNumber(t, s[:len(s)/2]+"_"+s[len(s)/2:], 0, api.ErrForm)
	}
	checkNumber(t, strings.Repeat("0", 1<<20), 0, api.ErrForm)
	checkNumber(t, strings.Repeat("0", 1<<20)+"1", 0, api.ErrForm)
	checkNumber(t, strings.Repeat("-", 1<<20)+"1", 0, api.ErrForm)
}

var form = regexp.MustCompile(`\A(0|[1-9][0-9]*|-[1-9][0-9]*)\z`)

// checkByForm checks Number by its definition.
func checkByForm(t *testing.T, s string) {
	t.Helper()
	if !form.MatchString(s) {
		checkNumber(t, s, 0, api.ErrForm)
		return
	}
	n, _ := new(big.Int).SetString(s, 10)
	if !n.IsInt64() {
		checkNumber(t, s, 0, api.ErrOver)
		return
	}
	checkNumber(t, s, n.Int64(), api.OK)
	checkDigits(t, n.Int64(), s)
}

// numbers returns edges, and numbers of all sizes that follow a fixed rule.
func numbers() []int64 {
	l := []int64{0, math.MaxInt64, math.MinInt64, math.MinInt64 + 1}
	for i, p := 0, int64(1); i < 19; i, p = i+1, p*10 {
		l = append(l, p-1, p, p+1, -p-1, -p, -p+1, 9*(p/10)+7, 5*p/10)
	}
	for i := range 63 {
		p := int64(1) << i
		l = append(l, p-1, p, p+1, -p-1, -p, -p+1)
	}
	x := uint64(1)
	for i := range 5000 {
		x = x*6364136223846793005 + 1442695040888963407
		l = append(l, int64(x)>>(i%64))
	}
	return l
}

// P5.4, by its definition.
func TestNumberDefinition(t *testing.T) {
	texts("-+019 _x", 5, func(s string) { checkByForm(t, s) })
	for b := range 256 {
		c := string([]byte{byte(b)})
		for _, s := range []string{c, c + "1", "1" + c, "1" + c + "1", "-" + c, "-1" + c, c + "0", "0" + c, "9223372036854775807" + c, "922337203685477580" + c, "-922337203685477580" + c, "1844674407370955161" + c, c + "9223372036854775807", c + "000000000000000000"} {
			checkByForm(t, s)
		}
	}
	for _, n := range numbers() {
		s := fmt.Sprintf("%d", n)
		checkByForm(t, s)
		checkByForm(t, s+"0")
		checkByForm(t, "1"+s)
		checkByForm(t, "0"+s)
		checkByForm(t, "-"+s)
	}
	// All around both ends, and around what 64 bits without a sign can have.
	for _, edge := range []string{"9223372036854775807", "-9223372036854775808", "18446744073709551616", "-18446744073709551616", "0"} {
		n, _ := new(big.Int).SetString(edge, 10)
		for d := int64(-1000); d <= 1000; d++ {
			checkByForm(t, new(big.Int).Add(n, big.NewInt(d)).String())
		}
	}
}

// P5.4: Digits.
func TestDigits(t *testing.T) {
	for n := int64(-11000); n <= 11000; n++ {
		checkDigits(t, n, fmt.Sprintf("%d", n))
	}
	for _, n := range numbers() {
		checkDigits(t, n, big.NewInt(n).String())
	}
}

// P5.10: Number of Digits is the number, and Digits of what Number returns is the text.
func TestNumberOfDigits(t *testing.T) {
	for _, n := range numbers() {
		checkNumber(t, lex.Digits(n), n, api.OK)
	}
	texts("-+0129 ", 5, func(s string) {
		if n, err := lex.Number(s); err == api.OK {
			checkDigits(t, n, s)
		}
	})
}

const nameBytes = "abcdefghijklmnopqrstuvwxyzABCDEFGHIJKLMNOPQRSTUVWXYZ0123456789-_"

// P5.5 at the edges that the chapter names.
func TestName(t *testing.T) {
	for _, s := range []string{"a", "z", "A", "Z", "0", "9", "-", "_", "--", "__", "-_-", "007", "-1", "job-1_B", "a-", "_a", "abcdefghijklmnopqrstuvwx", "ABCDEFGHIJKLMNOPQRSTUVWX", "------------------------", "000000000000000000000000"} {
		checkName(t, s, true)
	}
	for _, s := range []string{
		"", " ", "a b", " a", "a ", "a\n", "\na", "a\tb", "a.b", "a,b", "a/b", "a:b", "a=b", "a|b", "a#", "a+b", "a@b", "a[b", "a`b", "a{b", "a~", "*", "\x00", "a\x00", "\x00a",
		"é", "aé", "ä", "\xff", "a\xff", "\xe1", "a\xc1", "\u0430", "\uff41", "\u0661", "a\u2010b", "\u017f", "\u212a",
		"abcdefghijklmnopqrstuvwxy", "abcdefghijklmnopqrstuvwx ", "abcdefghijklmnopqrstuvwx\n", " abcdefghijklmnopqrstuvw", "abcdefghijklmnopqrstuvw ", strings.Repeat("a", 48), strings.Repeat("a", 256), strings.Repeat("a", 257), strings.Repeat("a", 280), strings.Repeat("a", 1<<16+1), strings.Repeat("a", 1<<20), strings.Repeat("é", 12),
	} {
		checkName(t, s, false)
	}
}

// P5.5, by its definition: each byte at each place of texts of all lengths.
func TestNameDefinition(t *testing.T) {
	for n := 0; n <= api.MaxName+3; n++ {
		s := bytes.Repeat([]byte("x"), n)
		checkName(t, string(s), n >= 1 && n <= api.MaxName)
		for at := range s {
			for b := range 256 {
				s[at] = byte(b)
				checkName(t, string(s), n <= api.MaxName && strings.IndexByte(nameBytes, byte(b)) >= 0)
			}
			s[at] = 'x'
		}
	}
	texts("aZ5-_ .\xc3", 4, func(s string) {
		checkName(t, s, s != "" && strings.Trim(s, "aZ5-_") == "" && !strings.ContainsAny(s, " .") && !strings.Contains(s, "\xc3"))
	})
}

// P5.6 at the edges that the chapter names.
func TestJoin(t *testing.T) {
	for _, x := range []struct {
		l         []string
		sep, want string
	}{
		{nil, ", ", ""}, {[]string{}, ", ", ""}, {nil, "", ""}, {[]string{""}, ", ", ""}, {[]string{"a"}, ", ", "a"}, {[]string{"a"}, "", "a"}, {[]string{"a", "b"}, ", ", "a, b"}, {[]string{"a", "b"}, "", "ab"},
		{[]string{"", ""}, ", ", ", "}, {[]string{"", "", ""}, "-", "--"}, {[]string{"", "", ""}, "", ""}, {[]string{"a", "", "b"}, "-", "a--b"}, {[]string{"a", "", "b"}, "", "ab"}, {[]string{"", "a"}, "-", "-a"}, {[]string{"a", ""}, "-", "a-"},
		{[]string{"b", "a", "b"}, " ", "b a b"}, {[]string{"-", "-"}, "-", "---"}, {[]string{"\n", " "}, "\t", "\n\t "}, {[]string{"\xc3", "\xff"}, "\xa9", "\xc3\xa9\xff"}, {[]string{"\x00", "\x00"}, "\x00", "\x00\x00\x00"},
		{[]string{"a", "b", "c", "d"}, "; ", "a; b; c; d"}, {[]string{"a"}, strings.Repeat("s", 1<<20), "a"}, {[]string{""}, strings.Repeat("s", 1<<20), ""}, {nil, strings.Repeat("s", 1<<20), ""},
	} {
		checkJoin(t, x.l, x.sep, x.want, api.OK)
	}
}

// P5.6, by its definition.
func TestJoinDefinition(t *testing.T) {
	parts := []string{"", "a", "bc", " ", "\n\xff"}
	for _, sep := range []string{"", " ", ", ", "a", "\n", "\xff\x00"} {
		texts("\x00\x01\x02\x03\x04", 5, func(s string) {
			var l []string
			want := ""
			for i := range len(s) {
				if i > 0 {
					want += sep
				}
				want += parts[s[i]]
				l = append(l, parts[s[i]])
			}
			checkJoin(t, l, sep, want, api.OK)
		})
	}
}

// P5.6: results of just MaxText bytes, and longer ones, by the texts and by what stands between them.
func TestJoinLong(t *testing.T) {
	all := strings.Repeat("x", api.MaxText)
	half := all[:api.MaxText/2]
	for _, x := range []struct {
		l   []string
		sep string
	}{
		{[]string{all}, ""}, {[]string{all}, "s"}, {[]string{all}, all}, {[]string{all, ""}, ""}, {[]string{"", all}, ""}, {[]string{"", all, ""}, ""},
		{[]string{half, half}, ""}, {[]string{half, half[1:]}, "s"}, {[]string{half, half[2:]}, "ss"}, {[]string{"", ""}, all}, {[]string{"a", ""}, all[1:]}, {[]string{"", "a"}, all[1:]}, {[]string{"", "", ""}, half}, {[]string{"a", "", "b"}, half[1:]},
		{make([]string, api.MaxText+1), "s"}, {make([]string, api.MaxText/2+1), "st"}, {strings.Split(all, ""), ""}, {append(strings.Split(half, ""), ""), "s"},
	} {
		want := strings.Join(x.l, x.sep)
		if len(want) != api.MaxText {
			t.Fatalf("a text of %d bytes", len(want))
		}
		checkJoin(t, x.l, x.sep, want, api.OK)
		// One byte more, in each text of some, and in what is between them.
		for i := range min(len(x.l), 3) {
			l := slices.Clone(x.l)
			l[i] += "y"
			checkJoin(t, l, x.sep, "", api.ErrLong)
		}
		checkJoin(t, append(slices.Clone(x.l), "y"), x.sep, "", api.ErrLong)
		if len(x.l) > 1 {
			checkJoin(t, x.l, x.sep+"y", "", api.ErrLong)
		}
	}
	for _, x := range []struct {
		l   []string
		sep string
	}{
		{[]string{all, ""}, "s"}, {[]string{"", all}, "s"}, {[]string{half, half}, " "}, {[]string{all + "x"}, ""}, {[]string{all + "x", ""}, ""}, {[]string{"", all + "x"}, ""}, {[]string{all, all}, all}, {make([]string, api.MaxText+2), "s"}, {make([]string, 1<<20), "s"}, {make([]string, 1<<16), all}, {make([]string, 2), strings.Repeat("s", 1<<20)},
	} {
		checkJoin(t, x.l, x.sep, "", api.ErrLong)
	}
	checkJoin(t, make([]string, 1<<20), "", "", api.OK)
	// Very great sums, of one text that stands in the list many times; those from 2^31 on wrap around in fewer bits.
	huge := make([]string, 1<<16)
	for i := range huge {
		huge[i] = all
	}
	checkJoin(t, huge, "", "", api.ErrLong)
	checkJoin(t, huge, all, "", api.ErrLong)
	checkJoin(t, append(huge, "a"), "", "", api.ErrLong)
}

// P5.7 at the edges that the chapter names.
func TestPlace(t *testing.T) {
	for _, x := range []struct {
		s                string
		at, line, column int
	}{
		{"", 0, 1, 1}, {"a", 0, 1, 1}, {"a", 1, 1, 2}, {"\n", 0, 1, 1}, {"\n", 1, 2, 1}, {"\n\n", 1, 2, 1}, {"\n\n", 2, 3, 1},
		{"ab\ncd", 0, 1, 1}, {"ab\ncd", 1, 1, 2}, {"ab\ncd", 2, 1, 3}, {"ab\ncd", 3, 2, 1}, {"ab\ncd", 4, 2, 2}, {"ab\ncd", 5, 2, 3},
		{"a\n\nb\n", 2, 2, 1}, {"a\n\nb\n", 3, 3, 1}, {"a\n\nb\n", 4, 3, 2}, {"a\n\nb\n", 5, 4, 1}, {"\nab", 3, 2, 3}, {"a\n\n\n\nbcd", 7, 5, 3},
		{"é\té", 2, 1, 3}, {"é\té", 3, 1, 4}, {"é\né", 1, 1, 2}, {"é\né", 3, 2, 1}, {"é\né", 5, 2, 3}, {"a\rb", 2, 1, 3}, {"\xff\x8a\x00", 3, 1, 4}, {"\x85\n\x85", 3, 2, 2},
	} {
		checkPlace(t, x.s, x.at, x.line, x.column, api.OK)
	}
	for _, s := range []string{"", "a", "\n", "ab\ncd", "ab\ncd\n", strings.Repeat("a\n", 1<<20)} {
		for _, at := range []int{-1, -2, -100, -1 << 31, -1 << 32, math.MinInt, math.MinInt + 1, len(s) + 1, len(s) + 2, 1 << 31, 1 << 32, 1<<32 + 1, 1 << 62, math.MaxInt - 1, math.MaxInt} {
			checkPlace(t, s, at, 0, 0, api.ErrRange)
		}
	}
}

// P5.7, by its definition, at all places of texts.
func TestPlaceDefinition(t *testing.T) {
	check := func(s string) {
		line, column := 1, 1
		for at := range len(s) {
			checkPlace(t, s, at, line, column, api.OK)
			column++
			if s[at] == 10 {
				line, column = line+1, 1
			}
		}
		checkPlace(t, s, len(s), line, column, api.OK)
		checkPlace(t, s, -1, 0, 0, api.ErrRange)
		checkPlace(t, s, len(s)+1, 0, 0, api.ErrRange)
	}
	allTexts(check)
	for b := range 256 {
		c := string([]byte{byte(b)})
		check("a" + c + "b\n" + c + "\n")
	}
	// Longer texts than Lines has.
	for _, s := range []string{"a", "\n", "ab\n"} {
		long := strings.Repeat(s, 1<<18)
		for _, at := range []int{0, 1, api.MaxText - 1, api.MaxText, api.MaxText + 1, len(long) - 1, len(long)} {
			line, column := 1+at/3, 1+at%3
			switch s {
			case "a":
				line, column = 1, 1+at
			case "\n":
				line, column = 1+at, 1
			}
			checkPlace(t, long, at, line, column, api.OK)
		}
	}
}

// P5.8: the lines, each followed by a line feed, are the text, or this followed by a line feed.
func TestLinesAreTheText(t *testing.T) {
	check := func(s string) {
		l, err := lex.Lines(s)
		if err != api.OK {
			t.Fatalf("Lines(%.200q) returns %d", s, err)
		}
		var all strings.Builder
		for i, line := range l {
			if line.No != i+1 || line.At != all.Len() || strings.Contains(line.Text, "\n") {
				t.Errorf("Lines(%.200q) has %v at the index %d", s, line, i)
			}
			all.WriteString(line.Text + "\n")
		}
		want := s
		if s != "" && !strings.HasSuffix(s, "\n") {
			want += "\n"
		}
		if all.String() != want {
			t.Errorf("the lines of %.200q are %.200q", s, all.String())
		}
	}
	allTexts(check)
	for _, s := range []string{"\n", "a", "a\n", "\na", "abc\n"} {
		check(strings.Repeat(s, api.MaxText)[:api.MaxText])
	}
}

// P5.9: words that are joined with any blanks have the same words again, at the places to which they came.
func TestWordsOfJoined(t *testing.T) {
	allTexts(func(s string) {
		var l []string
		for _, w := range lex.Words(s) {
			if s[w.At:w.At+len(w.Text)] != w.Text {
				t.Errorf("Words(%.200q) has %v", s, w)
			}
			l = append(l, w.Text)
		}
		for _, sep := range []string{" ", "\t", "  ", " \t", "\t\t \t"} {
			joined, err := lex.Join(l, sep)
			if err != api.OK {
				t.Fatalf("Join returns %d", err)
			}
			for _, ends := range []string{"", " ", "\t "} {
				var want []lex.Word
				at := len(ends)
				for _, w := range l {
					want = append(want, lex.Word{At: at, Text: w})
					at += len(w) + len(sep)
				}
				checkWords(t, ends+joined+ends, want)
			}
		}
	})
}

// P5.11: the place of a line's first byte is its number, and the column 1.
func TestPlaceOfLine(t *testing.T) {
	allTexts(func(s string) {
		l, _ := lex.Lines(s)
		for _, line := range l {
			checkPlace(t, s, line.At, line.No, 1, api.OK)
			checkPlace(t, s, line.At+len(line.Text), line.No, 1+len(line.Text), api.OK)
		}
	})
}

// R4: Join neither changes its list nor looks behind its end, and lists share no memory.
func TestMemory(t *testing.T) {
	l := []string{"a", "b", "c", strings.Repeat("x", api.MaxText)}
	checkJoin(t, l[:2], "-", "a-b", api.OK)
	checkJoin(t, l, "-", "", api.ErrLong)
	if !slices.Equal(l[:3], []string{"a", "b", "c"}) || len(l[3]) != api.MaxText {
		t.Errorf("Join has changed its list to %.200q", l)
	}
	const s = " a b\nc"
	lines, _ := lex.Lines(s)
	words := lex.Words(s)
	clear(lines)
	clear(words)
	_ = append(lines[:0], lex.Line{No: 9, At: 9, Text: "z"})
	_ = append(words[:0], lex.Word{At: 9, Text: "z"})
	checkLines(t, s, []lex.Line{{1, 0, " a b"}, {2, 5, "c"}}, api.OK)
	checkWords(t, s, []lex.Word{{1, "a"}, {3, "b\nc"}})
}

// P1, R8: all calls return, for all arguments, and return the same again.
func TestEveryArgument(t *testing.T) {
	type results struct {
		before, behind, joined, digits string
		cut, name                      bool
		number                         int64
		line, column                   int
		err1, err2, err3               api.Errno
	}
	call := func(s, sep string, n int) (r results) {
		r.before, r.behind, r.cut = lex.Cut(s, byte(n))
		r.number, r.err1 = lex.Number(s)
		r.digits, r.name = lex.Digits(int64(n)), lex.Name(s)
		r.joined, r.err2 = lex.Join([]string{s, sep, s}, sep)
		r.line, r.column, r.err3 = lex.Place(s, n)
		return r
	}
	long := strings.Repeat("a b\n\xff", 20000)
	all := append(someTexts(), "0", "-12", "9223372036854775808", "name", long)
	for _, s := range all {
		for _, sep := range []string{"", " ", "\n", ", ", long} {
			for _, n := range []int{0, 1, -1, 32, 255, 256, 1 << 32, math.MaxInt, math.MinInt} {
				if one, two := call(s, sep, n), call(s, sep, n); one != two {
					t.Errorf("the calls with %.200q, %.200q and %d return %.200v, and then %.200v", s, sep, n, one, two)
				}
			}
		}
		a, err1 := lex.Lines(s)
		b, err2 := lex.Lines(s)
		if !slices.Equal(a, b) || err1 != err2 || !slices.Equal(lex.Words(s), lex.Words(s)) {
			t.Errorf("Lines and Words of %.200q differ from call to call", s)
		}
	}
}
