package units_test

import (
	"math/big"
	"regexp"
	"strconv"
	"strings"

	"wakeman/api"
)

// The definitions of the chapter, written down another way: texts are taken apart by regular expressions, and numbers may have any size.

var (
	durationForm = regexp.MustCompile(`^(?:([1-9][0-9]*)d)?(?:([1-9][0-9]*)h)?(?:([1-9][0-9]*)m)?(?:([1-9][0-9]*)s)?$`)
	decimalForm  = regexp.MustCompile(`^(?:0|-?[1-9][0-9]*)$`)
	seedForm     = regexp.MustCompile(`^[0-9a-f]{16}$`)
	pairForm     = regexp.MustCompile(`(?s)^([a-z]+)=(.*)$`)
	limitForm    = regexp.MustCompile(`(?s)^1/([^+]*)\+(.*)$`)
)

// unitSeconds are the seconds of the units, in the order of durationForm.
var unitSeconds = []int64{86400, 3600, 60, 1}

// span returns what a written duration stands for; nil if the text is none.
func span(s string) *big.Int {
	if s == "0s" {
		return new(big.Int)
	}
	parts := durationForm.FindStringSubmatch(s)
	if s == "" || parts == nil {
		return nil
	}
	sum := new(big.Int)
	for i, digits := range parts[1:] {
		if digits == "" {
			continue
		}
		n, _ := new(big.Int).SetString(digits, 10)
		sum.Add(sum, n.Mul(n, big.NewInt(unitSeconds[i])))
	}
	return sum
}

// parsed is what Parse returns.
func parsed(s string) (int64, api.Errno) {
	sum := span(s)
	switch {
	case sum == nil:
		return 0, api.ErrForm
	case sum.Cmp(big.NewInt(api.MaxSpan)) > 0:
		return 0, api.ErrOver
	}
	return sum.Int64(), api.OK
}

// isShort reports whether s is the written duration that stands for d and has as many days, hours and minutes as possible: so the rest is less than a day, an hour, a minute.
func isShort(s string, d int64) bool {
	if n, err := parsed(s); n != d || err != api.OK {
		return false
	}
	if s == "0s" {
		return true
	}
	most := []int{1 << 40, 23, 59, 59}
	for i, digits := range durationForm.FindStringSubmatch(s)[1:] {
		if n, err := strconv.Atoi(digits); digits != "" && (err != nil || n > most[i]) {
			return false
		}
	}
	return true
}

// seed is what Seed returns.
func seed(s string) (uint64, api.Errno) {
	if !seedForm.MatchString(s) {
		return 0, api.ErrForm
	}
	n, _ := new(big.Int).SetString(s, 16)
	return n.Uint64(), api.OK
}

// number is what Int returns.
func number(s string, lo, hi int64) (int64, api.Errno) {
	if !decimalForm.MatchString(s) {
		return 0, api.ErrForm
	}
	n, _ := new(big.Int).SetString(s, 10)
	if n.Cmp(big.NewInt(lo)) < 0 || n.Cmp(big.NewInt(hi)) > 0 {
		return 0, api.ErrRange
	}
	return n.Int64(), api.OK
}

// pair is what Pair returns.
func pair(s string) (string, string, api.Errno) {
	parts := pairForm.FindStringSubmatch(s)
	if parts == nil {
		return "", "", api.ErrForm
	}
	return parts[1], parts[2], api.OK
}

// limit is what Limit returns.
func limit(s string) (api.Limit, api.Errno) {
	if s == "none" {
		return api.Limit{}, api.OK
	}
	parts := limitForm.FindStringSubmatch(s)
	if parts == nil || parts[1] == "0s" {
		return api.Limit{}, api.ErrForm
	}
	first, second := span(parts[1]), span(parts[2])
	if first == nil || second == nil {
		return api.Limit{}, api.ErrForm
	}
	most := big.NewInt(api.MaxSpan)
	if first.Cmp(most) > 0 || second.Cmp(most) > 0 {
		return api.Limit{}, api.ErrOver
	}
	return api.Limit{T: first.Int64(), Tau: second.Int64()}, api.OK
}

// isRule reports whether a limit is valid.
func isRule(l api.Limit) bool {
	if l.T == 0 {
		return l.Tau == 0
	}
	return l.T > 0 && l.T <= api.MaxSpan && l.Tau >= 0 && l.Tau <= api.MaxSpan
}

// chance returns a function that returns numbers below a limit, by a fixed rule.
func chance(seed uint64) func(below int) int {
	return func(below int) int {
		seed = seed*6364136223846793005 + 1442695040888963407
		return int((seed >> 33) % uint64(below))
	}
}

// texts calls f with all texts of up to most bytes of an alphabet.
func texts(alphabet string, most int, f func(s string)) {
	f("")
	if most == 0 {
		return
	}
	for _, c := range []byte(alphabet) {
		texts(alphabet, most-1, func(s string) { f(string([]byte{c}) + s) })
	}
}

// changed calls f with all texts that one change makes of s: a byte less, a byte twice, another byte, or a byte more, of all bytes and at each place.
func changed(s string, f func(s string)) {
	for at := range len(s) {
		f(s[:at] + s[at+1:])
		f(s[:at+1] + s[at:])
	}
	for b := range 256 {
		more := string([]byte{byte(b)})
		for at := range len(s) + 1 {
			f(s[:at] + more + s[at:])
			if at < len(s) {
				f(s[:at] + more + s[at+1:])
			}
		}
	}
}

// counts are numbers of units: around the next unit, around MaxSpan in each unit, around the ends of int64 and uint64, and such that a product with the unit is a small one when it wraps around.
func counts() []string {
	l := []string{"1", "2", "7", "9", "10", "23", "24", "25", "59", "60", "61", "90", "99", "100", "1439", "1440", "3599", "3600", "86399", "86400", "86401", "1" + strings.Repeat("0", 30), strings.Repeat("9", 400)}
	for _, u := range unitSeconds {
		for _, edge := range []*big.Int{big.NewInt(api.MaxSpan), new(big.Int).Lsh(big.NewInt(1), 63), new(big.Int).Lsh(big.NewInt(1), 64), new(big.Int).Lsh(big.NewInt(1), 128)} {
			n := new(big.Int).Div(edge, big.NewInt(u))
			for d := int64(-1); d <= 2; d++ {
				l = append(l, new(big.Int).Add(n, big.NewInt(d)).String())
			}
		}
	}
	return l
}
