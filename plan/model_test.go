package plan_test

import (
	"math"
	"slices"
	"sort"
	"sync"
	"testing"

	"wakeman/api"
	"wakeman/expr"
)

// The definitions, in words of their own: what the tests compare the package with.

const (
	end      = api.MaxTime
	span     = api.MaxSpan
	day      = 86400
	lastZone = 840
	most     = api.MaxSkip
	longest  = 100000
	greatest = 1000000
)

// date is a date with its day of the week.
type date struct {
	year             int16
	month, day, week int8
}

// calendar returns all dates from 1970-01-01 to 9999-12-31, counted on one by one.
var calendar = sync.OnceValue(func() []date {
	lengths := [...]int8{31, 28, 31, 30, 31, 30, 31, 31, 30, 31, 30, 31}
	var l []date
	for d := (date{1970, 1, 1, 4}); d.year < 10000; {
		l = append(l, d)
		d.week = (d.week + 1) % 7
		length := lengths[d.month-1]
		if d.month == 2 && (d.year%4 == 0 && d.year%100 != 0 || d.year%400 == 0) {
			length++
		}
		if d.day++; d.day > length {
			d.day, d.month = 1, d.month+1
		}
		if d.month > 12 {
			d.month, d.year = 1, d.year+1
		}
	}
	return l
})

// in reports whether a set has a number.
func in[V int8 | int64](set uint64, v V) bool { return set>>v&1 == 1 }

// onDate reports whether an expression matches a date.
func onDate(x api.Expr, d date) bool {
	if !in(x.Month, d.month) {
		return false
	}
	switch {
	case x.AnyDay && x.AnyWeek:
		return true
	case x.AnyDay:
		return in(x.Week, d.week)
	case x.AnyWeek:
		return in(x.Day, d.day)
	}
	return in(x.Day, d.day) || in(x.Week, d.week)
}

// onClock reports whether an expression matches a second of a day.
func onClock(x api.Expr, s int64) bool {
	return in(x.Hour, s/3600) && in(x.Minute, s/60%60) && in(x.Second, s%60)
}

// skipped reports whether one of the spans has a time.
func skipped(l []api.Span, u int64) bool {
	for _, s := range l {
		if u >= s.From && u <= s.To {
			return true
		}
	}
	return false
}

// has reports whether a valid plan has a time.
func has(p api.Plan, u int64) bool {
	if skipped(p.Skip, u) {
		return false
	}
	switch p.Kind {
	case api.PlanCron:
		local := u + 60*int64(p.Zone)
		return local >= 0 && local <= end && onClock(p.Expr, local%day) && onDate(p.Expr, calendar()[local/day])
	case api.PlanEvery:
		n := u - p.Every.Start
		return n >= 0 && n%p.Every.Period == 0 && (p.Every.Count == 0 || n/p.Every.Period < int64(p.Every.Count))
	}
	return false
}

// known says how many of the first days an expression matches, and how many of the first seconds of such a day.
type known struct {
	days    []int32
	seconds []int32
}

// know goes through all dates, and through all seconds of a day, but just once for each expression.
var know = func() func(x api.Expr) known {
	all := map[api.Expr]known{}
	return func(x api.Expr) known {
		k, ok := all[x]
		if ok {
			return k
		}
		k.days = make([]int32, len(calendar())+1)
		for i, d := range calendar() {
			k.days[i+1] = k.days[i]
			if onDate(x, d) {
				k.days[i+1]++
			}
		}
		k.seconds = make([]int32, day+1)
		for s := range int64(day) {
			k.seconds[s+1] = k.seconds[s]
			if onClock(x, s) {
				k.seconds[s+1]++
			}
		}
		all[x] = k
		return k
	}
}()

// below returns how many local times below one an expression matches.
func (k known) below(local int64) int64 {
	local = min(max(local, 0), end+1)
	n := int64(k.days[local/day]) * int64(k.seconds[day])
	if local <= end && k.days[local/day] < k.days[local/day+1] {
		n += int64(k.seconds[local%day])
	}
	return n
}

// model is a valid plan whose times are counted by the definitions: in each piece nothing is skipped, and beside the pieces everything is.
type model struct {
	p      api.Plan
	k      known
	pieces []api.Span
}

// modelOf returns the model of a valid plan.
func modelOf(p api.Plan) *model {
	m := &model{p: p}
	if p.Kind == api.PlanCron {
		m.k = know(p.Expr)
	}
	// Between two neighbouring cuts there is no border of a span.
	cuts := []int64{0, end + 1}
	for _, s := range p.Skip {
		cuts = append(cuts, s.From, s.To+1)
	}
	slices.Sort(cuts)
	for i := 1; i < len(cuts); i++ {
		if cuts[i-1] < cuts[i] && !skipped(p.Skip, cuts[i-1]) {
			m.pieces = append(m.pieces, api.Span{From: cuts[i-1], To: cuts[i] - 1})
		}
	}
	return m
}

// below returns how many times below u the plan has without Skip.
func (m *model) below(u int64) int64 {
	e := m.p.Every
	switch m.p.Kind {
	case api.PlanCron:
		ahead := 60 * int64(m.p.Zone)
		return m.k.below(u+ahead) - m.k.below(ahead)
	case api.PlanEvery:
		if u <= e.Start {
			return 0
		}
		n := (u - e.Start + e.Period - 1) / e.Period
		if e.Count > 0 && n > int64(e.Count) {
			return int64(e.Count)
		}
		return n
	}
	return 0
}

// count returns how many times from a to b the plan has.
func (m *model) count(a, b int64) int64 {
	var n int64
	for _, s := range m.pieces {
		if from, to := max(s.From, a), min(s.To, b); from <= to {
			n += m.below(to+1) - m.below(from)
		}
	}
	return n
}

// next returns the first time above t, and true; false if there is none. The more times are counted, the later the count ends.
func (m *model) next(t int64) (int64, bool) {
	if m.count(t+1, end) == 0 {
		return 0, false
	}
	n := sort.Search(int(end-t), func(i int) bool { return m.count(t+1, t+1+int64(i)) > 0 })
	return t + 1 + int64(n), true
}

// prev returns the last time below t, and true; false if there is none.
func (m *model) prev(t int64) (int64, bool) {
	if m.count(0, t-1) == 0 {
		return 0, false
	}
	n := sort.Search(int(t), func(i int) bool { return m.count(t-1-int64(i), t-1) > 0 })
	return t - 1 - int64(n), true
}

// list returns the first n times from a to b.
func (m *model) list(a, b int64, n int) []int64 {
	var l []int64
	for u, ok := m.next(a - 1); ok && u <= b && len(l) < n; u, ok = m.next(u) {
		l = append(l, u)
	}
	return l
}

// chance returns a function whose results look as if drawn, but are the same in each test.
func chance(seed uint64) func(below int64) int64 {
	x := seed
	return func(below int64) int64 {
		x = x*6364136223846793005 + 1442695040888963407
		y := x ^ x>>29
		y *= 0xBF58476D1CE4E5B9
		return int64((y >> 1) % uint64(below))
	}
}

// spans returns spans by their ends.
func spans(ends ...int64) []api.Span {
	var l []api.Span
	for i := 0; i < len(ends); i += 2 {
		l = append(l, api.Span{From: ends[i], To: ends[i+1]})
	}
	return l
}

// row returns n spans, from a time on, each with so many times, and begun a step later than the one before.
func row(from, step, times int64, n int) []api.Span {
	var l []api.Span
	for i := range int64(n) {
		l = append(l, api.Span{From: from + i*step, To: from + i*step + times - 1})
	}
	return l
}

// reversed returns a list in the opposite order.
func reversed(l []api.Span) []api.Span {
	l = slices.Clone(l)
	slices.Reverse(l)
	return l
}

// with returns a list with another element.
func with[T any](l []T, i int, x T) []T {
	l = slices.Clone(l)
	l[i] = x
	return l
}

// valid returns those of the spans of which both ends are times, and which do not end before they begin.
func valid(l []api.Span) []api.Span {
	return slices.DeleteFunc(slices.Clone(l), func(s api.Span) bool { return s.From < 0 || s.To > end || s.From > s.To })
}

// cron returns the plan of an expression.
func cron(text string, zone int, skip ...api.Span) api.Plan {
	x, _, err := expr.Parse(text)
	if err != api.OK {
		panic(text)
	}
	return api.Plan{Kind: api.PlanCron, Expr: x, Zone: zone, Skip: skip}
}

// each returns the plan of a schedule.
func each(start, period int64, count int, skip ...api.Span) api.Plan {
	return api.Plan{Kind: api.PlanEvery, Every: api.Every{Start: start, Period: period, Count: count}, Skip: skip}
}

// but returns a plan with a list of spans.
func but(p api.Plan, skip []api.Span) api.Plan {
	p.Skip = skip
	return p
}

// simple returns valid plans of many kinds that skip nothing.
func simple() []api.Plan {
	l := []api.Plan{
		{},
		each(10, 60, 3), each(0, 1, 0), each(0, 1, 1), each(end, 1, 0), each(end, span, greatest), each(end-5, 1, 3), each(end-5, 1, 0), each(end-10, 3, 0), each(end-1, 2, 2),
		each(0, span, 0), each(0, span, 2), each(7, span, 4), each(5, day, greatest), each(1, 7, 0), each(100, 1, greatest), each(greatest, 90, 5),
	}
	for _, text := range []string{"* * * * * *", "0 0 * * *", "*/15 9-17 * * 1-5", "59 59 23 31 12 *", "0 0 29 2 *", "0 0 30 2 *"} {
		for _, zone := range []int{0, -lastZone, lastZone} {
			l = append(l, cron(text, zone))
		}
	}
	return append(l,
		cron("* * * * *", 1), cron("* * * * *", -1), cron("0 0 13 * 5", 330), cron("0 0 31 4,6,9,11 *", 0), cron("30 12 * * 0", -480), cron("7,9 0 0 1 1 *", 60),
		cron("*/7 * 3,4 * * *", -60), cron("0 0 1 1 1", 90), cron("0 12 29 2 3", 0), cron("1 0 * * *", -839), cron("58 23 * * *", 839), cron("0 0 29 2 *", -300))
}

// marks returns times of a plan that has times: the first three, the last two, and one amid.
func marks(m *model) []int64 {
	l := m.list(0, end, 3)
	last, ok := m.prev(end + 1)
	if !ok {
		return l
	}
	l = append(l, last)
	if u, ok := m.prev(last); ok {
		l = append(l, u)
	}
	if u, ok := m.next(l[0] + (last-l[0])/2); ok {
		l = append(l, u)
	}
	slices.Sort(l)
	return slices.Compact(l)
}

// skips returns lists of spans for a plan that skips nothing: over all times, over none, and at, beside and between its times.
func skips(m *model) [][]api.Span {
	l := [][]api.Span{
		nil, {}, spans(0, 0), spans(end, end), spans(0, end), spans(1, end), spans(0, end-1), spans(1, end-1), spans(0, 0, end, end),
		spans(end/2, end, 0, end/2), spans(end/2+2, end, 0, end/2), reversed(row(0, end/most, end/most, most)), make([]api.Span, most), row(end-most+1, 1, 1, most),
	}
	for _, u := range marks(m) {
		l = append(l, spans(u, u), spans(u-1, u-1), spans(u+1, u+1), spans(u-1, u), spans(u, u+1), spans(u-1, u+1), spans(u+1, u+1, u-1, u-1))
		l = append(l, spans(0, u), spans(0, u-1), spans(u, end), spans(u+1, end), spans(0, u-1, u+1, end), spans(u+1, end, 0, u))
	}
	first := m.list(0, end, most)
	var single, whole []api.Span
	for i, u := range first {
		single = append(single, api.Span{From: u, To: u})
		if i > 0 {
			whole = append(whole, api.Span{From: first[i-1] + 1, To: u})
		}
	}
	l = append(l, single, reversed(single), whole, reversed(whole))
	for i := range l {
		l[i] = valid(l[i])
	}
	return l
}

// wrongTimes returns numbers that are no times.
func wrongTimes() []int64 {
	return []int64{-1, end + 1, -end, math.MinInt64, math.MaxInt64, api.Never, -api.Never}
}

// allowed reports whether a plan is valid, by its definition.
func allowed(p api.Plan) bool {
	switch p.Kind {
	case 0:
		return p.Expr == api.Expr{} && p.Zone == 0 && p.Every == api.Every{} && len(p.Skip) == 0
	case 1:
		return allowedExpr(p.Expr) && p.Zone >= -840 && p.Zone <= 840 && p.Every == api.Every{} && allowedSkip(p.Skip)
	case 2:
		e := p.Every
		return e.Start >= 0 && e.Start <= end && e.Period >= 1 && e.Period <= span && e.Count >= 0 && e.Count <= greatest && p.Expr == api.Expr{} && p.Zone == 0 && allowedSkip(p.Skip)
	}
	return false
}

// allowedExpr reports whether an expression is valid, by its definition.
func allowedExpr(x api.Expr) bool {
	for _, f := range []struct {
		set    uint64
		lo, hi int
		any    bool
	}{{x.Second, 0, 59, false}, {x.Minute, 0, 59, false}, {x.Hour, 0, 23, false}, {x.Day, 1, 31, x.AnyDay}, {x.Month, 1, 12, false}, {x.Week, 0, 6, x.AnyWeek}} {
		full := uint64(0)
		for v := f.lo; v <= f.hi; v++ {
			full |= 1 << v
		}
		if f.set == 0 || f.set&^full != 0 || f.any && f.set != full {
			return false
		}
	}
	return true
}

// allowedSkip reports whether a list of spans is valid, by its definition.
func allowedSkip(l []api.Span) bool {
	for _, s := range l {
		if s.From < 0 || s.To > end || s.From > s.To {
			return false
		}
	}
	return len(l) <= 64
}

// TestModel checks the model against the definition, second by second.
func TestModel(t *testing.T) {
	for _, p := range simple() {
		for _, from := range windows(p) {
			m := modelOf(but(p, valid(spans(from+20, from+25, from+24, from+31, from+90, from+90))))
			n := m.count(0, from-1)
			for u := from; u < from+300 && u <= end; u++ {
				if has(m.p, u) {
					n++
				}
				if got := m.count(0, u); got != n {
					t.Fatalf("the model of %v counts %d times up to %d, want %d", m.p, got, u, n)
				}
			}
		}
	}
}

// windows returns where stretches of seconds begin that are looked at one by one.
func windows(p api.Plan) []int64 {
	l := []int64{0, end - 299, 951782400 - 60*int64(p.Zone) - 100}
	for _, u := range marks(modelOf(p)) {
		l = append(l, max(u-100, 0))
	}
	return l
}
