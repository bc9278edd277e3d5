package plan_test

import (
	"fmt"
	"math"
	"slices"
	"testing"

	"wakeman/api"
	"wakeman/plan"
)

// The plans of the chapter's examples.
func planD() api.Plan { return cron("0 0 * * *", 0) }
func planE() api.Plan { return each(10, 60, 3) }
func planS() api.Plan { return each(10, 60, 3, spans(60, 80)...) }

// show writes a plan, of a long Skip just its beginning and its length.
func show(p api.Plan) string {
	if len(p.Skip) <= 5 {
		return fmt.Sprint(p)
	}
	return fmt.Sprintf("%v and %d spans", but(p, p.Skip[:4]), len(p.Skip))
}

// brief writes a list of times, of a long one just its beginning, its end and its length.
func brief(l []int64) string {
	if len(l) <= 20 {
		return fmt.Sprint(l)
	}
	return fmt.Sprintf("%v ... %v (%d)", l[:3], l[len(l)-3:], len(l))
}

func checkCheck(t *testing.T, p api.Plan, err api.Errno) {
	t.Helper()
	if e := plan.Check(p); e != err {
		t.Errorf("Check(%s) = %d, want %d", show(p), e, err)
	}
}

func checkIs(t *testing.T, p api.Plan, u int64, want bool, err api.Errno) {
	t.Helper()
	if got, e := plan.Is(p, u); got != want || e != err {
		t.Errorf("Is(%s, %d) = %t, %d, want %t, %d", show(p), u, got, e, want, err)
	}
}

func checkNext(t *testing.T, p api.Plan, u, want int64, is bool, err api.Errno) {
	t.Helper()
	if got, ok, e := plan.Next(p, u); got != want || ok != is || e != err {
		t.Errorf("Next(%s, %d) = %d, %t, %d, want %d, %t, %d", show(p), u, got, ok, e, want, is, err)
	}
}

func checkList(t *testing.T, p api.Plan, a, b int64, n int, want []int64, err api.Errno) {
	t.Helper()
	if got, e := plan.List(p, a, b, n); !slices.Equal(got, want) || e != err {
		t.Errorf("List(%s, %d, %d, %d) = %s, %d, want %s, %d", show(p), a, b, n, brief(got), e, brief(want), err)
	}
}

func checkCount(t *testing.T, p api.Plan, a, b, want int64, err api.Errno) {
	t.Helper()
	if got, e := plan.Count(p, a, b); int64(got) != want || e != err {
		t.Errorf("Count(%s, %d, %d) = %d, %d, want %d, %d", show(p), a, b, got, e, want, err)
	}
}

func checkDue(t *testing.T, l []api.Plan, u int64, want []int, err api.Errno) {
	t.Helper()
	if got, e := plan.Due(l, u); !slices.Equal(got, want) || e != err {
		t.Errorf("Due of %d plans at %d = %v, %d, want %v, %d", len(l), u, got, e, want, err)
	}
}

// checkEqual checks Equal in both orders of the plans.
func checkEqual(t *testing.T, a, b api.Plan, want bool) {
	t.Helper()
	if got, other := plan.Equal(a, b), plan.Equal(b, a); got != want || other != want {
		t.Errorf("Equal of %s and %s = %t, and %t in the other order, want %t", show(a), show(b), got, other, want)
	}
}

// refuses checks that each function returns an error for a plan, with some times.
func refuses(t *testing.T, p api.Plan, err api.Errno, a, b int64) {
	t.Helper()
	checkIs(t, p, a, false, err)
	checkNext(t, p, a, 0, false, err)
	for _, n := range []int{math.MinInt, -1, 0, 1, 5, longest, math.MaxInt} {
		checkList(t, p, a, b, n, nil, err)
		checkList(t, p, b, a, n, nil, err)
	}
	checkCount(t, p, a, b, 0, err)
	checkCount(t, p, b, a, 0, err)
	checkDue(t, []api.Plan{p}, a, nil, err)
}

// wrong checks that a plan is not valid, and that this comes before what is wrong with times.
func wrong(t *testing.T, p api.Plan) {
	t.Helper()
	checkCheck(t, p, api.ErrRule)
	for _, u := range append(wrongTimes(), 0, 70, end) {
		refuses(t, p, api.ErrRule, u, 130)
		refuses(t, p, api.ErrRule, u, end+1)
	}
}

// P12.1 to P12.5: the examples.
func TestExamples(t *testing.T) {
	d, e, s := planD(), planE(), planS()
	checkNext(t, d, 0, 86400, true, api.OK)
	checkNext(t, e, 0, 10, true, api.OK)
	checkNext(t, e, 10, 70, true, api.OK)
	checkNext(t, e, 130, 0, false, api.OK)
	checkNext(t, s, 10, 130, true, api.OK)
	checkList(t, s, 0, 1000, 9, []int64{10, 130}, api.OK)
	checkCount(t, s, 0, 1000, 2, api.OK)
	checkIs(t, s, 70, false, api.OK)
	checkIs(t, e, 70, true, api.OK)
	checkDue(t, []api.Plan{d, e, s}, 86400, []int{0}, api.OK)
	checkDue(t, []api.Plan{d, e, s}, 70, []int{1}, api.OK)
	checkDue(t, []api.Plan{d, e, s}, 130, []int{1, 2}, api.OK)
	checkCheck(t, api.Plan{Zone: 5}, api.ErrRule)
	checkCheck(t, api.Plan{Kind: 3}, api.ErrRule)
}

// P12.1: plans that are valid, up to the limits of their fields.
func TestCheck(t *testing.T) {
	for _, p := range simple() {
		checkCheck(t, p, api.OK)
		checkCheck(t, but(p, []api.Span{}), api.OK)
		checkCheck(t, but(p, make([]api.Span, 0, 5)), api.OK)
		if p.Kind == api.PlanNone {
			continue
		}
		for _, skip := range [][]api.Span{spans(0, 0), spans(end, end), spans(0, end), spans(5, 9, 5, 9), spans(7, 9, 1, 8), row(0, 2, 1, most-1), row(0, 2, 1, most), reversed(row(0, end/most, end/most, most)), make([]api.Span, most)} {
			checkCheck(t, but(p, skip), api.OK)
		}
	}
	for zone := -lastZone; zone <= lastZone; zone++ {
		checkCheck(t, cron("0 0 * * *", zone), api.OK)
	}
	for _, start := range []int64{0, 1, end - 1, end} {
		for _, period := range []int64{1, 2, span - 1, span} {
			for _, count := range []int{0, 1, greatest - 1, greatest} {
				checkCheck(t, each(start, period, count), api.OK)
			}
		}
	}
}

// P12.1: kinds that do not exist, with all fields of the kinds that do.
func TestKinds(t *testing.T) {
	for _, kind := range []int{-1, -2, 3, 4, 256, 257, 258, math.MinInt, math.MaxInt, math.MinInt + 1, math.MinInt + 2, 1 << 32, 1<<32 + 1, 1<<32 + 2} {
		for _, p := range []api.Plan{{}, planD(), planE(), planS()} {
			p.Kind = kind
			wrong(t, p)
		}
	}
	// The fields of one kind with the number of another one.
	for _, p := range simple() {
		for kind := range 3 {
			if kind != p.Kind {
				wrong(t, api.Plan{Kind: kind, Expr: p.Expr, Zone: p.Zone, Every: p.Every, Skip: spans(3, 4)})
			}
			if kind > 0 && kind != p.Kind {
				wrong(t, api.Plan{Kind: kind, Expr: p.Expr, Zone: p.Zone, Every: p.Every})
			}
		}
	}
}

// change makes a plan differ in a single field.
type change func(p *api.Plan)

// cronChanges returns changes of the fields of which a schedule has no use; none leaves anything as it was.
func cronChanges() []change {
	x := cron("0 0 * * *", 0).Expr
	return []change{
		func(p *api.Plan) { p.Expr.Second ^= x.Second },
		func(p *api.Plan) { p.Expr.Minute ^= x.Minute },
		func(p *api.Plan) { p.Expr.Hour ^= x.Hour },
		func(p *api.Plan) { p.Expr.Day ^= x.Day },
		func(p *api.Plan) { p.Expr.Month ^= x.Month },
		func(p *api.Plan) { p.Expr.Week ^= x.Week },
		func(p *api.Plan) { p.Expr.Second ^= 1 << 63 },
		func(p *api.Plan) { p.Expr.Day ^= 1 },
		func(p *api.Plan) { p.Expr.AnyDay = !p.Expr.AnyDay },
		func(p *api.Plan) { p.Expr.AnyWeek = !p.Expr.AnyWeek },
		func(p *api.Plan) { p.Zone += 5 },
		func(p *api.Plan) { p.Zone -= 1 },
		func(p *api.Plan) { p.Zone += 1 << 32 },
	}
}

// everyChanges returns changes of the fields of which an expression has no use.
func everyChanges() []change {
	return []change{
		func(p *api.Plan) { p.Every.Start++ },
		func(p *api.Plan) { p.Every.Start -= day },
		func(p *api.Plan) { p.Every.Period++ },
		func(p *api.Plan) { p.Every.Period -= day },
		func(p *api.Plan) { p.Every.Count++ },
		func(p *api.Plan) { p.Every.Count -= 5 },
	}
}

// changes returns changes of all fields but Kind and Skip.
func changes() []change { return append(cronChanges(), everyChanges()...) }

// P12.1: fields that have to be zero, and one of them is not.
func TestNotZero(t *testing.T) {
	for _, x := range []struct {
		plans   []api.Plan
		changes []change
	}{
		{[]api.Plan{{}}, changes()},
		{[]api.Plan{planE(), planS(), each(0, 1, 0)}, cronChanges()},
		{[]api.Plan{planD(), cron("* * * * *", 60, spans(60, 80)...)}, everyChanges()},
	} {
		for _, p := range x.plans {
			for _, change := range x.changes {
				q := p
				change(&q)
				wrong(t, q)
			}
		}
	}
	d, e := planD(), planE()
	wrong(t, api.Plan{Expr: d.Expr})
	wrong(t, api.Plan{Every: e.Every})
	wrong(t, api.Plan{Expr: d.Expr, Every: e.Every})
	wrong(t, api.Plan{Kind: api.PlanCron, Expr: d.Expr, Every: e.Every})
	wrong(t, api.Plan{Kind: api.PlanEvery, Expr: d.Expr, Every: e.Every})
	for _, skip := range [][]api.Span{spans(0, 0), spans(60, 80), spans(5, 4), spans(-1, -1), make([]api.Span, most), make([]api.Span, most+1)} {
		wrong(t, api.Plan{Skip: skip})
	}
}

// P12.1: an expression of which one field is empty, or has a number too many, or is not full although it was a star.
func TestWrongExpressions(t *testing.T) {
	for _, x := range []func(x *api.Expr){
		func(x *api.Expr) { *x = api.Expr{} },
		func(x *api.Expr) { x.Second = 0 }, func(x *api.Expr) { x.Minute = 0 }, func(x *api.Expr) { x.Hour = 0 }, func(x *api.Expr) { x.Day = 0 }, func(x *api.Expr) { x.Month = 0 }, func(x *api.Expr) { x.Week = 0 },
		func(x *api.Expr) { x.Second |= 1 << 60 }, func(x *api.Expr) { x.Minute |= 1 << 60 }, func(x *api.Expr) { x.Hour |= 1 << 24 }, func(x *api.Expr) { x.Day |= 1 << 32 }, func(x *api.Expr) { x.Day |= 1 }, func(x *api.Expr) { x.Month |= 1 << 13 }, func(x *api.Expr) { x.Month |= 1 }, func(x *api.Expr) { x.Week |= 1 << 7 },
		func(x *api.Expr) { x.Second = math.MaxUint64 }, func(x *api.Expr) { x.Day &^= 1 << 31 }, func(x *api.Expr) { x.Week &^= 1 },
	} {
		for _, skip := range [][]api.Span{nil, spans(60, 80)} {
			p := cron("* * * * *", 60, skip...)
			x(&p.Expr)
			wrong(t, p)
		}
	}
	for _, text := range []string{"0 0 13 * *", "0 0 * * 5"} {
		p := cron(text, 0)
		p.Expr.AnyDay, p.Expr.AnyWeek = true, true
		wrong(t, p)
	}
}

// P12.1: zones just beyond the ends, and far beyond.
func TestWrongZones(t *testing.T) {
	for _, zone := range []int{-841, 841, -1440, 1440, math.MinInt, math.MaxInt, 1 << 32, 1<<32 + 60, -1 << 32} {
		wrong(t, cron("0 0 * * *", zone))
		wrong(t, cron("0 0 30 2 *", zone, spans(60, 80)...))
	}
}

// P12.1: a schedule of which one field is not as it has to be.
func TestWrongSchedules(t *testing.T) {
	for _, skip := range [][]api.Span{nil, spans(60, 80)} {
		wrong(t, each(0, 0, 0, skip...))
		for _, u := range wrongTimes() {
			wrong(t, each(u, 60, 3, skip...))
		}
		for _, period := range []int64{0, -1, span + 1, math.MinInt64, math.MaxInt64} {
			wrong(t, each(10, period, 3, skip...))
		}
		for _, count := range []int{-1, greatest + 1, math.MinInt, math.MaxInt} {
			wrong(t, each(10, 60, count, skip...))
		}
	}
}

// P12.1: too many spans, and a span at any place that is not valid.
func TestWrongSpans(t *testing.T) {
	for _, p := range []api.Plan{planD(), planE(), cron("0 0 30 2 *", 0)} {
		for _, n := range []int{most + 1, most + 2, 2 * most, 1000} {
			wrong(t, but(p, make([]api.Span, n)))
			wrong(t, but(p, row(0, 2, 1, n)))
		}
		for _, s := range spans(5, 4, end, 0, -1, 5, 5, -1, -1, -1, end+1, end+1, 0, end+1, math.MinInt64, math.MaxInt64, api.Never, api.Never) {
			for _, l := range [][]api.Span{{s}, {{From: 0, To: end}, s}, {s, {From: 3, To: 5}, {From: 3, To: 5}}, with(row(0, 3, 2, most), most-1, s), with(row(0, 3, 2, most), 31, s)} {
				wrong(t, but(p, l))
			}
		}
	}
}

// P12.1, R7: times that are not valid, for valid plans of each kind; of two the first, the second, or both.
func TestWrongTimes(t *testing.T) {
	for _, p := range append(simple(), planS(), cron("* * * * * *", 0, spans(0, end)...)) {
		for _, u := range wrongTimes() {
			for _, v := range append(wrongTimes(), 0, 70, end) {
				refuses(t, p, api.ErrTime, u, v)
			}
		}
	}
}

// P12.2: at the first and the last time of a plan, just beside them, at 0 and at MaxTime; with spans at and beside its times.
func TestIsNext(t *testing.T) {
	for _, x := range []struct {
		p    api.Plan
		u    int64
		is   bool
		next int64
		ok   bool
	}{
		{api.Plan{}, 0, false, 0, false}, {api.Plan{}, 5, false, 0, false}, {api.Plan{}, end, false, 0, false},
		{planE(), 0, false, 10, true}, {planE(), 9, false, 10, true}, {planE(), 10, true, 70, true}, {planE(), 11, false, 70, true}, {planE(), 129, false, 130, true}, {planE(), 130, true, 0, false}, {planE(), 131, false, 0, false}, {planE(), 190, false, 0, false}, {planE(), end, false, 0, false},
		{each(0, 5, 0), 0, true, 5, true}, {each(0, 1, 0), end - 1, true, end, true}, {each(0, 1, 0), end, true, 0, false}, {each(end, 1, 0), 0, false, end, true}, {each(end, 1, 0), end - 1, false, end, true}, {each(end, 1, 0), end, true, 0, false},
		{planD(), 0, true, 86400, true}, {planD(), 1, false, 86400, true}, {planD(), 86399, false, 86400, true}, {planD(), 86400, true, 172800, true}, {planD(), end, false, 0, false}, {planD(), end - 86399, true, 0, false}, {planD(), end - 86400, false, end - 86399, true},
		{cron("0 0 * * *", 60), 0, false, 82800, true}, {cron("0 0 * * *", 60), 82800, true, 169200, true}, {cron("0 0 * * *", -60), 0, false, 3600, true}, {cron("0 0 * * *", -60), end, false, 0, false},
		// The last local hour of 9999, or the first one of 1970, is cut off.
		{cron("* * * * * *", 60), end - 3600, true, 0, false}, {cron("* * * * * *", 60), end - 3601, true, end - 3600, true}, {cron("* * * * * *", 60), end, false, 0, false}, {cron("* * * * * *", -60), 0, false, 3600, true}, {cron("* * * * * *", -60), 3600, true, 3601, true},
		{cron("0 0 30 2 *", 0), 0, false, 0, false}, {cron("0 0 30 2 *", 840), end, false, 0, false}, {cron("0 0 31 4,6 *", -840), 5, false, 0, false},
		// Spans that end or begin at a time, or just beside it.
		{planS(), 10, true, 130, true}, {planS(), 69, false, 130, true}, {planS(), 70, false, 130, true}, {planS(), 9, false, 10, true}, {planS(), 130, true, 0, false},
		{each(10, 60, 3, spans(10, 10)...), 0, false, 70, true}, {each(10, 60, 3, spans(10, 10)...), 10, false, 70, true}, {each(10, 60, 3, spans(0, 9)...), 0, false, 10, true}, {each(10, 60, 3, spans(0, 10)...), 0, false, 70, true}, {each(10, 60, 3, spans(11, 69)...), 10, true, 70, true}, {each(10, 60, 3, spans(11, 70)...), 10, true, 130, true}, {each(10, 60, 3, spans(70, 129)...), 70, false, 130, true}, {each(10, 60, 3, spans(70, 130)...), 10, true, 0, false},
		{each(10, 60, 3, spans(130, 130)...), 70, true, 0, false}, {each(10, 60, 3, spans(131, end)...), 70, true, 130, true}, {each(10, 60, 3, spans(130, end)...), 70, true, 0, false}, {each(10, 60, 3, spans(0, end)...), 10, false, 0, false}, {each(10, 60, 3, spans(10, 10, 130, 130, 70, 70)...), 0, false, 0, false}, {each(10, 60, 3, spans(70, 70, 10, 10)...), 0, false, 130, true},
		{each(0, 1, 0, spans(end, end)...), end - 1, true, 0, false}, {each(0, 1, 0, spans(0, end-1)...), 0, false, end, true}, {each(0, 1, 0, spans(0, 0)...), 0, false, 1, true}, {each(0, 1, 0, spans(0, end/2, end/2+2, end)...), 0, false, end/2 + 1, true},
		{cron("* * * * * *", 0, spans(0, end)...), 0, false, 0, false}, {cron("* * * * * *", 0, spans(0, 9, 10, 20)...), 0, false, 21, true}, {cron("* * * * * *", 0, spans(0, 9, 11, 20)...), 0, false, 10, true},
	} {
		checkIs(t, x.p, x.u, x.is, api.OK)
		checkNext(t, x.p, x.u, x.next, x.ok, api.OK)
	}
}

// P12.2, P12.3: where the times up to the next one are far too many to look at each of them.
func TestLongSkips(t *testing.T) {
	touching := reversed(row(0, end/most, end/most, most))
	left := end - end%most
	for _, p := range []api.Plan{cron("* * * * * *", 0), each(0, 1, 0)} {
		checkNext(t, but(p, spans(0, end-1)), 0, end, true, api.OK)
		checkNext(t, but(p, spans(1, end-1)), 0, end, true, api.OK)
		checkNext(t, but(p, spans(1, end)), 0, 0, false, api.OK)
		checkNext(t, but(p, touching), 0, left, true, api.OK)
		checkNext(t, but(p, with(touching, 0, api.Span{From: left / 2, To: end})), 0, 0, false, api.OK)
		checkList(t, but(p, touching), 0, end, 3, []int64{left, left + 1, left + 2}, api.OK)
		checkList(t, but(p, spans(2, end-2)), 0, end, 9, []int64{0, 1, end - 1, end}, api.OK)
		checkList(t, but(p, spans(0, end)), 0, end, 9, nil, api.OK)
		checkCount(t, p, 0, end, end+1, api.OK)
		checkCount(t, but(p, spans(5, 9)), 0, end, end-4, api.OK)
		checkCount(t, but(p, touching), 0, end, end-left+1, api.OK)
		checkCount(t, but(p, spans(0, end)), 0, end, 0, api.OK)
		// One time is left between any two spans.
		holes := row(0, end/most, end/most-1, most)
		for i := range int64(most) {
			checkNext(t, but(p, holes), i*(end/most), (i+1)*(end/most)-1, true, api.OK)
		}
		checkCount(t, but(p, holes), 0, left-1, most, api.OK)
	}
	// The last 29 February but one, and the last one, in the years 9992 and 9996.
	years := cron("0 0 29 2 *", 0)
	checkNext(t, but(years, spans(0, 253154937599)), 0, 253154937600, true, api.OK)
	checkNext(t, but(years, spans(0, 253154937600)), 0, 253281168000, true, api.OK)
	checkNext(t, but(years, spans(0, 253281168000)), 0, 0, false, api.OK)
}

// P12.3: none, one, as many as there are, one fewer, one more, and more than a list may have; spans of which the first time is the last one, or a later one.
func TestList(t *testing.T) {
	for _, x := range []struct {
		p    api.Plan
		a, b int64
		all  []int64
	}{
		{api.Plan{}, 0, end, nil}, {planE(), 0, end, []int64{10, 70, 130}}, {planE(), 10, 130, []int64{10, 70, 130}}, {planE(), 11, 129, []int64{70}}, {planE(), 70, 70, []int64{70}}, {planE(), 11, 69, nil}, {planE(), 131, end, nil}, {planE(), end, end, nil}, {planE(), 0, 0, nil}, {planE(), 0, 9, nil}, {planE(), 0, 10, []int64{10}},
		{planE(), 130, 10, nil}, {planE(), 71, 70, nil}, {planE(), 70, 69, nil}, {planE(), 10, 9, nil}, {planE(), end, 0, nil}, {planS(), 10, 9, nil}, {planD(), 86400, 86399, nil}, {planD(), end, 0, nil}, {planD(), 1, 0, nil},
		{planS(), 0, end, []int64{10, 130}}, {planS(), 60, 80, nil}, {planS(), 59, 130, []int64{130}}, {planS(), 10, 129, []int64{10}},
		{each(0, 1, 0), 0, 3, []int64{0, 1, 2, 3}}, {each(0, 1, 0), end - 2, end, []int64{end - 2, end - 1, end}}, {each(0, 1, 0), end, end, []int64{end}}, {each(0, 1, 0), 0, 0, []int64{0}}, {each(end, 1, 0), 0, end, []int64{end}}, {each(end, 1, 0), 0, end - 1, nil},
		{each(0, 1, 0, spans(2, 4, 6, 6)...), 0, 8, []int64{0, 1, 5, 7, 8}}, {each(0, 1, 0, spans(2, 4, 6, 6)...), 2, 6, []int64{5}}, {each(0, 1, 0, spans(2, 4, 6, 6)...), 3, 4, nil}, {each(0, 1, 0, spans(0, 7, 9, end)...), 0, end, []int64{8}}, {each(0, 1, 0, spans(0, 7, 8, end)...), 0, end, nil},
		{planD(), 0, 3 * day, []int64{0, day, 2 * day, 3 * day}}, {planD(), 1, 3*day - 1, []int64{day, 2 * day}}, {planD(), end - day, end, []int64{end - day + 1}}, {planD(), end - day + 2, end, nil}, {cron("0 0 30 2 *", 0), 0, end, nil},
		{cron("0 0 * * *", 60, spans(82800, 82800)...), 0, 3 * day, []int64{82800 + day, 82800 + 2*day}}, {cron("* * * * * *", -840), 0, 50402, []int64{50400, 50401, 50402}}, {cron("* * * * * *", 840), end - 50401, end, []int64{end - 50401, end - 50400}},
	} {
		n := len(x.all)
		for _, k := range []int{math.MinInt, -longest, -1, 0, 1, 2, n - 1, n, n + 1, 9, longest - 1, longest, longest + 1, math.MaxInt} {
			checkList(t, x.p, x.a, x.b, k, x.all[:min(n, max(k, 0))], api.OK)
		}
		checkCount(t, x.p, x.a, x.b, int64(n), api.OK)
	}
}

// P12.3: no list is longer than 100,000; Count counts all.
func TestLongest(t *testing.T) {
	for _, x := range []struct {
		p    api.Plan
		from int64
	}{
		{each(0, 1, 0), 5}, {cron("* * * * * *", 0), 5}, {each(0, 1, 0, spans(0, 99, 205, 300)...), 100}, {cron("* * * * * *", -60, spans(0, 3700)...), 3701}, {each(7, 1, greatest), 7},
	} {
		for _, n := range []int{longest - 1, longest, longest + 1, math.MaxInt} {
			for _, there := range []int64{longest - 1, longest, longest + 1} {
				to := x.from + there - 1
				for _, s := range x.p.Skip {
					if s.From > x.from {
						to += s.To - s.From + 1
					}
				}
				var want []int64
				for u := x.from; len(want) < min(n, int(there), longest); u++ {
					if !skipped(x.p.Skip, u) {
						want = append(want, u)
					}
				}
				checkList(t, x.p, x.from, to, n, want, api.OK)
				checkCount(t, x.p, x.from, to, there, api.OK)
			}
		}
	}
}

// agrees checks all functions that ask for times, from one and up to another one.
func agrees(t *testing.T, m *model, a, b int64) {
	t.Helper()
	checkIs(t, m.p, a, has(m.p, a), api.OK)
	next, ok := m.next(a)
	checkNext(t, m.p, a, next, ok, api.OK)
	if a > b {
		checkList(t, m.p, a, b, 3, nil, api.OK)
		checkCount(t, m.p, a, b, 0, api.OK)
		return
	}
	checkList(t, m.p, a, b, 3, m.list(a, b, 3), api.OK)
	checkCount(t, m.p, a, b, m.count(a, b), api.OK)
}

// P12.2, P12.3, P12.6, P12.7: by the definitions, second by second, where nothing is skipped, and with spans amid.
func TestSeconds(t *testing.T) {
	for _, p := range simple() {
		for _, from := range windows(p) {
			for _, skip := range [][]api.Span{nil, spans(from+20, from+25, from+24, from+31, from+90, from+90), spans(from+99, from+101, from, from+3, from+200, end)} {
				if p.Kind == api.PlanNone {
					skip = nil
				}
				q := but(p, valid(skip))
				to := min(from+299, end)
				var l []int64
				for u := from; u <= to; u++ {
					is := has(q, u)
					checkIs(t, q, u, is, api.OK)
					if is {
						l = append(l, u)
					}
				}
				checkList(t, q, from, to, longest, l, api.OK)
				checkCount(t, q, from, to, int64(len(l)), api.OK)
				before := from
				for _, u := range l {
					for v := before; v < u; v += max(1, (u-before)/3) {
						checkNext(t, q, v, u, true, api.OK)
					}
					before = u
				}
			}
		}
	}
}

// P12.2, P12.3, P12.7: by the definitions, for plans of many kinds, whose times are all skipped, or all but a few, or none: at, beside and between the ends of spans and the first and last times.
func TestSkips(t *testing.T) {
	next := chance(12)
	for _, p := range simple() {
		if p.Kind == api.PlanNone {
			continue
		}
		bare := modelOf(p)
		for _, skip := range skips(bare) {
			m := modelOf(but(p, skip))
			at := []int64{0, 1, end - 1, end, next(end + 1)}
			for _, u := range marks(m) {
				at = append(at, u-1, u, u+1)
			}
			for range 4 {
				if len(skip) > 0 {
					s := skip[next(int64(len(skip)))]
					at = append(at, s.From-1, s.From, s.To, s.To+1)
				}
			}
			at = slices.DeleteFunc(at, func(u int64) bool { return u < 0 || u > end })
			// Counts over thousands of years take the longest.
			for _, u := range at {
				v := min(u+next(3*day), end)
				if next(8) == 0 {
					v = at[next(int64(len(at)))]
				}
				agrees(t, m, u, v)
			}
		}
	}
}

// drawn returns a valid plan that skips some spans, short and long ones, near the times that it is asked about.
func drawn(next func(int64) int64, near int64) api.Plan {
	l := simple()
	p := l[1+next(int64(len(l)-1))]
	n := next(6)
	if next(5) == 0 {
		n = next(most)
	}
	width := []int64{10, 500, 2 * day, 800 * day, end / 3}[next(5)]
	for range n {
		from := near + next(2*width) - width
		p.Skip = append(p.Skip, api.Span{From: from, To: from + next(width)/(1+next(9))})
	}
	p.Skip = valid(p.Skip)
	return p
}

// P12.6: Next is a time of the plan, and between t and it there is none; the times of List are those that Next finds one after the other.
func TestSteps(t *testing.T) {
	next := chance(6)
	for range 1500 {
		a := []int64{next(200), next(end + 1), end - next(10*day), next(400 * day)}[next(4)]
		p := drawn(next, a)
		l, err := plan.List(p, a, end, 8)
		if err != api.OK {
			t.Fatal(show(p), err)
		}
		before := a
		if is, _ := plan.Is(p, a); is {
			if len(l) == 0 || l[0] != a {
				t.Fatalf("List(%s, %d, ...) = %v", show(p), a, l)
			}
		}
		for i, u := range l {
			if i > 0 || u > a {
				checkNext(t, p, before, u, true, api.OK)
			}
			checkIs(t, p, u, true, api.OK)
			if a > 0 && i == 0 {
				checkNext(t, p, a-1, u, true, api.OK)
			}
			if u > before+1 {
				checkCount(t, p, before+1, u-1, 0, api.OK)
				checkIs(t, p, before+1+next(u-before-1), false, api.OK)
			}
			before = u
		}
		if len(l) < 8 {
			checkNext(t, p, before, 0, false, api.OK)
			checkCount(t, p, a, end, int64(len(l)), api.OK)
		}
	}
}

// P12.7: a further span takes away just the times in it.
func TestFurtherSpan(t *testing.T) {
	next := chance(7)
	for range 800 {
		a := []int64{next(200), next(end + 1), end - next(10*day)}[next(3)]
		p := drawn(next, a)
		if len(p.Skip) == most {
			continue
		}
		l, _ := plan.List(p, a, end, 30)
		var s api.Span
		if len(l) == 0 {
			continue
		}
		s.From = l[next(int64(len(l)))] + next(3) - 1
		s.To = max(s.From, l[next(int64(len(l)))]+next(3)-1)
		if s.From < 0 || s.To > end {
			continue
		}
		q := but(p, append(slices.Clone(p.Skip), s))
		left := slices.DeleteFunc(slices.Clone(l), func(u int64) bool { return u >= s.From && u <= s.To })
		checkList(t, q, a, l[len(l)-1], longest, left, api.OK)
		for _, u := range l {
			checkIs(t, q, u, u < s.From || u > s.To, api.OK)
		}
		all, _ := plan.Count(p, 0, end)
		gone, _ := plan.Count(p, s.From, s.To)
		checkCount(t, q, 0, end, int64(all-gone), api.OK)
		checkCount(t, q, s.From, s.To, 0, api.OK)
	}
}

// P12.8: the numbers of two spans, one behind the other, add up.
func TestSums(t *testing.T) {
	next := chance(8)
	for range 3000 {
		near := next(end + 1)
		p := drawn(next, near)
		at := []int64{near, next(end + 1), min(near+next(3*day), end)}
		for _, s := range p.Skip[:min(len(p.Skip), 2)] {
			at = append(at, s.From, s.To)
		}
		a, b, c := at[next(int64(len(at)))], at[next(int64(len(at)))], at[next(int64(len(at)))]
		a, b, c = min(a, b, c), max(min(a, b), min(max(a, b), c)), max(a, b, c)
		if b == c {
			continue
		}
		first, _ := plan.Count(p, a, b)
		second, _ := plan.Count(p, b+1, c)
		checkCount(t, p, a, c, int64(first)+int64(second), api.OK)
	}
}

// P12.4: plans that differ in one field, in one span, or in the order or the number of the spans, valid or not.
func TestEqual(t *testing.T) {
	for _, p := range []api.Plan{{}, planD(), planE(), planS(), cron("0 0 13 * 5", 60, row(3, 5, 2, 4)...), {Kind: -7, Expr: planD().Expr, Zone: 9999, Every: api.Every{Start: -5, Period: -6, Count: -7}, Skip: spans(9, 2, -4, -4)}} {
		different := []api.Plan{p}
		for _, kind := range []int{p.Kind + 1, p.Kind - 1, p.Kind + 1<<32, math.MinInt} {
			q := p
			q.Kind = kind
			different = append(different, q)
		}
		for _, change := range changes() {
			q := p
			change(&q)
			different = append(different, q)
		}
		longer := append(slices.Clone(p.Skip), api.Span{From: 1, To: 2})
		different = append(different, but(p, longer), but(p, append(slices.Clone(longer), api.Span{})), but(p, append(slices.Clone(longer), api.Span{From: 1, To: 2})), but(p, append(slices.Clone(p.Skip), make([]api.Span, most+1)...)))
		for i, s := range longer {
			for _, r := range spans(s.From+1, s.To, s.From, s.To+1, s.From, s.To-1, s.From-1, s.To, math.MinInt64, s.To, s.From, math.MaxInt64) {
				different = append(different, but(p, with(longer, i, r)))
			}
		}
		if len(longer) > 1 {
			different = append(different, but(p, reversed(longer)), but(p, longer[1:]))
		}
		if len(longer) > 2 {
			different = append(different, but(p, with(with(longer, 0, longer[1]), 1, longer[0])))
		}
		for i, a := range different {
			for j, b := range different {
				checkEqual(t, a, b, i == j)
			}
			// Equal elements elsewhere in memory, and elements behind the end.
			checkEqual(t, a, but(a, append(make([]api.Span, 0, 200), a.Skip...)), true)
			checkEqual(t, a, plan.Copy(a), true)
		}
		checkEqual(t, but(p, nil), but(p, []api.Span{}), true)
		checkEqual(t, but(p, nil), but(p, longer[:0]), true)
		checkEqual(t, but(p, nil), but(p, make([]api.Span, 1)), false)
	}
}

// P12.4, R4: a copy has the same fields, valid or not, and neither of both changes the other one.
func TestCopy(t *testing.T) {
	plans := append(simple(), planS(), api.Plan{Kind: -7, Expr: api.Expr{Second: math.MaxUint64, AnyWeek: true}, Zone: 9999, Every: api.Every{Start: -5, Period: -6, Count: -7}, Skip: spans(9, 2, -4, -4)}, each(5, 6, 7, make([]api.Span, most+1)...), cron("0 0 13 * 5", -5, row(0, 3, 1, most)...), api.Plan{Kind: 3}, api.Plan{Zone: math.MinInt, Skip: []api.Span{}})
	for _, p := range plans {
		whole := append(slices.Clone(p.Skip), spans(71, 72, 73, 74)...)
		p.Skip = whole[:len(p.Skip)]
		before := fmt.Sprint(p, whole)
		c, other := plan.Copy(p), plan.Copy(p)
		if fmt.Sprint(c) != fmt.Sprint(p) || !plan.Equal(c, p) {
			t.Errorf("Copy(%s) = %s", show(p), show(c))
		}
		for i := range c.Skip[:cap(c.Skip)] {
			c.Skip[:cap(c.Skip)][i].From -= 17
		}
		if fmt.Sprint(p, whole) != before || !plan.Equal(other, p) {
			t.Errorf("with another copy, %s is now %s and %v, and the second copy %s", before, show(p), whole, show(other))
		}
		for i := range whole {
			whole[i].To += 18
		}
		if fresh := plan.Copy(p); len(p.Skip) > 0 && (plan.Equal(other, p) || !plan.Equal(fresh, p)) {
			t.Errorf("with another plan, the copies are %s and %s", show(other), show(fresh))
		}
	}
}

// P12.5: no plans, as many as allowed, one more, and many more; what is wrong with plans, before what is wrong with the time.
func TestDue(t *testing.T) {
	checkDue(t, nil, 0, nil, api.OK)
	checkDue(t, []api.Plan{}, end, nil, api.OK)
	checkDue(t, []api.Plan{{}, {}}, 70, nil, api.OK)
	checkDue(t, []api.Plan{planE()}, 70, []int{0}, api.OK)
	checkDue(t, []api.Plan{planS(), planE(), planS(), {}, planE(), planD()}, 70, []int{1, 4}, api.OK)
	checkDue(t, []api.Plan{planD(), each(0, 1, 1), {}, each(1, 1, 0)}, 0, []int{0, 1}, api.OK)
	checkDue(t, []api.Plan{each(end, 1, 0), planD(), each(0, 1, 0), each(0, 1, 0, spans(end, end)...)}, end, []int{0, 2}, api.OK)
	full := make([]api.Plan, api.MaxJobs)
	var all, odd []int
	for i := range full {
		full[i] = each(int64(i%2), 2, 0)
		all = append(all, i)
		if i%2 == 1 {
			odd = append(odd, i)
		}
	}
	checkDue(t, full, 7, odd, api.OK)
	checkDue(t, slices.Repeat([]api.Plan{planE()}, api.MaxJobs), 10, all, api.OK)
	checkDue(t, slices.Repeat([]api.Plan{planE()}, api.MaxJobs-1), 10, all[:api.MaxJobs-1], api.OK)
	checkDue(t, slices.Repeat([]api.Plan{planE()}, api.MaxJobs), 11, nil, api.OK)
	checkDue(t, make([]api.Plan, api.MaxJobs), 10, nil, api.OK)
	for _, u := range append(wrongTimes(), 0, 10, end) {
		for _, n := range []int{api.MaxJobs + 1, api.MaxJobs + 2, 2 * api.MaxJobs, 256 + 3, 65536 + 3} {
			checkDue(t, make([]api.Plan, n), u, nil, api.ErrMany)
			checkDue(t, slices.Repeat([]api.Plan{planE()}, n), u, nil, api.ErrMany)
			checkDue(t, slices.Repeat([]api.Plan{{Kind: 3}}, n), u, nil, api.ErrMany)
		}
		for _, p := range []api.Plan{{Kind: 3}, {Zone: 5}, each(10, 0, 3), cron("0 0 * * *", 841), each(10, 60, 3, spans(5, 4)...), each(10, 60, 3, spans(-1, 4)...), cron("0 0 * * *", 0, make([]api.Span, most+1)...)} {
			for i := range full {
				checkDue(t, with(full, i, p), u, nil, api.ErrRule)
			}
			checkDue(t, []api.Plan{p}, u, nil, api.ErrRule)
			checkDue(t, []api.Plan{p, p}, u, nil, api.ErrRule)
			checkDue(t, append([]api.Plan{p}, full...), u, nil, api.ErrMany)
		}
	}
	for _, u := range wrongTimes() {
		for _, l := range [][]api.Plan{nil, {}, {{}}, {planD()}, {planD(), planE(), planS()}, full} {
			checkDue(t, l, u, nil, api.ErrTime)
		}
	}
}

// P12.5: by the definition, for drawn plans at times that some of them have.
func TestDueAgrees(t *testing.T) {
	next := chance(5)
	for range 300 {
		near := []int64{next(200), next(end + 1), end - next(1000)}[next(3)]
		l := make([]api.Plan, next(api.MaxJobs+1))
		for i := range l {
			if next(8) > 0 {
				l[i] = drawn(next, near)
			}
		}
		at := []int64{0, near, end}
		for _, p := range l {
			if u, ok, _ := plan.Next(p, near); ok {
				at = append(at, u)
			}
		}
		for _, u := range at {
			var want []int
			for i, p := range l {
				if has(p, u) {
					want = append(want, i)
				}
			}
			checkDue(t, l, u, want, api.OK)
		}
	}
}

// called returns what all calls with two plans, two times and a number return.
func called(p, q api.Plan, a, b int64, n int) string {
	err1 := plan.Check(p)
	is, err2 := plan.Is(p, a)
	next, ok, err3 := plan.Next(p, a)
	l, err4 := plan.List(p, a, b, n)
	count, err5 := plan.Count(p, a, b)
	due, err6 := plan.Due([]api.Plan{p, q, p}, a)
	return fmt.Sprint(is, next, ok, l, count, due, plan.Equal(p, q), plan.Copy(p), err1, err2, err3, err4, err5, err6)
}

// R4: no call changes a plan, or reads or writes behind the end of its spans.
func TestArguments(t *testing.T) {
	for _, p := range []api.Plan{{}, planD(), planE(), planS(), cron("* * * * *", 60, spans(3, 9, 120, 130)...), each(0, 1, 0, reversed(row(2, 3, 1, most))...), each(0, 1, 0, spans(5, 4)...), {Kind: 3}, {Skip: spans(1, 2)}} {
		// What is behind the end of the spans would be an error in it, or take away all times.
		for _, behind := range [][]api.Span{spans(-5, -5, 9, 8), spans(0, end)} {
			whole := slices.Concat(p.Skip, behind)
			q := but(p, whole[:len(p.Skip)])
			want := called(but(p, slices.Clip(p.Skip)), planD(), 10, 1000, 9)
			if got := called(q, planD(), 10, 1000, 9); got != want {
				t.Errorf("with %v behind the spans of %s, the calls return %s, want %s", behind, show(p), got, want)
			}
			called(planD(), q, 10, 1000, 9)
			if !slices.Equal(whole, slices.Concat(p.Skip, behind)) || !slices.Equal(q.Skip, p.Skip) {
				t.Errorf("the spans %v are now %v", slices.Concat(p.Skip, behind), whole)
			}
		}
	}
	whole := []api.Plan{planE(), planS(), {Kind: 3}, planE()}
	checkDue(t, whole[:2], 130, []int{0, 1}, api.OK)
	for i, p := range []api.Plan{planE(), planS(), {Kind: 3}, planE()} {
		checkEqual(t, whole[i], p, true)
	}
}

// R4: results share no memory with each other.
func TestResults(t *testing.T) {
	l := []api.Plan{planE(), planS(), planE()}
	for range 2 {
		first, _ := plan.List(planE(), 0, 1000, 9)
		second, _ := plan.List(planE(), 0, 1000, 9)
		due, _ := plan.Due(l, 70)
		again, _ := plan.Due(l, 70)
		for i := range first[:cap(first)] {
			first[:cap(first)][i] = -9
		}
		for i := range due[:cap(due)] {
			due[:cap(due)][i] = -9
		}
		if !slices.Equal(second, []int64{10, 70, 130}) || !slices.Equal(again, []int{0, 2}) {
			t.Errorf("the second results are %v and %v", second, again)
		}
	}
}

// P1, R1, R8: every call ends without a panic, with the first error, and returns the same a second time.
func TestEveryArgument(t *testing.T) {
	next := chance(1)
	pick := func(l []int64) int64 { return l[next(int64(len(l)))] }
	sets := []int64{0, 1, 2, 1 << 23, 1 << 24, 1<<24 - 1, 1<<32 - 2, 1<<13 - 2, 1 << 6, 1 << 7, 1<<7 - 1, 1<<60 - 1, 1 << 60, math.MinInt64, -1}
	numbers := append(wrongTimes(), 0, 1, 5, 60, 70, 839, 840, 841, -840, -841, day, greatest, greatest+1, span, span+1, end-1, end)
	wild := func() api.Plan {
		var p api.Plan
		p.Kind = int(pick([]int64{-1, 0, 0, 0, 1, 1, 1, 2, 2, 2, 3, math.MinInt64, math.MaxInt64}))
		set := func() uint64 { return uint64(pick(sets)) }
		if next(2) == 0 {
			p.Expr = api.Expr{Second: set(), Minute: set(), Hour: set(), Day: set(), Month: set(), Week: set(), AnyDay: next(2) == 0, AnyWeek: next(2) == 0}
		}
		if next(2) == 0 {
			p.Zone = int(pick(numbers))
		}
		if next(2) == 0 {
			p.Every = api.Every{Start: pick(numbers), Period: pick(numbers), Count: int(pick(numbers))}
		}
		if next(2) == 0 {
			p.Skip = make([]api.Span, pick([]int64{0, 1, 2, 3, most, most + 1}))
			for i := range p.Skip {
				p.Skip[i] = api.Span{From: pick(numbers), To: pick(numbers)}
			}
		}
		return p
	}
	bent := func() api.Plan {
		p := drawn(next, pick([]int64{100, day, end - 100}))
		if next(2) == 0 {
			l := changes()
			l[next(int64(len(l)))](&p)
		}
		if len(p.Skip) > 0 && next(4) == 0 {
			p.Skip[next(int64(len(p.Skip)))] = api.Span{From: pick(numbers), To: pick(numbers)}
		}
		return p
	}
	for range 6000 {
		p, q := bent(), wild()
		if next(2) == 0 {
			p, q = q, p
		}
		a, b, n := pick(numbers), pick(numbers), int(pick([]int64{math.MinInt64, -1, 0, 1, 9, 200}))
		if one, two := called(p, q, a, b, n), called(p, q, a, b, n); one != two {
			t.Errorf("the calls with %s, %s, %d, %d and %d return %s, and then %s", show(p), show(q), a, b, n, one, two)
		}
		if !allowed(p) {
			checkCheck(t, p, api.ErrRule)
			refuses(t, p, api.ErrRule, a, b)
			continue
		}
		checkCheck(t, p, api.OK)
		if a < 0 || a > end {
			refuses(t, p, api.ErrTime, a, b)
			continue
		}
		if b < 0 || b > end {
			checkList(t, p, a, b, n, nil, api.ErrTime)
			checkCount(t, p, a, b, 0, api.ErrTime)
			continue
		}
		agrees(t, modelOf(p), a, b)
	}
}
