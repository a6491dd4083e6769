package under

import (
	"iter"
	"slices"
	"testing"

	"stereobate/api"
	"stereobate/flat"
	"stereobate/horn"
	"stereobate/leq"
	"stereobate/level"
)

const (
	minInt = -1 << 63
	maxInt = 1<<63 - 1
)

func leaf(kind, n int) api.Level { return api.Level{Kind: kind, N: n} }

func param(n int) api.Level { return leaf(api.Param, n) }

func node(kind int, kids ...api.Level) api.Level { return api.Level{Kind: kind, Kids: kids} }

func zero() api.Level { return leaf(api.Zero, 0) }

// up puts n Succs around l.
func up(n int, l api.Level) api.Level {
	for range n {
		l = node(api.Succ, l)
	}
	return l
}

func most(a, b api.Level) api.Level { return node(api.Max, a, b) }

func imax(a, b api.Level) api.Level { return node(api.Imax, a, b) }

// full is a tree of Max and Imax over l with 2^height times l and 2^height - 1 other levels.
func full(height int, l api.Level) api.Level {
	if height == 0 {
		return l
	}
	return node(api.Max+height%2, full(height-1, l), full(height-1, l))
}

func con(a, b api.Level) api.Con { return api.Con{A: a, B: b} }

func cons(cs ...api.Con) []api.Con { return cs }

func clause(to api.Atom, from ...api.Atom) api.Clause { return api.Clause{From: from, To: to} }

func atom(v, off int) api.Atom { return api.Atom{Var: v, Off: off} }

func sameClause(a, b api.Clause) bool { return slices.Equal(a.From, b.From) && a.To == b.To }

func sameClauses(as, bs []api.Clause) bool { return slices.EqualFunc(as, bs, sameClause) }

// someLevels is all levels of at most so much height over so many parameters.
func someLevels(height, params int) []api.Level {
	all := []api.Level{zero()}
	for n := range params {
		all = append(all, param(n))
	}
	if height == 0 {
		return all
	}
	below := someLevels(height-1, params)
	for _, a := range below {
		all = append(all, up(1, a))
		for _, b := range below {
			all = append(all, most(a, b), imax(a, b))
		}
	}
	return all
}

// grid yields all lists of so many numbers from 0 to high.
func grid(count, high int) iter.Seq[[]int] {
	return func(yield func([]int) bool) {
		ns := make([]int, count)
		for {
			if !yield(slices.Clone(ns)) {
				return
			}
			i := 0
			for i < count && ns[i] == high {
				ns[i] = 0
				i++
			}
			if i == count {
				return
			}
			ns[i]++
		}
	}
}

// draw returns a function whose numbers are less than its argument, and hang on its earlier calls alone.
func draw() func(count int) int {
	n := 1
	return func(count int) int {
		n = n*48271%(1<<31-1) + 1
		return n / 7 % count
	}
}

// table is a level with its values at all points of a grid.
type table struct {
	l      api.Level
	values []int
}

func tableOf(t *testing.T, l api.Level, points [][]int) table {
	t.Helper()
	out := table{l: l}
	for _, at := range points {
		out.values = append(out.values, mustEval(t, l, at))
	}
	return out
}

// tables is those levels with their values; of levels with the same values only the first one is kept.
func tables(t *testing.T, ls []api.Level, points [][]int) []table {
	t.Helper()
	var out []table
	for _, l := range ls {
		x := tableOf(t, l, points)
		if !slices.ContainsFunc(out, func(y table) bool { return slices.Equal(x.values, y.values) }) {
			out = append(out, x)
		}
	}
	return out
}

func mustEval(t *testing.T, l api.Level, at []int) int {
	t.Helper()
	n, e := level.Eval(l, at, nil)
	if e != api.OK {
		t.Fatalf("Eval(%v, %v) = %d", l, at, e)
	}
	return n
}

// pair is a constraint with the values of its levels.
type pair struct{ a, b table }

func constraintsOf(ps []pair) []api.Con {
	var out []api.Con
	for _, p := range ps {
		out = append(out, con(p.a.l, p.b.l))
	}
	return out
}

// allowed is the indices of the points at which all constraints hold.
func allowed(ps []pair, points [][]int) []int {
	var out []int
	for i := range points {
		if !slices.ContainsFunc(ps, func(p pair) bool { return p.a.values[i] > p.b.values[i] }) {
			out = append(out, i)
		}
	}
	return out
}

// caseOf is the number of the case in which those values are.
func caseOf(at []int) int {
	n := 0
	for i, v := range at {
		if v == 0 {
			n += 1 << i
		}
	}
	return n
}

func zeroIn(n, params int) []bool {
	out := make([]bool, params)
	for i := range out {
		out[i] = n/(1<<i)%2 == 1
	}
	return out
}

// leastValues determines the values of the least model without clauses. The models for one of points, all of one case, have the
// greatest parameter or more as the value of the variable 0, and each other variable is less than it by its parameter; the
// least model is the minimum of all these.
func leastValues(points [][]int) []int {
	params := len(points[0])
	out, top := make([]int, params), maxInt
	for _, at := range points {
		top = min(top, slices.Max(append(at, 0)))
	}
	for i := range out {
		low := maxInt
		for _, at := range points {
			low = min(low, slices.Max(append(at, 0))-at[i])
		}
		if points[0][i] > 0 {
			out[i] = top - low
		}
	}
	return out
}

// possible is M3 word by word, for points that go beyond the least model.
func possible(ps []pair, points [][]int) []int {
	within := allowed(ps, points)
	for n := range 1 << len(points[0]) {
		var some [][]int
		for _, i := range within {
			if caseOf(points[i]) == n {
				some = append(some, points[i])
			}
		}
		if some != nil {
			return leastValues(some)
		}
	}
	return nil
}

// exceeding is M4 word by word, for points that go beyond the least models.
func exceeding(ps []pair, a, b table, points [][]int) []int {
	within := allowed(ps, points)
	params := len(points[0])
	for n := range 1 << params {
		f, _ := flat.Flatten(a.l, zeroIn(n, params))
		for place := range params + 1 {
			if place > 0 && f.Offs[place-1] < 0 {
				continue
			}
			var some [][]int
			for _, i := range within {
				v := f.Const
				if place > 0 {
					v = points[i][place-1] + f.Offs[place-1]
				}
				if caseOf(points[i]) == n && v > b.values[i] {
					some = append(some, points[i])
				}
			}
			if some != nil {
				return leastValues(some)
			}
		}
	}
	return nil
}

// checkPossible: the values are as many as the parameters.
func checkPossible(t *testing.T, cs []api.Con, want ...int) {
	t.Helper()
	if is, values, e := Possible(cs, len(want)); !is || !slices.Equal(values, want) || e != api.OK {
		t.Errorf("Possible(%v, %d) = %v, %v, %d; want %v", cs, len(want), is, values, e, want)
	}
}

func checkImpossible(t *testing.T, cs []api.Con, params int) {
	t.Helper()
	if is, values, e := Possible(cs, params); is || len(values) != 0 || e != api.OK {
		t.Errorf("Possible(%v, %d) = %v, %v, %d; want false", cs, params, is, values, e)
	}
}

func checkLeq(t *testing.T, cs []api.Con, params int, a, b api.Level) {
	t.Helper()
	if is, values, e := Leq(cs, params, a, b); !is || len(values) != 0 || e != api.OK {
		t.Errorf("Leq(%v, %d, %v, %v) = %v, %v, %d; want true", cs, params, a, b, is, values, e)
	}
}

// checkNot: the values are as many as the parameters.
func checkNot(t *testing.T, cs []api.Con, a, b api.Level, want ...int) {
	t.Helper()
	if is, values, e := Leq(cs, len(want), a, b); is || !slices.Equal(values, want) || e != api.OK {
		t.Errorf("Leq(%v, %d, %v, %v) = %v, %v, %d; want %v", cs, len(want), a, b, is, values, e, want)
	}
}

func possibleRefused(cs []api.Con, params int) bool {
	is, values, e := Possible(cs, params)
	return !is && len(values) == 0 && e == api.ErrArg
}

func leqRefused(cs []api.Con, params int, a, b api.Level) bool {
	is, values, e := Leq(cs, params, a, b)
	return !is && len(values) == 0 && e == api.ErrArg
}

func consRefused(cs []api.Con, params int) bool {
	return !Right(cs, params) && possibleRefused(cs, params) && leqRefused(cs, params, zero(), zero())
}

// levelRefused: wrong is refused by each call, in each place.
func levelRefused(wrong api.Level, params int) bool {
	fine := con(zero(), up(11, zero()))
	for _, c := range cons(con(wrong, zero()), con(zero(), wrong), con(wrong, wrong)) {
		if !leqRefused(nil, params, c.A, c.B) || !leqRefused(cons(fine), params, c.A, c.B) || !leqRefused(cons(c), params, c.A, c.B) {
			return false
		}
		for i := range 8 {
			cs := slices.Repeat(cons(fine), 8)
			cs[i] = c
			if !consRefused(cs, params) || !consRefused(cs[:i+1], params) {
				return false
			}
		}
	}
	return true
}

func checkRight(t *testing.T, cs []api.Con, params int, want bool) {
	t.Helper()
	if got := Right(cs, params); got != want {
		t.Errorf("Right(%v, %d) = %v", cs, params, got)
	}
	if !want && !consRefused(cs, params) {
		t.Errorf("Possible or Leq for %v and %d parameters is not ErrArg alone", cs, params)
	}
}

func TestM1Counts(t *testing.T) {
	for _, params := range []int{minInt, -64, -2, -1, 0, 1, 4, 5, 6, 7, 16, 62, 63, 64, 1 << 31, 1 << 40, maxInt} {
		checkRight(t, nil, params, params >= 0 && params <= 5)
		checkRight(t, cons(con(zero(), zero())), params, params >= 0 && params <= 5)
	}
	for _, count := range []int{0, 1, 7, 8, 9, 10, 60, 1000} {
		for params := range 6 {
			checkRight(t, slices.Repeat(cons(con(zero(), zero())), count), params, count <= 8)
		}
	}
	// The constraints need not be possible.
	checkRight(t, cons(con(up(1, zero()), zero())), 0, true)
}

func TestM1Parameters(t *testing.T) {
	for params := range 6 {
		for n := range 7 {
			for _, c := range cons(con(param(n), zero()), con(zero(), param(n)), con(param(n), param(n))) {
				checkRight(t, cons(c), params, n < params)
			}
		}
	}
}

func TestM1M3M4RefuseLevels(t *testing.T) {
	for _, wrong := range []api.Level{
		{}, leaf(-1, 0), leaf(7, 0), leaf(minInt, 0), leaf(maxInt, 0), leaf(api.Zero, 1), {Kind: api.Succ, N: 1, Kids: []api.Level{zero()}},
		param(-1), param(2), param(minInt), param(maxInt), leaf(api.Meta, 0), leaf(api.Meta, 1), leaf(api.Meta, -1), leaf(api.Meta, 9),
		node(api.Zero, zero()), node(api.Param, zero()), node(api.Succ), node(api.Succ, zero(), zero()),
		node(api.Max, zero()), node(api.Imax, zero(), zero(), zero()), up(12, zero()), full(6, zero()),
	} {
		for _, l := range []api.Level{wrong, up(2, wrong), most(zero(), wrong), imax(wrong, zero())} {
			if !levelRefused(l, 2) {
				t.Errorf("%v is not refused", l)
			}
		}
	}
}

func TestM1M3M4RefuseCounts(t *testing.T) {
	for _, params := range []int{minInt, -64, -1, 6, 7, 62, 63, 64, maxInt} {
		if !levelRefused(zero(), params) {
			t.Errorf("%d parameters are not refused", params)
		}
	}
	many := slices.Repeat(cons(con(zero(), zero())), 9)
	if !leqRefused(many, 1, param(0), param(0)) || !leqRefused(many, 1, param(1), param(0)) {
		t.Error("9 constraints are not refused")
	}
}

// Levels that contain themselves are refused, too. They aren't printed, since that would not end.
func TestM1M3M4End(t *testing.T) {
	for _, kind := range []int{api.Succ, api.Max, api.Imax} {
		kids := make([]api.Level, min(kind-api.Succ, 1)+1)
		for i := range kids {
			kids[i] = api.Level{Kind: kind, Kids: kids}
		}
		if !levelRefused(kids[0], 1) {
			t.Errorf("kind %d: not ErrArg alone", kind)
		}
	}
}

func TestM1M3M4Limits(t *testing.T) {
	deep, wide := up(11, param(0)), most(full(5, param(4)), most(full(4, zero()), up(3, param(0)))) // 100 levels
	for _, l := range []api.Level{deep, wide} {
		cs := slices.Repeat(cons(con(l, l)), 8)
		checkRight(t, cs, 5, true)
		checkPossible(t, cs, 1, 1, 1, 1, 1)
		checkLeq(t, cs, 5, l, l)
		if !levelRefused(up(1, l), 5) {
			t.Errorf("%v, and one level more: not ErrArg alone", l)
		}
	}
}

func checkClauses(t *testing.T, cs []api.Con, zero []bool, want ...api.Clause) {
	t.Helper()
	if got := slices.Collect(clauses(cs, zero)); !sameClauses(got, want) {
		t.Errorf("clauses(%v, %v) = %v; want %v", cs, zero, got, want)
	}
}

func TestM2Clauses(t *testing.T) {
	p, q, none := param(0), param(1), atom(0, 0)
	one, two := clause(atom(0, 1), atom(1, 0)), clause(atom(0, 1), atom(2, 0))
	checkClauses(t, nil, nil)
	checkClauses(t, nil, []bool{false, true, false}, one, clause(atom(0, 1), atom(3, 0)))
	checkClauses(t, cons(con(zero(), zero())), nil, clause(none, none))
	checkClauses(t, cons(con(up(2, zero()), up(3, zero()))), nil, clause(atom(0, 2), atom(0, 3)))
	cs := cons(con(up(2, p), q), con(q, most(up(7, zero()), most(up(1, q), p))))
	checkClauses(t, cs, []bool{false, false}, one, two,
		clause(none, none, atom(2, 0)), clause(atom(1, 2), none, atom(2, 0)),
		clause(none, atom(0, 7), atom(1, 0), atom(2, 1)), clause(atom(2, 0), atom(0, 7), atom(1, 0), atom(2, 1)))
	checkClauses(t, cs, []bool{true, false}, two,
		clause(atom(0, 2), none, atom(2, 0)),
		clause(none, atom(0, 7), atom(2, 1)), clause(atom(2, 0), atom(0, 7), atom(2, 1)))
	checkClauses(t, cs, []bool{false, true}, one,
		clause(none, none), clause(atom(1, 2), none),
		clause(none, atom(0, 7), atom(1, 0)))
	checkClauses(t, cs, []bool{true, true}, clause(atom(0, 2), none), clause(none, atom(0, 7)))
	checkClauses(t, cons(con(imax(p, q), zero())), []bool{false, true}, one, clause(none, none))
}

// Whoever ranges over the clauses, or the lists of a question, may leave early.
func TestM2M4IteratorsStop(t *testing.T) {
	l := most(up(5, zero()), most(param(0), param(1)))
	cs, zero := cons(con(l, l), con(param(1), l)), []bool{false, false}
	all := slices.Collect(clauses(cs, zero))
	if len(all) != 2+3+2 {
		t.Fatalf("clauses: %v", all)
	}
	for stop := range all {
		var seen []api.Clause
		for c := range clauses(cs, zero) {
			if seen = append(seen, c); len(seen) > stop {
				break
			}
		}
		if !sameClauses(seen, all[:stop+1]) {
			t.Errorf("%v, up to clause %d", seen, stop)
		}
	}
	for stop := range 3 {
		seen := 0
		for range excesses(atoms(l, zero), atoms(l, zero)) {
			if seen++; seen > stop {
				break
			}
		}
		if seen != stop+1 {
			t.Errorf("%d lists, up to list %d", seen, stop)
		}
	}
}

// A model, whether the least one or not, has values in the case for which the constraints hold; and such values have a model.
func TestM2Models(t *testing.T) {
	levels := someLevels(1, 2)
	for _, a := range levels {
		for _, b := range levels {
			cs := cons(con(a, b), con(param(1), up(2, param(0))))
			for n := range 4 {
				zero := zeroIn(n, 2)
				l := slices.Collect(clauses(cs, zero))
				for model := range grid(3, 4) {
					checkModel(t, cs, zero, l, model)
				}
			}
		}
	}
}

func checkModel(t *testing.T, cs []api.Con, zero []bool, l []api.Clause, model []int) {
	t.Helper()
	holds, at := true, make([]int, len(zero))
	for i, is := range zero {
		if !is {
			at[i] = model[0] - model[i+1]
			holds = holds && at[i] > 0
		}
	}
	for _, c := range cs {
		holds = holds && mustEval(t, c.A, atLeast0(at)) <= mustEval(t, c.B, atLeast0(at))
	}
	if broken, e := horn.Broken(l, model); e != api.OK || (len(broken) == 0) != holds {
		t.Errorf("%v in the case %v: model %v has broken clauses %v (%d) among %v", cs, zero, model, broken, e, l)
	}
	if got := values(model, zero); !slices.Equal(got, at) {
		t.Errorf("values(%v, %v) = %v", model, zero, got)
	}
}

func atLeast0(at []int) []int {
	out := slices.Clone(at)
	for i := range out {
		out[i] = max(out[i], 0)
	}
	return out
}

func TestM3Values(t *testing.T) {
	p, q, r := param(0), param(1), param(2)
	checkPossible(t, nil)
	checkPossible(t, nil, 1)
	checkPossible(t, nil, 1, 1, 1, 1, 1)
	checkPossible(t, cons(con(zero(), zero())))
	checkPossible(t, cons(con(up(11, zero()), up(11, zero()))))
	checkImpossible(t, cons(con(up(1, zero()), zero())), 0)
	checkImpossible(t, cons(con(up(1, zero()), zero())), 5)
	checkPossible(t, cons(con(p, q)), 1, 1)
	checkPossible(t, cons(con(up(1, p), q)), 1, 2)
	checkPossible(t, cons(con(up(1, q), p)), 2, 1)
	checkPossible(t, cons(con(up(11, zero()), q)), 11, 11, 11)
	checkImpossible(t, cons(con(up(1, p), p)), 1)
	checkImpossible(t, cons(con(p, q), con(up(1, q), p)), 2)
	checkPossible(t, cons(con(p, q), con(q, r), con(r, p), con(up(4, zero()), q)), 4, 4, 4)
	checkPossible(t, cons(con(up(1, zero()), p), con(p, up(1, zero()))), 1)
	// The values are those of the least model, not the least values: the variable 0 is as small as it can be, and then the
	// other variables are, so that the parameters are great.
	checkPossible(t, cons(con(up(3, zero()), p)), 3, 3)
	checkPossible(t, cons(con(up(3, zero()), p), con(q, up(1, zero()))), 3, 1)
	checkPossible(t, cons(con(up(3, zero()), most(p, q))), 3, 3)
	checkPossible(t, cons(con(up(5, p), q), con(q, up(7, r))), 1, 6, 6)
	checkPossible(t, cons(con(up(11, p), q), con(up(11, q), r), con(up(11, r), param(3)), con(up(11, param(3)), param(4))), 1, 12, 23, 34, 45)
	checkPossible(t, cons(con(up(11, param(4)), param(3)), con(up(11, param(3)), r), con(up(11, r), q), con(up(11, q), p)), 45, 34, 23, 12, 1)
}

// The values are those of the first case in the order of their numbers: the last parameters decide.
func TestM3Cases(t *testing.T) {
	p, q, r := param(0), param(1), param(2)
	checkPossible(t, cons(con(p, zero())), 0)
	checkPossible(t, cons(con(p, zero())), 0, 1)
	checkPossible(t, cons(con(q, zero())), 1, 0)
	checkPossible(t, cons(con(p, zero()), con(q, zero())), 0, 0)
	checkPossible(t, cons(con(imax(p, q), zero())), 1, 0)
	checkPossible(t, cons(con(imax(q, p), zero())), 0, 1)
	checkPossible(t, cons(con(imax(p, imax(q, r)), zero())), 1, 1, 0)
	three, two := up(3, zero()), up(2, zero()) // either of two parameters must be 0, or the last one or both others
	checkPossible(t, cons(con(imax(imax(three, q), p), two)), 0, 1)
	checkPossible(t, cons(con(imax(imax(three, p), q), two)), 0, 1)
	checkPossible(t, cons(con(imax(imax(three, most(p, q)), r), two)), 0, 0, 1)
	checkPossible(t, cons(con(imax(imax(three, r), most(p, q)), two)), 0, 0, 1)
	// A parameter that is 0 has the value 0, even if the variable 0 is greater.
	checkPossible(t, cons(con(p, zero()), con(up(3, zero()), q)), 0, 3)
	checkPossible(t, cons(con(q, zero()), con(up(3, zero()), r), con(up(2, r), p)), 5, 0, 3)
	checkPossible(t, cons(con(up(2, q), imax(r, p)), con(p, imax(q, r)), con(imax(r, q), zero())), 2, 0, 2)
	checkImpossible(t, cons(con(p, zero()), con(up(1, zero()), p)), 1)
	checkImpossible(t, cons(con(imax(p, q), zero()), con(up(1, zero()), q)), 2)
	checkImpossible(t, cons(con(most(p, up(1, zero())), imax(p, q)), con(q, zero())), 2)
	checkPossible(t, cons(con(up(1, p), imax(q, p))), 1, 2)
	checkPossible(t, cons(con(up(1, p), imax(p, q))), 1, 2)
	checkImpossible(t, cons(con(up(1, p), imax(p, q)), con(q, up(1, zero())), con(up(1, zero()), p)), 2)
}

func TestM4Example(t *testing.T) {
	p, q := param(0), param(1)
	cs := cons(con(p, q))
	checkLeq(t, cs, 2, p, up(1, q))
	checkNot(t, cs, up(1, p), q, 1, 1)
}

func TestM4AtMost(t *testing.T) {
	p, q, r := param(0), param(1), param(2)
	checkLeq(t, nil, 0, zero(), zero())
	checkLeq(t, nil, 0, up(11, zero()), up(11, zero()))
	checkLeq(t, nil, 5, zero(), param(4))
	checkLeq(t, cons(con(p, q)), 2, up(3, p), up(3, q))
	checkLeq(t, cons(con(p, q), con(q, r)), 3, p, r)
	checkLeq(t, cons(con(up(2, p), q), con(up(3, q), r)), 3, up(5, p), r)
	checkLeq(t, cons(con(p, r), con(q, r)), 3, most(p, q), r)
	checkLeq(t, cons(con(most(p, q), r)), 3, most(q, p), r)
	checkLeq(t, cons(con(p, most(q, r)), con(q, r)), 3, p, r)
	checkLeq(t, cons(con(up(1, q), most(q, up(2, p)))), 2, q, up(1, p))
	// Some constraints rule out cases.
	checkLeq(t, cons(con(up(1, zero()), q)), 2, most(p, q), imax(p, q))
	checkLeq(t, cons(con(p, zero())), 1, up(2, p), up(2, zero()))
	checkLeq(t, cons(con(p, zero())), 2, imax(q, p), zero())
	checkLeq(t, cons(con(p, q), con(imax(r, q), zero())), 3, p, zero())
	// The last one of the cases counts, too.
	checkNot(t, cons(con(p, zero()), con(q, zero())), up(1, zero()), q, 0, 0)
	checkLeq(t, cons(con(p, zero()), con(q, zero())), 2, up(1, zero()), up(1, q))
	// Where nothing is possible, everything holds.
	checkLeq(t, cons(con(up(1, p), p)), 1, up(11, p), zero())
	checkLeq(t, cons(con(up(1, zero()), zero())), 0, up(11, zero()), zero())
}

func TestM4Values(t *testing.T) {
	p, q, r := param(0), param(1), param(2)
	checkNot(t, nil, up(1, zero()), zero())
	checkNot(t, nil, p, zero(), 1)
	checkNot(t, nil, p, up(1, zero()), 2)
	checkNot(t, nil, up(1, p), p, 1)
	checkNot(t, nil, p, up(11, zero()), 12)
	checkNot(t, nil, p, up(11, q), 13, 1)
	checkNot(t, cons(con(p, q)), q, p, 1, 2)
	checkNot(t, cons(con(p, q)), q, up(11, p), 1, 13)
	checkNot(t, cons(con(p, q), con(q, r)), r, p, 1, 2, 2)
	checkNot(t, cons(con(q, zero()), con(up(3, zero()), p)), p, up(3, q), 4, 0)
	checkNot(t, cons(con(up(11, p), q), con(up(11, q), r), con(up(11, r), param(3)), con(up(11, param(3)), param(4))),
		param(4), up(11, zero()), 1, 12, 23, 34, 45)
	checkNot(t, cons(con(up(11, p), q), con(up(11, q), r), con(up(11, r), param(3))), param(4), up(11, param(3)), 1, 12, 23, 34, 46)
}

// The constant of the first level is asked first, then each of its parameters is; the next case after these.
func TestM4Order(t *testing.T) {
	p, q, r := param(0), param(1), param(2)
	checkNot(t, nil, most(p, q), up(2, zero()), 3, 3)
	checkNot(t, cons(con(q, up(1, zero()))), most(q, p), up(2, zero()), 3, 1)
	checkNot(t, nil, most(up(5, zero()), p), up(1, q), 1, 1)
	checkNot(t, cons(con(up(4, zero()), q)), most(up(5, zero()), p), up(1, q), 6, 4)
	checkNot(t, nil, most(q, r), p, 1, 2, 2)
	checkNot(t, nil, most(q, most(r, up(1, p))), most(up(1, p), q), 1, 2, 3)
	checkNot(t, nil, most(p, up(4, q)), up(1, p), 1, 1)
	checkNot(t, nil, most(p, q), up(1, most(p, r)), 1, 3, 1)
	checkNot(t, cons(con(q, most(p, r))), most(p, q), up(1, r), 3, 3, 1)
	// No atom exceeds the other level in the case 0.
	checkNot(t, nil, most(p, q), imax(p, q), 1, 0)
	checkNot(t, nil, most(p, q), imax(q, p), 0, 1)
	checkNot(t, nil, up(1, zero()), p, 0)
	checkNot(t, cons(con(p, up(1, zero()))), up(2, zero()), imax(imax(up(3, zero()), q), p), 0, 1)
	checkNot(t, cons(con(q, up(1, zero()))), up(2, zero()), imax(imax(up(3, zero()), p), q), 0, 1)
	checkNot(t, nil, up(1, zero()), most(p, q), 0, 0)
	checkNot(t, nil, most(q, r), imax(most(q, r), p), 0, 1, 1)
	checkNot(t, cons(con(q, zero())), most(q, r), imax(most(q, r), p), 0, 0, 1)
	checkNot(t, cons(con(up(2, p), r)), r, imax(r, q), 1, 0, 3)
	checkNot(t, cons(con(most(p, q), zero()), con(up(3, zero()), r)), r, imax(up(1, r), q), 0, 0, 3)
}

// As many clauses as there can be, with as many atoms.
func TestM4ManyClauses(t *testing.T) {
	l := most(most(most(param(0), up(1, param(1))), most(up(2, param(2)), up(3, param(3)))), most(up(4, param(4)), up(8, zero())))
	cs := slices.Repeat(cons(con(l, l)), 8)
	if got := slices.Collect(clauses(cs, make([]bool, 5))); len(got) != 53 || len(got[52].From) != 6 {
		t.Fatalf("clauses: %v", got)
	}
	checkLeq(t, cs, 5, l, l)
	checkLeq(t, cs, 5, l, up(1, l))
	checkNot(t, cs, up(1, l), l, 1, 1, 1, 1, 1)
	checkNot(t, cs, most(l, up(5, param(4))), l, 4, 4, 4, 4, 4)
}

func checkHolds(t *testing.T, cs []api.Con, at []int) {
	t.Helper()
	for _, c := range cs {
		if mustEval(t, c.A, at) > mustEval(t, c.B, at) {
			t.Errorf("%v doesn't hold for %v", c, at)
		}
	}
}

// compare holds the answers against those of the reference, and the values against M5.
func compare(t *testing.T, ps []pair, a, b table, points [][]int) {
	t.Helper()
	cs, params := constraintsOf(ps), len(points[0])
	want := exceeding(ps, a, b, points)
	greater := slices.ContainsFunc(allowed(ps, points), func(i int) bool { return a.values[i] > b.values[i] })
	if greater != (want != nil) {
		t.Fatalf("the reference is wrong for %v, %v and %v", cs, a.l, b.l)
	}
	if !greater {
		checkLeq(t, cs, params, a.l, b.l)
		return
	}
	checkNot(t, cs, a.l, b.l, want...)
	checkHolds(t, cs, want)
	if mustEval(t, a.l, want) <= mustEval(t, b.l, want) {
		t.Errorf("%v is at most %v for %v", a.l, b.l, want)
	}
}

func comparePossible(t *testing.T, ps []pair, points [][]int) bool {
	t.Helper()
	cs, want := constraintsOf(ps), possible(ps, points)
	if want == nil {
		checkImpossible(t, cs, len(points[0]))
		return false
	}
	checkPossible(t, cs, want...)
	checkHolds(t, cs, want)
	return true
}

// All constraints and all pairs of levels that are small. No value of a least model is greater than the number of parameters
// times the greatest Off, which the points go beyond.
func TestM5AllSmallLevels(t *testing.T) {
	for params := range 3 {
		points := slices.Collect(grid(params, 5))
		all := tables(t, someLevels(1, params), points)
		var every []pair
		for _, a := range all {
			for _, b := range all {
				every = append(every, pair{a, b})
			}
		}
		for _, p := range every {
			comparePossible(t, []pair{p}, points)
			for _, question := range every {
				compare(t, []pair{p}, question.a, question.b, points)
			}
		}
		for _, question := range every {
			compare(t, nil, question.a, question.b, points)
		}
	}
}

// Lists of constraints, each of which is drawn until the list is possible with it, but for the last one.
func compareLists(t *testing.T, lists int, all []table, points [][]int) {
	t.Helper()
	next := draw()
	one := func() pair { return pair{all[next(len(all))], all[next(len(all))]} }
	counts := [4]int{}
	for range lists {
		var ps []pair
		for count := next(8); len(ps) < count; {
			if p := one(); possible(append(ps, p), points) != nil {
				ps = append(ps, p)
			}
		}
		ps = append(ps, one())
		if comparePossible(t, ps, points) {
			counts[0]++
		} else {
			counts[1]++
		}
		question := one()
		compare(t, ps, question.a, question.b, points)
		compareMore(t, ps, question, points, &counts)
	}
	if slices.Min(counts[:]) < lists/50 {
		t.Errorf("the lists are one-sided: %v", counts)
	}
}

// compareMore: what holds under some constraints still holds under more of them.
func compareMore(t *testing.T, ps []pair, question pair, points [][]int, counts *[4]int) {
	t.Helper()
	before := false
	for i := range len(ps) {
		is, _, e := Leq(constraintsOf(ps[:i]), len(points[0]), question.a.l, question.b.l)
		if e != api.OK || before && !is {
			t.Errorf("Leq with %d of %v, %v: %v, %d", i, constraintsOf(ps), question, is, e)
		}
		before = is
		if is {
			counts[2]++
		} else {
			counts[3]++
		}
	}
}

func TestM5TwoParameters(t *testing.T) {
	points := slices.Collect(grid(2, 7))
	compareLists(t, 3000, tables(t, someLevels(2, 2), points), points)
}

func TestM5ThreeParameters(t *testing.T) {
	points := slices.Collect(grid(3, 7))
	compareLists(t, 500, tables(t, someLevels(1, 3), points), points)
}

// With more parameters, the greatest value is still 2 as long as only a constant and the question have Offs.
func TestM5FiveParameters(t *testing.T) {
	points := slices.Collect(grid(5, 3))
	var all []table
	for n := range 5 {
		p, q, r := param(n), param((n+1)%5), param((n+3)%5)
		for _, l := range []api.Level{p, imax(p, q), most(imax(p, q), r), imax(most(q, p), imax(r, q)), zero(), up(1, zero())} {
			all = append(all, tableOf(t, l, points))
		}
	}
	compareLists(t, 200, all, points)
}

// Without constraints there are the answers of layer 7, but for the values.
func TestM5NoConstraints(t *testing.T) {
	for params := range 3 {
		levels := someLevels(2-params/2, params)
		for _, a := range levels {
			for _, b := range levels {
				want, _, _ := leq.Leq(a, b, params)
				is, _, e := Leq(nil, params, a, b)
				more, _, e2 := Leq([]api.Con{}, params, a, b)
				if is != want || more != want || e != api.OK || e2 != api.OK {
					t.Errorf("Leq(nil, %d, %v, %v) = %v, %d; want %v", params, a, b, is, e, want)
				}
			}
		}
	}
}

// Results are new memory. Memory beyond the length of a slice is to stay as it is.
func TestArgumentsStay(t *testing.T) {
	p, q := param(0), param(1)
	build := func() []api.Con {
		room := []api.Level{up(2, p), most(q, up(1, p)), q}
		return cons(con(node(api.Max, room[:2]...), up(4, q)), con(q, up(6, p)), con(zero(), zero()))
	}
	all, copied := build(), build()
	cs, a, b := all[:2], all[0].A, most(p, up(1, q))
	_, possible, _ := Possible(cs, 2)
	_, greater, _ := Leq(cs, 2, a, b)
	Right(cs, 2)
	for i := range 2 {
		possible[i], greater[i] = 77, 77
	}
	for i, c := range all {
		if !level.Same(c.A, copied[i].A) || !level.Same(c.B, copied[i].B) {
			t.Errorf("changed: %v", all)
		}
	}
	if !level.Same(a.Kids[:3][2], q) || !level.Same(b, most(p, up(1, q))) {
		t.Errorf("changed: %v, %v", a, b)
	}
	checkPossible(t, cs, 1, 1)
	checkNot(t, cs, a, b, 1, 1)
}
