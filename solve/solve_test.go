package solve

import (
	"iter"
	"slices"
	"testing"

	"stereobate/api"
	"stereobate/horn"
)

const (
	minInt = -1 << 63
	maxInt = 1<<63 - 1
)

func atom(v, off int) api.Atom { return api.Atom{Var: v, Off: off} }

func clause(to api.Atom, from ...api.Atom) api.Clause { return api.Clause{From: from, To: to} }

// step is the clause by which a variable is at least another one plus so much.
func step(to, off, from int) api.Clause { return clause(atom(to, off), atom(from, 0)) }

func list(cs ...api.Clause) []api.Clause { return cs }

// full is a list as great as it may be, with the greatest variable and the greatest Off in each place.
func full() []api.Clause {
	a := atom(15, 1000)
	return slices.Repeat(list(clause(a, a, a, a, a, a, a)), 60)
}

// chain is the clauses by which each variable is at least the one before it plus so much.
func chain(vars, off int) []api.Clause {
	var out []api.Clause
	for v := 1; v < vars; v++ {
		out = append(out, step(v, off, v-1))
	}
	return out
}

func reversed(l []api.Clause) []api.Clause {
	out := slices.Clone(l)
	slices.Reverse(out)
	return out
}

// ramp is so many numbers, each greater than the one before it by the same.
func ramp(count, first, by int) []int {
	var out []int
	for i := range count {
		out = append(out, first+i*by)
	}
	return out
}

func sameClause(a, b api.Clause) bool { return slices.Equal(a.From, b.From) && a.To == b.To }

func deepCopy(l []api.Clause) []api.Clause {
	var out []api.Clause
	for _, c := range l {
		out = append(out, clause(c.To, slices.Clone(c.From)...))
	}
	return out
}

// grid yields all lists of so many numbers from 0 to high.
func grid(count, high int) iter.Seq[[]int] {
	return func(yield func([]int) bool) {
		ns := make([]int, count)
		for i := 0; i < count; {
			if !yield(slices.Clone(ns)) {
				return
			}
			for i = 0; i < count && ns[i] == high; i++ {
				ns[i] = 0
			}
			if i < count {
				ns[i]++
				i = 0
			}
		}
	}
}

// simple is all clauses with one atom From over so many variables, with Offs up to high.
func simple(vars, high int) []api.Clause {
	var as []api.Atom
	for v := range vars {
		for off := range high + 1 {
			as = append(as, atom(v, off))
		}
	}
	var out []api.Clause
	for _, to := range as {
		for _, from := range as {
			out = append(out, clause(to, from))
		}
	}
	return out
}

// double is all clauses with two atoms From, both ways round.
func double(vars, high int) []api.Clause {
	var out []api.Clause
	for _, a := range simple(vars, high) {
		for _, b := range simple(vars, high) {
			if a.To == b.To {
				out = append(out, clause(a.To, a.From[0], b.From[0]))
			}
		}
	}
	return out
}

// pairs yields all lists of a clause of a and one of b, in both orders.
func pairs(a, b []api.Clause) iter.Seq[[]api.Clause] {
	return func(yield func([]api.Clause) bool) {
		for _, x := range a {
			for _, y := range b {
				if !yield(list(x, y)) || !yield(list(y, x)) {
					return
				}
			}
		}
	}
}

// search determines the least model from start on among all with values up to high: the minimum of all there is, as H5 has it.
func search(l []api.Clause, start []int, high int) ([]int, bool) {
	var out []int
	for model := range grid(len(start), high) {
		if !above(model, start) {
			continue
		}
		if broken, _ := horn.Broken(l, model); len(broken) > 0 {
			continue
		}
		if out == nil {
			out = model
		}
		for i := range out {
			out[i] = min(out[i], model[i])
		}
	}
	return out, out != nil
}

func above(model, start []int) bool {
	for i := range model {
		if model[i] < start[i] {
			return false
		}
	}
	return true
}

// processed is J2 word by word: how many clauses are processed.
func processed(vars int, l []api.Clause) int {
	limit := 0
	for _, c := range l {
		for _, a := range c.From {
			limit = max(limit, (vars-1)*(c.To.Off-a.Off))
		}
	}
	model := make([]int, vars)
	for n, still := 0, true; ; still = true {
		for _, c := range l {
			n++
			if broken, _ := horn.Broken(list(c), model); len(broken) == 0 {
				continue
			}
			var demands []int
			for _, a := range c.From {
				demands = append(demands, model[a.Var]-a.Off+c.To.Off)
			}
			model[c.To.Var] = slices.Min(demands)
			still = false
		}
		if still || slices.Max(model) > limit {
			return n
		}
	}
}

func checkModel(t *testing.T, vars int, l []api.Clause, count int, want ...int) {
	t.Helper()
	model, found, n, e := Solve(vars, l)
	if !slices.Equal(model, want) || !found || n != count || e != api.OK {
		t.Errorf("Solve(%d, %v) = %v, %v, %d, %d; want %v after %d", vars, l, model, found, n, e, want, count)
	}
}

func checkNone(t *testing.T, vars int, l []api.Clause, count int) {
	t.Helper()
	model, found, n, e := Solve(vars, l)
	if len(model) != 0 || found || n != count || e != api.OK {
		t.Errorf("Solve(%d, %v) = %v, %v, %d, %d; want none after %d", vars, l, model, found, n, e, count)
	}
}

// checkWrong: both calls refuse the clauses, From with a model of so many variables.
func checkWrong(t *testing.T, vars int, l []api.Clause) {
	t.Helper()
	if model, found, n, e := Solve(vars, l); len(model) != 0 || found || n != 0 || e != api.ErrArg {
		t.Errorf("Solve(%d, %v) = %v, %v, %d, %d; want ErrArg alone", vars, l, model, found, n, e)
	}
	if vars >= 0 && vars < 100 {
		checkFromRefuses(t, api.ErrArg, l, make([]int, vars))
	}
}

func checkFrom(t *testing.T, l []api.Clause, start []int, want ...int) {
	t.Helper()
	if model, found, e := From(l, start); !slices.Equal(model, want) || !found || e != api.OK {
		t.Errorf("From(%v, %v) = %v, %v, %d; want %v", l, start, model, found, e, want)
	}
}

func checkFromNone(t *testing.T, l []api.Clause, start []int) {
	t.Helper()
	if model, found, e := From(l, start); len(model) != 0 || found || e != api.OK {
		t.Errorf("From(%v, %v) = %v, %v, %d; want none", l, start, model, found, e)
	}
}

func checkFromRefuses(t *testing.T, want api.Errno, l []api.Clause, start []int) {
	t.Helper()
	if model, found, e := From(l, start); len(model) != 0 || found || e != want {
		t.Errorf("From(%v, %v) = %v, %v, %d; want error %d alone", l, start, model, found, e, want)
	}
}

// checkSearch: Solve, and From each of the starts, return what a search among all models finds.
func checkSearch(t *testing.T, vars int, l []api.Clause, high int) {
	t.Helper()
	most, _ := horn.Most(vars, l)
	for start := range grid(vars, high) {
		want, found := search(l, start, slices.Max(start)+(vars-1)*most+1)
		if model, is, e := From(l, start); !slices.Equal(model, want) || is != found || e != api.OK {
			t.Errorf("From(%v, %v) = %v, %v, %d; want %v, %v", l, start, model, is, e, want, found)
		}
		if slices.Max(start) == 0 {
			if model, is, n, e := Solve(vars, l); !slices.Equal(model, want) || is != found || n != processed(vars, l) || e != api.OK {
				t.Errorf("Solve(%d, %v) = %v, %v, %d, %d; want %v, %v, %d", vars, l, model, is, n, e, want, found, processed(vars, l))
			}
		}
	}
}

func TestJ1Example(t *testing.T) {
	checkNone(t, 2, list(step(1, 1, 0), step(0, 0, 1)), 4)
	checkModel(t, 2, list(step(1, 1, 0), clause(atom(0, 0), atom(1, 1))), 4, 0, 1)
}

func TestJ1Models(t *testing.T) {
	for vars := 1; vars <= 16; vars++ {
		checkModel(t, vars, nil, 0, make([]int, vars)...)
		checkModel(t, vars, list(step(vars-1, 0, vars-1)), 1, make([]int, vars)...)
		checkModel(t, vars, chain(vars, 1000), 2*(vars-1), ramp(vars, 0, 1000)...)
		checkModel(t, vars, reversed(chain(vars, 7)), vars*(vars-1), ramp(vars, 0, 7)...)
		checkNone(t, vars, append(chain(vars, 0), step(0, 1, vars-1)), vars*vars)
	}
	checkModel(t, 16, full(), 60, make([]int, 16)...)
	// The least atom counts, wherever it is in From, and an Off From is subtracted.
	for i := range 6 {
		c := clause(atom(0, 4), atom(1, 0), atom(2, 0), atom(3, 0), atom(4, 0), atom(5, 0), atom(6, 0))
		c.From[i].Off = 3
		checkModel(t, 7, list(c), 2, 1, 0, 0, 0, 0, 0, 0)
		c.From[i].Off = 4
		checkModel(t, 7, list(c), 1, 0, 0, 0, 0, 0, 0, 0)
		c.From[i].Off = 5 // a demand less than 0 is no matter
		checkModel(t, 7, list(c), 1, 0, 0, 0, 0, 0, 0, 0)
	}
	// The greatest demand on a variable counts, and variables that no clause leads to stay 0.
	checkModel(t, 5, list(step(3, 4, 1), step(3, 9, 1), step(3, 6, 1)), 6, 0, 0, 0, 9, 0)
	checkModel(t, 4, list(clause(atom(2, 5), atom(0, 1), atom(1, 3)), step(0, 2, 3)), 4, 2, 0, 2, 0)
	// A cycle is allowed as long as it adds nothing.
	checkModel(t, 3, list(step(1, 5, 0), step(2, 1, 1), clause(atom(0, 0), atom(2, 6))), 6, 0, 5, 6)
	checkNone(t, 3, list(step(1, 5, 0), step(2, 1, 1), clause(atom(0, 0), atom(2, 5))), 3*6)
	// An atom that doesn't grow ends a cycle that adds.
	checkModel(t, 3, list(clause(atom(0, 1), atom(0, 0), atom(1, 0)), clause(atom(1, 1), atom(0, 0), atom(2, 0))), 6, 2, 1, 0)
}

func TestJ1Counts(t *testing.T) {
	for _, vars := range []int{0, -1, 17, 18, 60, 1 << 16, -1 << 40, minInt, maxInt} {
		checkWrong(t, vars, nil)
		checkWrong(t, vars, list(step(0, 0, 0)))
		checkWrong(t, vars, list(step(vars-1, 0, vars-1)))
	}
	for _, n := range []int{61, 62, 1000} {
		checkWrong(t, 16, slices.Repeat(list(step(0, 0, 0)), n))
	}
	for _, n := range []int{0, 7, 8, 1000} {
		wide := clause(atom(0, 0), slices.Repeat([]api.Atom{atom(0, 0)}, n)...)
		checkWrong(t, 1, list(wide))
		checkWrong(t, 16, append(full()[1:], wide))
	}
}

func TestJ1Atoms(t *testing.T) {
	for _, wrong := range []api.Atom{
		atom(-1, 0), atom(16, 0), atom(minInt, 0), atom(maxInt, 0), atom(0, -1), atom(0, 1001), atom(15, minInt), atom(15, maxInt),
	} {
		for _, i := range []int{0, 30, 59} {
			l := deepCopy(full())
			l[i].To = wrong
			checkWrong(t, 16, l)
			l = deepCopy(full())
			l[i].From[i/10] = wrong
			checkWrong(t, 16, l)
		}
	}
	for vars := 1; vars <= 15; vars++ {
		checkWrong(t, vars, list(step(0, 0, vars)))
		checkWrong(t, vars, list(step(vars, 0, 0)))
	}
}

func TestJ2Order(t *testing.T) {
	// What a clause changes is seen by the clauses after it in the same round.
	checkModel(t, 3, list(step(1, 1, 0), step(2, 1, 1)), 4, 0, 1, 2)
	checkModel(t, 3, list(step(2, 1, 1), step(1, 1, 0)), 6, 0, 1, 2)
	// The last round, which changes nothing, counts, and so does each of several equal clauses.
	checkModel(t, 2, list(step(1, 3, 0)), 2, 0, 3)
	checkModel(t, 2, slices.Repeat(list(step(1, 3, 0)), 60), 120, 0, 3)
}

func TestJ2Limit(t *testing.T) {
	for vars := 1; vars <= 16; vars++ {
		// A round may reach the limit, and the next one still is performed.
		checkNone(t, vars, list(step(0, 1, 0)), vars)
		checkNone(t, vars, list(step(vars-1, 1000, vars-1)), vars)
		// Only after a round the values are held against the limit.
		checkNone(t, vars, slices.Repeat(list(step(0, 1, 0)), vars), vars)
		checkNone(t, vars, slices.Repeat(list(step(0, 1, 0)), 60), 60)
		// Each atom From counts for Most, also one that is not the least.
		checkNone(t, vars, list(clause(atom(0, 9), atom(0, 8), atom(0, 2))), 7*(vars-1)+1)
	}
	// The limit counts the variables that no clause names, too.
	checkNone(t, 2, list(step(1, 1, 1), step(0, 1, 0)), 4)
	checkNone(t, 9, list(step(1, 1, 1), step(0, 1, 0)), 18)
}

// longest is clauses of which each round changes one value, by 1, while the limit is as great as it may be.
func longest() []api.Clause {
	out := append(reversed(chain(16, 0)), clause(atom(0, 1000), atom(15, 999), atom(15, 0)))
	a := atom(15, 1000)
	return append(out, slices.Repeat(list(clause(a, a, a, a, a, a, a)), 60-len(out))...)
}

func TestJ2Longest(t *testing.T) {
	// The variable 0 becomes n in the round 15 * n - 14, and the limit is 15000.
	checkNone(t, 16, longest(), 60*(15*15001-14))
	checkBounds(t, 16, longest())
	checkFromNone(t, longest(), slices.Repeat([]int{1000}, 16))
	// The variable 15 stays 0, so that the variable 0 can't become greater than 1000: 14 variables then follow.
	ended := append(reversed(chain(15, 0)), clause(atom(0, 1000), atom(14, 999), atom(15, 0)))
	checkModel(t, 16, ended, 15*(14*1000-13+14+1), append(slices.Repeat([]int{1000}, 15), 0)...)
}

func TestJ3Models(t *testing.T) {
	for vars := 1; vars <= 16; vars++ {
		checkFrom(t, nil, ramp(vars, 1000, -66), ramp(vars, 1000, -66)...)
		checkFrom(t, chain(vars, 1000), make([]int, vars), ramp(vars, 0, 1000)...)
		checkFrom(t, chain(vars, 1000), slices.Repeat([]int{1000}, vars), ramp(vars, 1000, 1000)...)
		checkFrom(t, reversed(chain(vars, 999)), append([]int{1000}, make([]int, vars-1)...), ramp(vars, 1000, 999)...)
		checkFromNone(t, list(step(vars-1, 1, vars-1)), ramp(vars, 0, 1))
		checkFromNone(t, append(chain(vars, 0), step(0, 1, vars-1)), slices.Repeat([]int{1000}, vars))
	}
	// Where there is a least model from 0 on, values from the start on may still have to grow.
	l := list(step(1, 1, 0), clause(atom(0, 0), atom(2, 2)))
	checkFrom(t, l, []int{0, 0, 0}, 0, 1, 0)
	checkFrom(t, l, []int{0, 5, 9}, 7, 8, 9)
	checkFrom(t, l, []int{7, 8, 9}, 7, 8, 9)
	checkFrom(t, l, []int{7, 9, 9}, 7, 9, 9)
	checkFrom(t, l, []int{1000, 0, 0}, 1000, 1001, 0)
	// A value may be greater than both the start and the limit.
	checkFrom(t, list(step(1, 0, 0)), []int{1000, 0}, 1000, 1000)
	checkFrom(t, list(step(1, 1, 0), step(2, 1, 1)), []int{500, 3, 1000}, 500, 501, 1000)
	checkFrom(t, list(step(1, 1, 0), step(2, 1, 1)), []int{1000, 3, 0}, 1000, 1001, 1002)
}

func TestJ3Refuses(t *testing.T) {
	for _, wrong := range []int{-1, minInt, 1<<40 + 1, maxInt} {
		for i := range 16 {
			start := make([]int, 16)
			start[i] = wrong
			checkFromRefuses(t, api.ErrArg, nil, start)
			start[15-i] = 1001
			start[i] = wrong
			checkFromRefuses(t, api.ErrArg, full(), start)
		}
	}
	for _, long := range []int{1001, 1002, 1 << 39, 1 << 40} {
		for i := range 16 {
			start := make([]int, 16)
			start[i] = long
			checkFromRefuses(t, api.ErrLong, nil, start)
			checkFromRefuses(t, api.ErrLong, list(step(0, 1, 0)), start)
			checkFromRefuses(t, api.ErrArg, list(step(0, 1, 16)), start)
			checkFromRefuses(t, api.ErrArg, nil, append(start, 0))
		}
	}
	checkFromRefuses(t, api.ErrArg, nil, nil)
	checkFromRefuses(t, api.ErrArg, list(step(0, 0, 0)), nil)
	checkFromRefuses(t, api.ErrArg, list(step(2, 1, 0)), make([]int, 2))
}

// The counts of J2 are compared there, too.
func TestJ4AllSmallLists(t *testing.T) {
	for _, c := range double(2, 3) {
		checkSearch(t, 2, list(c), 3)
	}
	for l := range pairs(simple(2, 2), simple(2, 2)) {
		checkSearch(t, 2, l, 2)
	}
	for l := range pairs(double(2, 1), double(2, 1)) {
		checkSearch(t, 2, l, 0)
	}
	for l := range pairs(simple(3, 1), simple(3, 1)) {
		for _, c := range list(step(0, 1, 2), clause(atom(0, 0), atom(2, 1)), clause(atom(1, 1), atom(0, 0), atom(2, 0))) {
			checkSearch(t, 3, append(slices.Clone(l), c), 0)
			checkSearch(t, 3, append(list(c), l...), 0)
		}
	}
}

// checkBounds: the values are at most the limit, and the rounds are no more than there can be changes.
func checkBounds(t *testing.T, vars int, l []api.Clause) {
	t.Helper()
	most, _ := horn.Most(vars, l)
	limit := (vars - 1) * most
	model, found, n, _ := Solve(vars, l)
	if found && slices.Max(model) > limit || n > ((limit+1)*vars+1)*len(l) {
		t.Errorf("Solve(%d, %v) = %v after %d; the limit is %d", vars, l, model, n, limit)
	}
}

// checkStays: a least model is one, and it is the least from itself on, and from anything below it on.
func checkStays(t *testing.T, l []api.Clause, model []int) {
	t.Helper()
	if broken, e := horn.Broken(l, model); len(broken) != 0 || e != api.OK {
		t.Errorf("%v: %v are broken in %v", l, broken, model)
	}
	checkFrom(t, l, make([]int, len(model)), model...)
	checkFrom(t, l, model, model...)
	for i := range model {
		less := slices.Clone(model)
		less[i] /= 2
		checkFrom(t, l, less, model...)
	}
}

func TestJ4Stays(t *testing.T) {
	for k := range 500 {
		var l []api.Clause
		for i := range k%17 + 1 {
			n := k*31 + i*17
			l = append(l, clause(atom(n%7, n%11), atom(n/7%7, n/3%10), atom((n/5+i)%7, n/2%12)))
		}
		model, found, n, e := Solve(7, l)
		if e != api.OK || n != processed(7, l) || found != (len(model) == 7) {
			t.Errorf("Solve(7, %v) = %v, %v, %d, %d; want %d processed", l, model, found, n, e, processed(7, l))
		}
		checkBounds(t, 7, l)
		if found {
			checkStays(t, l, model)
		} else {
			checkFromNone(t, l, ramp(7, 0, 100))
		}
	}
}

// Whoever ranges over the rounds may leave early, and range over them again.
func TestJ2RoundsStop(t *testing.T) {
	all := rounds(reversed(chain(4, 1)), values{})
	want := []values{{0, 1, 1, 1}, {0, 1, 2, 2}, {0, 1, 2, 3}, {0, 1, 2, 3}}
	for stop := range want {
		var seen []values
		for model := range all {
			if seen = append(seen, model); len(seen) > stop {
				break
			}
		}
		if !slices.Equal(seen, want[:stop+1]) {
			t.Errorf("%v; want %v", seen, want[:stop+1])
		}
	}
}

// Memory beyond the length of a slice is to stay as it is, too, and a result is new memory.
func TestArgumentsStay(t *testing.T) {
	from := []api.Atom{atom(0, 1), atom(1, 2), atom(-7, -7)}
	room := list(clause(atom(1, 3), from[:1]...), clause(atom(0, 0), from[1:2]...), clause(atom(-9, -9)))
	copied, start := deepCopy(room), []int{1, 0, -5}
	low := []int{0, 3, -5}
	for range 2 {
		a, _, n, _ := Solve(2, room[:2])
		b, _, _ := From(room[:2], start[:2])
		c, _, _ := From(room[:2], low[:2])
		if !slices.Equal(a, []int{0, 2}) || n != 4 || !slices.Equal(b, []int{1, 3}) || !slices.Equal(c, []int{1, 3}) {
			t.Errorf("%v, %d, %v, %v", a, n, b, c)
		}
		for _, out := range [][]int{a, b, c} {
			copy(out[:cap(out)], []int{77, 77, 77})
		}
	}
	if !slices.EqualFunc(room, copied, sameClause) || from[2] != atom(-7, -7) || !slices.Equal(start, []int{1, 0, -5}) || !slices.Equal(low, []int{0, 3, -5}) {
		t.Errorf("changed: %v, %v, %v, %v", room, from, start, low)
	}
}
