package core

import (
	"iter"
	"slices"
	"testing"

	"stereobate/api"
	"stereobate/horn"
)

const (
	minInt = -1 << 63
	maxInt = 1<<63 - 1
)

func atom(v, off int) api.Atom { return api.Atom{Var: v, Off: off} }

func clause(to api.Atom, from ...api.Atom) api.Clause { return api.Clause{From: from, To: to} }

// step is the clause by which a variable is at least another one plus so much.
func step(to, off, from int) api.Clause { return clause(atom(to, off), atom(from, 0)) }

func list(cs ...api.Clause) []api.Clause { return cs }

// full is a list as great as it may be, with the greatest variable and the greatest Off in each place.
func full() []api.Clause {
	a := atom(15, 1000)
	return slices.Repeat(list(clause(a, a, a, a, a, a, a)), 60)
}

// circle is the clauses by which each variable is at least the one before it, and the first one greater than the last.
func circle(vars int) []api.Clause {
	out := list(step(0, 1, vars-1))
	for v := 1; v < vars; v++ {
		out = append(out, step(v, 0, v-1))
	}
	return out
}

// ramp is so many numbers, each greater than the one before it by the same.
func ramp(count, first, by int) []int {
	var out []int
	for i := range count {
		out = append(out, first+i*by)
	}
	return out
}

func sameClause(a, b api.Clause) bool { return slices.Equal(a.From, b.From) && a.To == b.To }

func deepCopy(l []api.Clause) []api.Clause {
	var out []api.Clause
	for _, c := range l {
		out = append(out, clause(c.To, slices.Clone(c.From)...))
	}
	return out
}

// grid yields all lists of so many numbers from 0 to high.
func grid(count, high int) iter.Seq[[]int] {
	return func(yield func([]int) bool) {
		ns := make([]int, count)
		for i := 0; i < count; {
			if !yield(slices.Clone(ns)) {
				return
			}
			for i = 0; i < count && ns[i] == high; i++ {
				ns[i] = 0
			}
			if i < count {
				ns[i]++
				i = 0
			}
		}
	}
}

// subsets yields all lists of such numbers in the same order, the empty one and the whole one among them.
func subsets(ns []int) iter.Seq[[]int] {
	return func(yield func([]int) bool) {
		for bits := range 1 << len(ns) {
			var some []int
			for i, n := range ns {
				if bits>>i%2 == 1 {
					some = append(some, n)
				}
			}
			if !yield(some) {
				return
			}
		}
	}
}

// simple is all clauses with one atom From over so many variables, with Offs up to high.
func simple(vars, high int) []api.Clause {
	var as []api.Atom
	for v := range vars {
		for off := range high + 1 {
			as = append(as, atom(v, off))
		}
	}
	var out []api.Clause
	for _, to := range as {
		for _, from := range as {
			out = append(out, clause(to, from))
		}
	}
	return out
}

// picked is the clauses of l with these indices.
func picked(l []api.Clause, places []int) []api.Clause {
	var out []api.Clause
	for _, i := range places {
		out = append(out, l[i])
	}
	return out
}

// some are lists of count clauses each, with up to three atoms From, over so many variables and with Offs up to high.
func some(lists, count, vars, high int) iter.Seq[[]api.Clause] {
	return func(yield func([]api.Clause) bool) {
		n := 1
		next := func(count int) int {
			n = n*48271%(1<<31-1) + 1
			return n / 7 % count
		}
		for range lists {
			var l []api.Clause
			for range count {
				c := clause(atom(next(vars), next(high+1)))
				for range next(3) + 1 {
					c.From = append(c.From, atom(next(vars), next(high+1)))
				}
				l = append(l, c)
			}
			if !yield(l) {
				return
			}
		}
	}
}

// modelled searches a model among all in which no value is greater than what the theorem of layer 9 allows.
func modelled(vars int, l []api.Clause) bool {
	most, _ := horn.Most(vars, l)
	for model := range grid(vars, (vars-1)*most) {
		if broken, _ := horn.Broken(l, model); len(broken) == 0 {
			return true
		}
	}
	return false
}

// reduced is K1 word by word.
func reduced(vars int, l []api.Clause) []int {
	if modelled(vars, l) {
		return nil
	}
	left := ramp(len(l), 0, 1)
	for i := range l {
		without := slices.DeleteFunc(slices.Clone(left), func(n int) bool { return n == i })
		if !modelled(vars, picked(l, without)) {
			left = without
		}
	}
	return left
}

func checkCore(t *testing.T, vars int, l []api.Clause, want ...int) {
	t.Helper()
	if got, e := Core(vars, l); !slices.Equal(got, want) || e != api.OK {
		t.Errorf("Core(%d, %v) = %v, %d; want %v", vars, l, got, e, want)
	}
}

func checkProves(t *testing.T, vars int, l []api.Clause, want bool, places ...int) {
	t.Helper()
	if got := Proves(vars, l, places); got != want {
		t.Errorf("Proves(%d, %v, %v) = %v", vars, l, places, got)
	}
}

// checkWrong: both calls refuse the clauses, whatever the places.
func checkWrong(t *testing.T, vars int, l []api.Clause) {
	t.Helper()
	if got, e := Core(vars, l); len(got) != 0 || e != api.ErrArg {
		t.Errorf("Core(%d, %v) = %v, %d; want ErrArg alone", vars, l, got, e)
	}
	for i := range l {
		checkProves(t, vars, l, false, i)
	}
	checkProves(t, vars, l, false, ramp(len(l), 0, 1)...)
	checkProves(t, vars, l, false)
}

// checkMinimal: the core has no model, and each part of it has one.
func checkMinimal(t *testing.T, vars int, l []api.Clause) {
	t.Helper()
	places, e := Core(vars, l)
	checkProves(t, vars, l, len(places) > 0, places...)
	if e != api.OK || Proves(vars, l, ramp(len(l), 0, 1)) != (len(places) > 0) {
		t.Errorf("Core(%d, %v) = %v, %d", vars, l, places, e)
	}
	for part := range subsets(places) {
		if len(part) < len(places) {
			checkProves(t, vars, l, false, part...)
		}
	}
}

func TestK1Example(t *testing.T) {
	checkCore(t, 3, list(step(1, 1, 0), step(2, 0, 0), step(0, 0, 1)), 0, 2)
}

func TestK1Models(t *testing.T) {
	for vars := 1; vars <= 16; vars++ {
		checkCore(t, vars, nil)
		checkCore(t, vars, list(step(vars-1, 0, vars-1)))
		checkCore(t, vars, circle(vars)[1:])
		for i := range circle(vars) {
			checkCore(t, vars, slices.Delete(circle(vars), i, i+1))
		}
	}
	checkCore(t, 16, full())
	checkCore(t, 2, list(step(1, 1, 0), clause(atom(0, 0), atom(1, 1))))
	// An atom that doesn't grow makes up for one that does.
	checkCore(t, 2, list(clause(atom(0, 1), atom(0, 0), atom(1, 0))))
}

func TestK1Order(t *testing.T) {
	self := step(0, 1, 0)
	checkCore(t, 1, list(self), 0)
	checkCore(t, 1, slices.Repeat(list(self), 60), 59)
	// The clauses that are removed are the first ones, even where those that stay are more.
	pair := list(step(1, 1, 0), step(0, 0, 1))
	checkCore(t, 2, append(list(self), pair...), 1, 2)
	checkCore(t, 2, append(slices.Clone(pair), self), 2)
	checkCore(t, 2, list(pair[0], self, pair[1]), 1)
	checkCore(t, 2, append(slices.Clone(pair), pair...), 2, 3)
	checkCore(t, 2, list(pair[0], pair[0], pair[1]), 1, 2)
	checkCore(t, 2, list(pair[1], pair[0], pair[0]), 0, 2)
	// What has been removed is missing when the next clauses are tried, so that one of them has to stay.
	checkCore(t, 3, list(step(1, 0, 0), step(2, 0, 0), step(0, 1, 1), step(0, 1, 2)), 1, 3)
	checkCore(t, 3, list(step(1, 0, 0), step(2, 0, 0), step(0, 1, 2), step(0, 1, 1)), 1, 2)
	// A weaker clause is removed only if what is stronger comes later, or isn't needed.
	checkCore(t, 2, list(step(1, 1, 0), step(1, 2, 0), clause(atom(0, 0), atom(1, 0))), 1, 2)
	checkCore(t, 2, list(step(1, 2, 0), step(1, 1, 0), clause(atom(0, 0), atom(1, 0))), 1, 2)
	checkCore(t, 2, list(step(1, 2, 0), step(1, 1, 0), clause(atom(0, 0), atom(1, 1))), 0, 2)
}

// Each index of a list as long as it may be is in a core.
func TestK1Places(t *testing.T) {
	self := step(3, 1, 3)
	for i := range 60 {
		one := full()
		one[i] = self
		checkCore(t, 16, one, i)
		for j := range i {
			both := slices.Clone(one)
			both[j] = self
			checkCore(t, 16, both, i)
			both[j], both[i] = step(0, 0, 1), step(1, 1, 0)
			checkCore(t, 16, both, j, i)
		}
	}
	for vars := 1; vars <= 16; vars++ {
		for _, places := range [][]int{ramp(vars, 0, 1), ramp(vars, 60-vars, 1), ramp(vars, 0, 59/vars), ramp(vars, 59-3*(vars-1), 3)} {
			l := full()
			for i, c := range circle(vars) {
				l[places[i]] = c
			}
			checkCore(t, 16, l, places...)
		}
		checkCore(t, vars, slices.Repeat(circle(vars), 60/vars), ramp(vars, 60/vars*vars-vars, 1)...)
	}
}

func TestK1Counts(t *testing.T) {
	for _, vars := range []int{0, -1, 17, 18, 60, 1 << 16, -1 << 40, minInt, maxInt} {
		checkWrong(t, vars, nil)
		checkWrong(t, vars, list(step(0, 1, 0)))
		checkWrong(t, vars, list(step(vars-1, 1, vars-1)))
	}
	for _, n := range []int{61, 62, 64, 65, 128, 1000} {
		checkWrong(t, 16, slices.Repeat(list(step(0, 1, 0)), n))
	}
	for _, n := range []int{0, 7, 8, 1000} {
		wide := clause(atom(0, 1), slices.Repeat([]api.Atom{atom(0, 0)}, n)...)
		checkWrong(t, 1, list(wide))
		checkWrong(t, 16, append(full()[1:], wide))
		checkWrong(t, 1, list(step(0, 1, 0), wide))
	}
}

func TestK1Atoms(t *testing.T) {
	for _, wrong := range []api.Atom{
		atom(-1, 0), atom(16, 0), atom(minInt, 0), atom(maxInt, 0), atom(0, -1), atom(0, 1001), atom(15, minInt), atom(15, maxInt),
	} {
		for _, i := range []int{0, 30, 58} {
			l := append(deepCopy(full()[1:]), step(0, 1, 0))
			l[i].To = wrong
			checkWrong(t, 16, l)
			l = append(deepCopy(full()[1:]), step(0, 1, 0))
			l[i].From[i/10] = wrong
			checkWrong(t, 16, l)
		}
	}
	for vars := 1; vars <= 15; vars++ {
		checkWrong(t, vars, list(step(0, 1, 0), step(0, 0, vars)))
		checkWrong(t, vars, list(step(0, 1, 0), step(vars, 0, 0)))
	}
}

func TestK1AllSmallLists(t *testing.T) {
	cs := append(simple(2, 1), clause(atom(0, 1), atom(0, 0), atom(1, 0)), clause(atom(1, 1), atom(0, 1), atom(1, 0)))
	for places := range grid(3, len(cs)-1) {
		l := picked(cs, places)
		checkCore(t, 2, l, reduced(2, l)...)
	}
	for l := range some(200, 8, 2, 2) {
		checkCore(t, 2, l, reduced(2, l)...)
	}
	for l := range some(100, 7, 3, 1) {
		checkCore(t, 3, l, reduced(3, l)...)
	}
}

func TestK2Places(t *testing.T) {
	l := slices.Repeat(list(step(0, 1, 0)), 60)
	checkProves(t, 1, l, false)
	checkProves(t, 1, nil, false)
	checkProves(t, 1, l, true, ramp(60, 0, 1)...)
	checkProves(t, 1, l, false, ramp(61, 0, 1)...)
	checkProves(t, 1, l, false, ramp(61, -1, 1)...)
	checkProves(t, 1, l, false, ramp(60, 59, -1)...)
	for i := range 60 {
		checkProves(t, 1, l, true, i)
		checkProves(t, 1, l, false, i, i)
		checkProves(t, 1, l[:i], false, i)
		for j := range i {
			checkProves(t, 1, l, true, j, i)
			checkProves(t, 1, l, false, i, j)
			checkProves(t, 1, l, false, j, j, i)
			checkProves(t, 1, l, false, j, i, i)
			checkProves(t, 1, l, false, j, i, j)
		}
		for _, wrong := range []int{-1, -2, -64, 60, 61, 63, 64, 64 + i, i - 64, 128 + i, 1<<32 + i, 1 << 40, minInt, minInt + i, maxInt} {
			checkProves(t, 1, l, false, wrong)
			checkProves(t, 1, l, false, wrong, i)
			checkProves(t, 1, l, false, i, wrong)
		}
	}
	checkProves(t, 1, l[:1], false, slices.Repeat([]int{0}, 100000)...)
}

func TestK2Clauses(t *testing.T) {
	l := list(step(1, 1, 0), step(2, 0, 0), step(0, 0, 1), step(2, 1, 2))
	for part := range subsets(ramp(4, 0, 1)) {
		loops := slices.Contains(part, 3) || slices.Contains(part, 0) && slices.Contains(part, 2)
		checkProves(t, 3, l, loops, part...)
	}
	// The clauses that aren't chosen have to be valid, too.
	for vars := range 3 {
		checkProves(t, vars, list(step(0, 1, 0), step(2, 0, 0)), false, 0)
	}
	checkProves(t, 1, list(step(0, 1, 0), step(0, 1001, 0)), false, 0)
	checkProves(t, 1, list(step(0, 1, 0), clause(atom(0, 0))), false, 0)
	checkProves(t, 1, list(step(0, 1, 0), step(0, 1000, 0)), true, 0)
	for l := range some(50, 6, 2, 2) {
		for part := range subsets(ramp(6, 0, 1)) {
			checkProves(t, 2, l, !modelled(2, picked(l, part)), part...)
		}
	}
}

func TestK3Minimal(t *testing.T) {
	checkMinimal(t, 1, nil)
	checkMinimal(t, 16, full())
	for vars := 1; vars <= 10; vars++ {
		checkMinimal(t, vars, circle(vars))
		checkMinimal(t, vars, slices.Repeat(circle(vars), 60/vars))
	}
	cores := 0
	for _, vars := range []int{1, 2, 5, 16} {
		for l := range some(60, 60, vars, 20) {
			checkMinimal(t, vars, l)
			if places, _ := Core(vars, l); len(places) > 1 {
				cores++
			}
		}
	}
	if cores < 100 {
		t.Errorf("%d cores of more than one clause are too few to tell", cores)
	}
}

// The list takes layer 9 the longest: a circle that is 1 greater each time, and up to 15000 where the other clauses allow it.
func TestK1Longest(t *testing.T) {
	l := circle(16)
	slices.Reverse(l)
	l[15] = clause(atom(0, 1000), atom(15, 999), atom(15, 0))
	a := atom(15, 1000)
	l = append(l, slices.Repeat(list(clause(a, a, a, a, a, a, a)), 44)...)
	checkCore(t, 16, l, ramp(16, 0, 1)...)
	slices.Reverse(l)
	checkCore(t, 16, l, ramp(16, 44, 1)...)
}

// Memory beyond the length of a slice is to stay as it is, too, and a result is new memory.
func TestArgumentsStay(t *testing.T) {
	from := []api.Atom{atom(0, 0), atom(1, 0), atom(-7, -7)}
	room := list(clause(atom(0, 0), from[:1]...), clause(atom(1, 1), from[:1]...), clause(atom(0, 0), from[1:2]...), clause(atom(-9, -9)))
	copied, places := deepCopy(room), []int{1, 2, -5}
	for range 2 {
		got, _ := Core(2, room[:3])
		if !slices.Equal(got, []int{1, 2}) || !Proves(2, room[:3], places[:2]) {
			t.Errorf("%v", got)
		}
		for i := range got[:cap(got)] {
			got[:cap(got)][i] = 77
		}
	}
	if !slices.EqualFunc(room, copied, sameClause) || from[2] != atom(-7, -7) || !slices.Equal(places, []int{1, 2, -5}) {
		t.Errorf("changed: %v, %v, %v", room, from, places)
	}
}
