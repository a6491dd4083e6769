package horn

import (
	"iter"
	"slices"
	"testing"

	"stereobate/api"
)

const (
	minInt = -1 << 63
	maxInt = 1<<63 - 1
)

func atom(v, off int) api.Atom { return api.Atom{Var: v, Off: off} }

func clause(to api.Atom, from ...api.Atom) api.Clause { return api.Clause{From: from, To: to} }

// self is a clause from a variable to itself, which holds in every model.
func self(v int) api.Clause { return clause(atom(v, 0), atom(v, 0)) }

func list(cs ...api.Clause) []api.Clause { return cs }

// wide is a clause with so many atoms From.
func wide(from int) api.Clause {
	return clause(atom(0, 0), slices.Repeat([]api.Atom{atom(0, 0)}, from)...)
}

// full is a list as great as it may be, with the greatest variable and the greatest Off in each place.
func full() []api.Clause {
	a := atom(15, 1000)
	return slices.Repeat(list(clause(a, a, a, a, a, a, a)), 60)
}

func sameClause(a, b api.Clause) bool { return slices.Equal(a.From, b.From) && a.To == b.To }

func deepCopy(l []api.Clause) []api.Clause {
	var out []api.Clause
	for _, c := range l {
		out = append(out, clause(c.To, slices.Clone(c.From)...))
	}
	return out
}

// grid yields all lists of so many numbers from 0 to high.
func grid(count, high int) iter.Seq[[]int] {
	return func(yield func([]int) bool) {
		ns := make([]int, count)
		for i := 0; i < count; {
			if !yield(slices.Clone(ns)) {
				return
			}
			for i = 0; i < count && ns[i] == high; i++ {
				ns[i] = 0
			}
			if i < count {
				ns[i]++
				i = 0
			}
		}
	}
}

// someClauses is all clauses with one or two atoms From over so many variables, with Offs up to high.
func someClauses(vars, high int) []api.Clause {
	var as []api.Atom
	for v := range vars {
		for off := range high + 1 {
			as = append(as, atom(v, off))
		}
	}
	var out []api.Clause
	for _, to := range as {
		for _, a := range as {
			out = append(out, clause(to, a))
			for _, b := range as {
				out = append(out, clause(to, a, b))
			}
		}
	}
	return out
}

// holds is the chapter's definition without a minimum: a value is at least the least of some if it is at least one of them.
func holds(c api.Clause, model []int) bool {
	return slices.ContainsFunc(c.From, func(a api.Atom) bool {
		return model[c.To.Var] >= model[a.Var]-a.Off+c.To.Off
	})
}

func checkRight(t *testing.T, vars int, l []api.Clause) {
	t.Helper()
	_, e := Most(vars, l)
	_, e2 := Names(vars, l)
	if !Right(vars, l) || e != api.OK || e2 != api.OK {
		t.Errorf("%d variables, %v: %v, %d, %d; want right", vars, l, Right(vars, l), e, e2)
	}
}

// checkWrong: each call refuses the clauses, Broken with a model of so many variables.
func checkWrong(t *testing.T, vars int, l []api.Clause) {
	t.Helper()
	n, e := Most(vars, l)
	names, e2 := Names(vars, l)
	if Right(vars, l) || n != 0 || e != api.ErrArg || len(names) != 0 || e2 != api.ErrArg {
		t.Errorf("%d variables, %v: %v, %d, %d, %v, %d; want ErrArg alone", vars, l, Right(vars, l), n, e, names, e2)
	}
	if vars >= 0 && vars < 100 {
		checkBrokenRefuses(t, l, make([]int, vars))
	}
}

func checkBroken(t *testing.T, l []api.Clause, model []int, want ...int) {
	t.Helper()
	if got, e := Broken(l, model); !slices.Equal(got, want) || e != api.OK {
		t.Errorf("Broken(%v, %v) = %v, %d; want %v", l, model, got, e, want)
	}
}

func checkBrokenRefuses(t *testing.T, l []api.Clause, model []int) {
	t.Helper()
	if got, e := Broken(l, model); len(got) != 0 || e != api.ErrArg {
		t.Errorf("Broken(%v, %v) = %v, %d; want ErrArg alone", l, model, got, e)
	}
}

func checkMost(t *testing.T, want, vars int, l ...api.Clause) {
	t.Helper()
	if got, e := Most(vars, l); got != want || e != api.OK {
		t.Errorf("Most(%d, %v) = %d, %d; want %d", vars, l, got, e, want)
	}
}

func checkNames(t *testing.T, vars int, l []api.Clause, want ...int) {
	t.Helper()
	if got, e := Names(vars, l); !slices.Equal(got, want) || e != api.OK {
		t.Errorf("Names(%d, %v) = %v, %d; want %v", vars, l, got, e, want)
	}
}

func TestH1Counts(t *testing.T) {
	for vars := 1; vars <= 16; vars++ {
		checkRight(t, vars, nil)
		checkRight(t, vars, list(self(vars-1)))
		checkWrong(t, vars, list(self(vars)))
	}
	for _, vars := range []int{0, -1, 17, 18, 60, 1 << 16, -1 << 40, minInt, maxInt} {
		checkWrong(t, vars, nil)
		checkWrong(t, vars, list(self(0)))
		checkWrong(t, vars, list(self(vars-1)))
	}
	for n := range 60 {
		checkRight(t, 16, slices.Repeat(list(wide(n%6+1)), n+1))
	}
	for _, n := range []int{61, 62, 64, 1000} {
		checkWrong(t, 16, slices.Repeat(list(self(0)), n))
	}
	checkRight(t, 16, full())
	for n := range 6 {
		checkRight(t, 1, list(wide(n+1)))
	}
	for _, n := range []int{0, 7, 8, 1000} {
		checkWrong(t, 1, list(wide(n)))
		checkWrong(t, 16, append(full()[1:], wide(n)))
		checkWrong(t, 16, append(list(wide(n)), full()[1:]...))
	}
}

// A single wrong atom is enough, wherever it stands.
func TestH1Atoms(t *testing.T) {
	for _, wrong := range []api.Atom{
		atom(-1, 0), atom(16, 0), atom(17, 0), atom(minInt, 0), atom(maxInt, 0), atom(0, -1), atom(0, 1001), atom(15, minInt), atom(15, maxInt), atom(-1, -1),
	} {
		for _, i := range []int{0, 1, 30, 59} {
			l := deepCopy(full())
			l[i].To = wrong
			checkWrong(t, 16, l)
			for j := range 6 {
				l = deepCopy(full())
				l[i].From[j] = wrong
				checkWrong(t, 16, l)
			}
		}
	}
	for vars := 1; vars <= 15; vars++ {
		checkWrong(t, vars, list(clause(atom(0, 0), atom(vars, 0))))
		checkWrong(t, vars, list(clause(atom(vars, 0), atom(0, 0))))
		checkWrong(t, vars, full())
	}
}

// Whoever ranges over the atoms may leave early.
func TestH1AtomsStop(t *testing.T) {
	l := list(clause(atom(0, 1), atom(0, 2), atom(0, 3)), clause(atom(0, 4), atom(0, 5)))
	want := []int{2, 3, 1, 5, 4}
	for stop := range want {
		var seen []int
		for c, a := range atoms(l) {
			if a != c.To && !slices.Contains(c.From, a) {
				t.Errorf("%v is no atom of %v", a, c)
			}
			if seen = append(seen, a.Off); len(seen) > stop {
				break
			}
		}
		if !slices.Equal(seen, want[:stop+1]) {
			t.Errorf("%v; want %v", seen, want[:stop+1])
		}
	}
}

func TestH2Example(t *testing.T) {
	l := list(clause(atom(1, 2), atom(0, 0)))
	checkBroken(t, l, []int{0, 2})
	checkBroken(t, l, []int{1, 2}, 0)
	checkBroken(t, l, []int{1, 3})
}

func TestH2Demands(t *testing.T) {
	// One less than what is demanded is too little.
	for off := range 4 {
		for v := range 7 {
			l := list(clause(atom(1, 5), atom(0, off)))
			checkBroken(t, l, []int{v, v - off + 5})
			checkBroken(t, l, []int{v, v - off + 4}, 0)
		}
	}
	// A value less an Off may be less than 0, and what is demanded, too.
	below := list(clause(atom(1, 3), atom(0, 5)))
	checkBroken(t, below, []int{0, 0})
	checkBroken(t, below, []int{2, 0})
	checkBroken(t, below, []int{3, 0}, 0)
	checkBroken(t, below, []int{3, 1})
	checkBroken(t, list(clause(atom(0, 1000), atom(1, 1000))), []int{0, 0})
	checkBroken(t, list(clause(atom(0, 1000), atom(1, 1000))), []int{0, 1}, 0)
	// The least atom counts, wherever it stands.
	for i := range 6 {
		model := []int{10, 9, 9, 9, 9, 9, 9}
		c := clause(atom(0, 4), atom(1, 0), atom(2, 0), atom(3, 0), atom(4, 0), atom(5, 0), atom(6, 0))
		checkBroken(t, list(c), model, 0)
		model[i+1] = 6
		checkBroken(t, list(c), model)
		model[i+1] = 7
		checkBroken(t, list(c), model, 0)
		c.From[i].Off = 1
		checkBroken(t, list(c), model)
	}
	// A variable may occur more than once, and lead to itself.
	checkBroken(t, list(clause(atom(0, 2), atom(0, 1), atom(0, 2))), []int{0})
	checkBroken(t, list(clause(atom(0, 2), atom(0, 1))), []int{0}, 0)
	checkBroken(t, list(clause(atom(0, 1), atom(0, 0))), []int{1 << 40}, 0)
}

// The indices are those of the list, in its order, also if clauses are equal.
func TestH2Indices(t *testing.T) {
	up, same := clause(atom(0, 1), atom(0, 0)), self(0)
	checkBroken(t, nil, []int{0})
	checkBroken(t, nil, make([]int, 16))
	checkBroken(t, list(same, same), []int{3})
	checkBroken(t, list(up, same, up, up, same), []int{3}, 0, 2, 3)
	l, all := slices.Repeat(list(up), 60), []int{}
	for i := range l {
		all = append(all, i)
	}
	checkBroken(t, l, []int{7}, all...)
	l[59] = same
	checkBroken(t, l, []int{7}, all[:59]...)
	l[0] = same
	checkBroken(t, l, []int{7}, all[1:59]...)
}

func TestH2Limits(t *testing.T) {
	const top = 1 << 40
	checkBroken(t, full(), slices.Repeat([]int{top}, 16))
	checkBroken(t, full(), make([]int, 16))
	l := list(clause(atom(1, 1000), atom(0, 0)), clause(atom(1, 0), atom(0, 1000)))
	checkBroken(t, l, []int{top - 1000, top})
	checkBroken(t, l, []int{top - 999, top}, 0)
	checkBroken(t, l, []int{top, top - 1000}, 0)
	checkBroken(t, l, []int{top, top - 1001}, 0, 1)
	checkBroken(t, l, []int{top, 0}, 0, 1)
	checkBroken(t, l, []int{0, top})
}

func TestH2Refuses(t *testing.T) {
	l := list(clause(atom(2, 1), atom(0, 0), atom(1, 0)))
	for _, count := range []int{0, 1, 2, 17, 18, 1000} {
		checkBrokenRefuses(t, l, make([]int, count))
	}
	checkBrokenRefuses(t, nil, nil)
	checkBrokenRefuses(t, nil, make([]int, 17))
	for count := 1; count <= 16; count++ {
		// That no clause names the variable makes no difference.
		for i := range count {
			for _, wrong := range []int{-1, 1<<40 + 1, minInt, maxInt} {
				model := make([]int, count)
				model[i] = wrong
				checkBrokenRefuses(t, nil, model)
				checkBrokenRefuses(t, list(self(0)), model)
			}
		}
	}
}

func TestH2AllSmallClauses(t *testing.T) {
	for _, c := range someClauses(2, 2) {
		for model := range grid(2, 5) {
			var want []int
			if !holds(c, model) {
				want = append(want, 1)
			}
			checkBroken(t, list(self(0), c), model, want...)
		}
	}
}

func TestH3Amounts(t *testing.T) {
	checkMost(t, 0, 1)
	checkMost(t, 0, 16)
	checkMost(t, 0, 1, self(0))
	checkMost(t, 2, 2, clause(atom(1, 2), atom(0, 0)))
	checkMost(t, 1, 2, clause(atom(1, 3), atom(0, 2)))
	checkMost(t, 0, 2, clause(atom(1, 2), atom(0, 2)))
	// It is at least 0, and each atom From counts, not only the one with the least Off or the first one.
	checkMost(t, 0, 2, clause(atom(1, 2), atom(0, 3)))
	checkMost(t, 0, 2, clause(atom(0, 0), atom(1, 1000)))
	checkMost(t, 5, 2, clause(atom(1, 7), atom(0, 9), atom(1, 2)))
	checkMost(t, 5, 2, clause(atom(1, 7), atom(0, 2), atom(1, 9)))
	checkMost(t, 4, 1, clause(atom(0, 9), atom(0, 6), atom(0, 7), atom(0, 8), atom(0, 9), atom(0, 10), atom(0, 5)))
	// An Off To isn't held against an Off From of another clause.
	low, high := clause(atom(0, 1), atom(1, 0)), clause(atom(1, 9), atom(0, 7))
	checkMost(t, 2, 2, low, high)
	checkMost(t, 2, 2, high, low)
	checkMost(t, 1, 2, low, low)
	checkMost(t, 1000, 16, append(full()[1:], clause(atom(3, 1000), atom(4, 1000), atom(5, 0)))...)
	checkMost(t, 0, 16, full()...)
}

func TestH3AllSmallClauses(t *testing.T) {
	for _, c := range someClauses(2, 3) {
		want := 0
		for _, a := range c.From {
			want = max(want, c.To.Off-a.Off)
		}
		checkMost(t, want, 2, c)
		checkMost(t, max(want, 1), 2, c, clause(atom(1, 1), atom(0, 0)))
	}
}

func TestH4Variables(t *testing.T) {
	checkNames(t, 1, nil)
	checkNames(t, 16, nil)
	checkNames(t, 1, list(self(0)), 0)
	checkNames(t, 16, list(self(15)), 15)
	checkNames(t, 16, full(), 15)
	// Those of From and those of To, each once, whatever their order in the clauses.
	checkNames(t, 9, list(clause(atom(2, 5), atom(7, 3), atom(4, 1))), 2, 4, 7)
	checkNames(t, 9, list(clause(atom(7, 0), atom(2, 0)), clause(atom(0, 0), atom(7, 9)), clause(atom(2, 0), atom(2, 0))), 0, 2, 7)
	for n := 1; n <= 16; n++ {
		var l []api.Clause
		var want []int
		for v := range n {
			l = append(list(self(v)), l...)
			want = append(want, v)
		}
		checkNames(t, n, l, want...)
		checkNames(t, 16, l, want...)
		checkNames(t, n, l[:n/2], want[n-n/2:]...)
	}
}

func TestH4AllSets(t *testing.T) {
	for set := range 1 << 16 {
		var want []int
		c := clause(atom(0, 0))
		for v := range 16 {
			if set>>v&1 == 1 {
				want = append(want, v)
				c.From = append(c.From, atom(v, 0))
				c.To.Var = v
			}
		}
		if len(want) > 0 && len(want) <= 6 {
			slices.Reverse(c.From)
			checkNames(t, 16, list(c), want...)
		}
	}
}

// models is all models with values up to high in which no clause is broken.
func models(l []api.Clause, vars, high int) [][]int {
	var out [][]int
	for model := range grid(vars, high) {
		if broken, e := Broken(l, model); len(broken) == 0 && e == api.OK {
			out = append(out, model)
		}
	}
	return out
}

func checkH5(t *testing.T, l []api.Clause, vars, high int) {
	t.Helper()
	all := models(l, vars, high)
	for _, a := range all {
		for _, n := range []int{1, 2, 1000, 1<<40 - high} {
			more := slices.Clone(a)
			for i := range more {
				more[i] += n
			}
			checkBroken(t, l, more)
		}
		for _, b := range all {
			least := slices.Clone(a)
			for i := range least {
				least[i] = min(a[i], b[i])
			}
			checkBroken(t, l, least)
		}
	}
}

func TestH5(t *testing.T) {
	for _, c := range someClauses(2, 2) {
		checkH5(t, list(c), 2, 4)
		checkH5(t, list(c, clause(atom(1, 1), atom(0, 0), atom(1, 1))), 2, 4)
	}
	checkH5(t, list(
		clause(atom(1, 2), atom(0, 0)),
		clause(atom(2, 0), atom(0, 0), atom(1, 0)),
		clause(atom(0, 1), atom(1, 3), atom(2, 1)),
		clause(atom(2, 2), atom(1, 1), atom(0, 3))), 3, 5)
}

// Memory beyond the length of a slice is to stay as it is, too, and a result is new memory.
func TestArgumentsStay(t *testing.T) {
	from := []api.Atom{atom(0, 1), atom(1, 2), atom(-7, -7)}
	room := list(clause(atom(1, 4), from[:2]...), clause(atom(0, 3), from[1:2]...), clause(atom(-9, -9)))
	copied, model := deepCopy(room), []int{1, 0, -5}
	for range 2 {
		Right(2, room[:2])
		Most(2, room[:2])
		broken, _ := Broken(room[:2], model[:2])
		names, _ := Names(2, room[:2])
		if !slices.Equal(broken, []int{0}) || !slices.Equal(names, []int{0, 1}) {
			t.Errorf("%v, %v", broken, names)
		}
		broken[0], names[0], names[1] = 77, 77, 77
	}
	if !slices.EqualFunc(room, copied, sameClause) || from[2] != atom(-7, -7) || !slices.Equal(model, []int{1, 0, -5}) {
		t.Errorf("changed: %v, %v, %v", room, from, model)
	}
}
