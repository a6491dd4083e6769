package store

import (
	"iter"
	"slices"
	"testing"

	"stereobate/api"
	"stereobate/core"
	"stereobate/horn"
	"stereobate/solve"
)

const (
	minInt = -1 << 63
	maxInt = 1<<63 - 1
)

func atom(v, off int) api.Atom { return api.Atom{Var: v, Off: off} }

func clause(to api.Atom, from ...api.Atom) api.Clause { return api.Clause{From: from, To: to} }

// step is the clause by which a variable is at least another one plus so much.
func step(to, off, from int) api.Clause { return clause(atom(to, off), atom(from, 0)) }

func list(cs ...api.Clause) []api.Clause { return cs }

// full is a list as great as it may be, with the greatest variable and the greatest Off in each place.
func full() []api.Clause {
	a := atom(15, 1000)
	return slices.Repeat(list(clause(a, a, a, a, a, a, a)), 60)
}

// circle is the clauses by which each variable is at least the one before it, and the first one greater than the last.
func circle(vars int) []api.Clause {
	out := list(step(0, 1, vars-1))
	for v := 1; v < vars; v++ {
		out = append(out, step(v, 0, v-1))
	}
	return out
}

// stairs is the clauses by which each variable is at least the one before it plus so much.
func stairs(vars, off int) []api.Clause {
	var out []api.Clause
	for v := 1; v < vars; v++ {
		out = append(out, step(v, off, v-1))
	}
	return out
}

func sameClause(a, b api.Clause) bool { return slices.Equal(a.From, b.From) && a.To == b.To }

func sameStore(a, b api.Store) bool {
	return a.Vars == b.Vars && slices.EqualFunc(a.Clauses, b.Clauses, sameClause) && slices.Equal(a.Model, b.Model)
}

func deepCopy(l []api.Clause) []api.Clause {
	var out []api.Clause
	for _, c := range l {
		out = append(out, clause(c.To, slices.Clone(c.From)...))
	}
	return out
}

// made is the store with these clauses, which have the least model that Solve returns.
func made(vars int, l ...api.Clause) api.Store {
	model, _, _, _ := solve.Solve(vars, l)
	return api.Store{Vars: vars, Clauses: l, Model: model}
}

// grid yields all lists of so many numbers from 0 to high.
func grid(count, high int) iter.Seq[[]int] {
	return func(yield func([]int) bool) {
		ns := make([]int, count)
		for i := 0; i < count; {
			if !yield(slices.Clone(ns)) {
				return
			}
			for i = 0; i < count && ns[i] == high; i++ {
				ns[i] = 0
			}
			if i < count {
				ns[i]++
				i = 0
			}
		}
	}
}

// some are lists of count clauses each, with up to three atoms From, over so many variables and with Offs up to high.
func some(lists, count, vars, high int) iter.Seq[[]api.Clause] {
	return func(yield func([]api.Clause) bool) {
		n := 1
		next := func(count int) int {
			n = n*48271%(1<<31-1) + 1
			return n / 7 % count
		}
		for range lists {
			var l []api.Clause
			for range count {
				c := clause(atom(next(vars), next(high+1)))
				for range next(3) + 1 {
					c.From = append(c.From, atom(next(vars), next(high+1)))
				}
				l = append(l, c)
			}
			if !yield(l) {
				return
			}
		}
	}
}

// holds is L3 word by word, for the models whose values are at most high.
func holds(s api.Store, c api.Clause, high int) bool {
	for model := range grid(s.Vars, high) {
		broken, _ := horn.Broken(s.Clauses, model)
		denied, _ := horn.Broken(list(c), model)
		if len(broken) == 0 && len(denied) > 0 {
			return false
		}
	}
	return true
}

// checkAdd: the clauses are added, and the store gets this model.
func checkAdd(t *testing.T, s api.Store, l []api.Clause, model ...int) api.Store {
	t.Helper()
	got, places, e := Add(s, l...)
	want := api.Store{Vars: s.Vars, Clauses: slices.Concat(s.Clauses, l), Model: model}
	if !sameStore(got, want) || len(places) != 0 || e != api.OK || !Right(got) {
		t.Errorf("Add(%v, %v) = %v, %v, %d; want %v", s, l, got, places, e, want)
	}
	return got
}

// checkRefused: the store stays as it is.
func checkRefused(t *testing.T, s api.Store, l []api.Clause, want api.Errno, places ...int) {
	t.Helper()
	got, why, e := Add(s, l...)
	if !sameStore(got, s) || !slices.Equal(why, places) || e != want {
		t.Errorf("Add(%v, %v) = %v, %v, %d; want %v, %d", s, l, got, why, e, places, want)
	}
}

func checkFollows(t *testing.T, s api.Store, want bool, a api.Atom, b ...api.Atom) {
	t.Helper()
	if got, e := Follows(s, a, b...); got != want || e != api.OK {
		t.Errorf("Follows(%v, %v, %v) = %v, %d; want %v", s, a, b, got, e, want)
	}
}

func checkNoAnswer(t *testing.T, s api.Store, want api.Errno, a api.Atom, b ...api.Atom) {
	t.Helper()
	if got, e := Follows(s, a, b...); got || e != want {
		t.Errorf("Follows(%v, %v, %v) = %v, %d; want %d", s, a, b, got, e, want)
	}
}

// checkWrong: no call takes the store, and ErrArg goes before each other error.
func checkWrong(t *testing.T, s api.Store) {
	t.Helper()
	if Right(s) {
		t.Errorf("Right(%v) = true", s)
	}
	checkRefused(t, s, nil, api.ErrArg)
	checkRefused(t, s, list(step(0, 0, 0)), api.ErrArg)
	checkRefused(t, s, list(step(0, 1, 0)), api.ErrArg)
	checkRefused(t, s, full(), api.ErrArg)
	checkNoAnswer(t, s, api.ErrArg, atom(0, 0), atom(0, 0))
	checkNoAnswer(t, s, api.ErrArg, atom(0, 0), atom(0, 1000))
}

func TestL1New(t *testing.T) {
	for vars := 1; vars <= 16; vars++ {
		s, e := New(vars)
		if e != api.OK || !sameStore(s, api.Store{Vars: vars, Model: make([]int, vars)}) || !Right(s) {
			t.Errorf("New(%d) = %v, %d", vars, s, e)
		}
	}
	for _, vars := range []int{0, -1, -2, 17, 18, 60, 1 << 32, 1<<32 + 1, 1 << 40, minInt, minInt + 1, maxInt} {
		if s, e := New(vars); e != api.ErrArg || !sameStore(s, api.Store{}) {
			t.Errorf("New(%d) = %v, %d", vars, s, e)
		}
	}
}

func TestL1Right(t *testing.T) {
	for vars := 1; vars <= 16; vars++ {
		for _, l := range [][]api.Clause{nil, list(), stairs(vars, 0), stairs(vars, 1000), slices.Repeat(list(step(0, 0, vars-1)), 60)} {
			s := made(vars, l...)
			if len(s.Model) != vars || !Right(s) {
				t.Errorf("Right(%v) = false", s)
			}
		}
	}
	if !Right(api.Store{Vars: 16, Clauses: full(), Model: make([]int, 16)}) {
		t.Error("Right refuses a full store")
	}
	if !Right(api.Store{Vars: 3, Clauses: stairs(3, 1), Model: []int{0, 1, 2}}) {
		t.Error("Right refuses the least model")
	}
}

func TestL1WrongModels(t *testing.T) {
	l := append(stairs(3, 1), step(0, 0, 0))
	for model := range grid(3, 3) {
		if s := (api.Store{Vars: 3, Clauses: l, Model: model}); Right(s) != slices.Equal(model, []int{0, 1, 2}) {
			t.Errorf("Right(%v) = %v", s, Right(s))
		}
	}
	for _, model := range [][]int{nil, {}, {0}, {0, 1}, {0, 1, 2, 0}, {0, 1, 2, 3}, {1, 2, 3}, {-1, 0, 1}, {0, 1, 1}, {minInt, 1, 2}, {0, 1, maxInt}, make([]int, 1000)} {
		checkWrong(t, api.Store{Vars: 3, Clauses: l, Model: model})
	}
	checkWrong(t, api.Store{})
	checkWrong(t, api.Store{Vars: 1})
	checkWrong(t, api.Store{Vars: 1, Model: []int{1}})
	checkWrong(t, api.Store{Vars: 16, Model: make([]int, 15)})
	checkWrong(t, api.Store{Vars: 16, Model: make([]int, 17)})
	checkWrong(t, api.Store{Vars: 15, Model: make([]int, 16)})
	// Solve returns an empty slice for these clauses, but it is not a model.
	for _, model := range [][]int{nil, {}, {0}, {1}} {
		checkWrong(t, api.Store{Vars: 1, Clauses: list(step(0, 1, 0)), Model: model})
	}
	for vars := 1; vars <= 16; vars++ {
		checkWrong(t, api.Store{Vars: vars, Clauses: circle(vars), Model: make([]int, vars)})
		checkWrong(t, api.Store{Vars: vars, Clauses: circle(vars)})
	}
}

func TestL1WrongClauses(t *testing.T) {
	for _, vars := range []int{0, -1, 17, 60, 1 << 40, minInt, maxInt} {
		checkWrong(t, api.Store{Vars: vars})
		checkWrong(t, api.Store{Vars: vars, Model: make([]int, max(0, min(vars, 100)))})
		checkWrong(t, api.Store{Vars: vars, Model: []int{0}})
	}
	zeros := make([]int, 16)
	for _, n := range []int{61, 62, 64, 1000} {
		checkWrong(t, api.Store{Vars: 16, Clauses: slices.Repeat(list(step(0, 0, 0)), n), Model: zeros})
	}
	for _, n := range []int{0, 7, 8, 1000} {
		wide := clause(atom(0, 0), slices.Repeat([]api.Atom{atom(0, 0)}, n)...)
		checkWrong(t, api.Store{Vars: 16, Clauses: list(step(0, 0, 0), wide), Model: zeros})
	}
	for _, wrong := range []api.Atom{
		atom(-1, 0), atom(16, 0), atom(minInt, 0), atom(maxInt, 0), atom(0, -1), atom(0, 1001), atom(0, minInt), atom(15, maxInt),
	} {
		checkWrong(t, api.Store{Vars: 16, Clauses: append(full()[1:], clause(wrong, atom(0, 0))), Model: zeros})
		checkWrong(t, api.Store{Vars: 16, Clauses: list(clause(atom(0, 0), atom(0, 0), wrong)), Model: zeros})
	}
}

func TestL2Adds(t *testing.T) {
	s, _ := New(3)
	checkAdd(t, s, nil, 0, 0, 0)
	a := checkAdd(t, s, list(step(1, 1, 0), step(2, 0, 1)), 0, 1, 1)
	checkAdd(t, a, nil, 0, 1, 1)
	checkAdd(t, a, list(step(2, 1, 0)), 0, 1, 1)
	checkAdd(t, a, list(step(1, 1, 0)), 0, 1, 1)
	checkAdd(t, a, list(step(2, 5, 0)), 0, 1, 5)
	// What comes last changes the values that clauses before it demand.
	checkAdd(t, a, list(step(1, 7, 0), clause(atom(0, 0), atom(1, 7))), 0, 7, 7)
	checkAdd(t, a, list(clause(atom(2, 3), atom(0, 0), atom(1, 0))), 0, 1, 3)
	for vars := 1; vars <= 16; vars++ {
		s, _ := New(vars)
		var model []int
		for v := range vars {
			model = append(model, 1000*v)
		}
		checkAdd(t, s, stairs(vars, 1000), model...)
		checkAdd(t, s, circle(vars)[1:], make([]int, vars)...)
	}
}

func TestL2Long(t *testing.T) {
	zeros := make([]int, 16)
	for count := range 61 {
		s := made(16, full()[:count]...)
		checkAdd(t, s, full()[count:], zeros...)
		checkRefused(t, s, slices.Repeat(list(step(0, 0, 0)), 61-count), api.ErrLong)
		checkRefused(t, s, slices.Repeat(list(step(99, 0, 99)), 61-count), api.ErrLong)
		checkRefused(t, s, slices.Repeat(list(step(0, 1, 0)), 61-count), api.ErrLong)
		checkRefused(t, s, slices.Repeat(list(clause(atom(0, 0))), 61), api.ErrLong)
	}
	checkRefused(t, made(1), slices.Repeat(list(step(0, 0, 0)), 100000), api.ErrLong)
}

func TestL2Wrong(t *testing.T) {
	for vars := 1; vars <= 15; vars++ {
		s := made(vars, stairs(vars, 1)...)
		checkRefused(t, s, list(step(vars, 0, 0)), api.ErrArg)
		checkRefused(t, s, list(step(0, 0, vars)), api.ErrArg)
		checkRefused(t, s, list(step(0, 1, 0), step(0, 0, vars)), api.ErrArg)
	}
	s := made(16, full()[:50]...)
	for _, wrong := range []api.Atom{
		atom(-1, 0), atom(16, 0), atom(minInt, 0), atom(maxInt, 0), atom(0, -1), atom(0, 1001), atom(0, minInt), atom(15, maxInt),
	} {
		for i := range 10 {
			l := full()[:10]
			l[i] = clause(wrong, atom(0, 0))
			checkRefused(t, s, l, api.ErrArg)
			l[i] = clause(atom(0, 0), atom(0, 0), wrong)
			checkRefused(t, s, l, api.ErrArg)
			// They would not have a model, either.
			l[(i+1)%10] = step(0, 1, 0)
			checkRefused(t, s, l, api.ErrArg)
		}
	}
	for _, n := range []int{0, 7, 8, 100000} {
		checkRefused(t, s, list(clause(atom(0, 0), slices.Repeat([]api.Atom{atom(0, 0)}, n)...)), api.ErrArg)
	}
}

func TestL2Loops(t *testing.T) {
	s := made(3, step(1, 1, 0), step(2, 1, 1))
	checkRefused(t, s, list(step(0, 0, 2)), api.ErrLoop, 0, 1, 2)
	checkRefused(t, s, list(step(0, 0, 0), step(0, 0, 2)), api.ErrLoop, 0, 1, 3)
	checkRefused(t, s, list(step(0, 1, 0)), api.ErrLoop, 2)
	checkRefused(t, s, list(step(0, 0, 2), step(0, 1, 0)), api.ErrLoop, 3)
	checkRefused(t, s, list(step(0, 0, 0), step(0, 0, 1), step(1, 1, 0)), api.ErrLoop, 3, 4)
	checkRefused(t, s, list(step(0, 0, 1), step(0, 0, 0)), api.ErrLoop, 0, 2)
	checkRefused(t, s, list(clause(atom(0, 0), atom(1, 0), atom(2, 1))), api.ErrLoop, 0, 1, 2)
	checkAdd(t, s, list(clause(atom(0, 0), atom(1, 1), atom(2, 0))), 0, 1, 2)
	for vars := 1; vars <= 16; vars++ {
		l, places := circle(vars), make([]int, vars)
		for i := range places {
			places[i] = i
		}
		for i := range places {
			checkRefused(t, made(vars, l[:i]...), l[i:], api.ErrLoop, places...)
		}
		many := made(16, slices.Concat(full()[:60-vars], stairs(vars, 0))...)
		for i := range places {
			places[i] = 60 - vars + i
		}
		checkRefused(t, many, list(step(0, 1, vars-1)), api.ErrLoop, places...)
	}
}

func TestL2SomeLists(t *testing.T) {
	loops, adds := 0, 0
	for l := range some(400, 8, 4, 3) {
		s, before := made(4), l[:4]
		if first, _, e := Add(s, before...); e == api.OK {
			s = first
		} else {
			before = nil
		}
		model, found, _, _ := solve.Solve(4, append(slices.Clone(before), l[4:]...))
		if found {
			checkAdd(t, s, l[4:], model...)
			adds++
			continue
		}
		places, _ := core.Core(4, append(slices.Clone(before), l[4:]...))
		checkRefused(t, s, l[4:], api.ErrLoop, places...)
		loops++
	}
	if loops < 50 || adds < 50 {
		t.Errorf("%d and %d lists are too few to tell", loops, adds)
	}
}

func TestL3Example(t *testing.T) {
	s := made(3, step(1, 1, 0), step(2, 0, 1))
	checkFollows(t, s, true, atom(2, 1), atom(0, 0))
	checkFollows(t, s, false, atom(2, 2), atom(0, 0))
	checkFollows(t, s, true, atom(2, 0), atom(0, 0))
	checkFollows(t, s, false, atom(0, 0), atom(2, 0))
	checkFollows(t, s, true, atom(0, 0), atom(0, 0), atom(2, 0))
	checkFollows(t, s, true, atom(0, 0), atom(2, 0), atom(0, 0))
	checkRefused(t, s, list(step(0, 0, 2)), api.ErrLoop, 0, 1, 2)
}

func TestL3Offs(t *testing.T) {
	s := made(2, step(1, 500, 0))
	for _, off := range []int{0, 1, 2, 499, 500, 501, 998, 999} {
		checkFollows(t, s, true, atom(0, off), atom(0, off))
		checkFollows(t, s, true, atom(1, min(off+500, 1000)), atom(0, off))
		checkFollows(t, s, off+501 > 1000, atom(1, min(off+501, 1000)), atom(0, off))
		checkFollows(t, s, true, atom(0, max(0, off-1)), atom(0, off))
		checkFollows(t, s, false, atom(0, off+1), atom(0, off))
		checkFollows(t, s, false, atom(0, 0), atom(1, off))
		checkFollows(t, s, true, atom(0, off), atom(1, 999), atom(0, off))
	}
	checkFollows(t, s, false, atom(0, 1000), atom(0, 999))
	checkFollows(t, s, true, atom(1, 1000), atom(0, 999))
	checkFollows(t, s, true, atom(1, 1000), atom(0, 500))
	checkFollows(t, s, false, atom(1, 1000), atom(0, 499))
}

func TestL3Errors(t *testing.T) {
	ok := atom(0, 0)
	for vars := 1; vars <= 16; vars++ {
		s := made(vars, stairs(vars, 1)...)
		for _, wrong := range []api.Atom{
			atom(-1, 0), atom(vars, 0), atom(minInt, 0), atom(maxInt, 0), atom(0, -1), atom(0, 1001), atom(0, minInt), atom(0, maxInt),
		} {
			checkNoAnswer(t, s, api.ErrArg, wrong, ok)
			checkNoAnswer(t, s, api.ErrArg, ok, wrong)
			checkNoAnswer(t, s, api.ErrArg, ok, ok, ok, ok, ok, ok, wrong)
			checkNoAnswer(t, s, api.ErrArg, wrong, atom(0, 1000))
			checkNoAnswer(t, s, api.ErrArg, ok, atom(0, 1000), wrong)
		}
		for _, n := range []int{0, 7, 8, 61, 100000} {
			checkNoAnswer(t, s, api.ErrArg, ok, slices.Repeat([]api.Atom{ok}, n)...)
			checkNoAnswer(t, s, api.ErrArg, ok, slices.Repeat([]api.Atom{atom(0, 1000)}, n)...)
		}
		checkNoAnswer(t, s, api.ErrLong, ok, atom(vars-1, 1000))
		checkNoAnswer(t, s, api.ErrLong, atom(0, 1000), atom(0, 1000))
		checkNoAnswer(t, s, api.ErrLong, ok, ok, ok, ok, ok, ok, atom(0, 1000))
		checkNoAnswer(t, s, api.ErrLong, ok, atom(0, 1000), ok)
		checkFollows(t, s, false, atom(0, 1000), ok)
		checkFollows(t, s, false, atom(0, 1000), atom(0, 999))
	}
}

func TestL3Long(t *testing.T) {
	for count := range 61 {
		s := made(16, full()[:count]...)
		for n := 1; n <= 6; n++ {
			b := slices.Repeat([]api.Atom{atom(0, 0)}, n)
			if count+n > 60 {
				checkNoAnswer(t, s, api.ErrLong, atom(0, 0), b...)
				b[0].Off = 1001
				checkNoAnswer(t, s, api.ErrArg, atom(0, 0), b...)
				continue
			}
			checkFollows(t, s, true, atom(0, 0), b...)
			checkFollows(t, s, false, atom(0, 1), b...)
			checkFollows(t, s, false, atom(1, 0), b...)
		}
	}
}

func TestL3AllSmallClauses(t *testing.T) {
	counts := map[bool]int{}
	for l := range some(60, 3, 2, 2) {
		s, _, e := Add(made(2), l...)
		if e != api.OK {
			continue
		}
		for ns := range grid(6, 1) {
			a, b := atom(ns[0], 2*ns[1]), []api.Atom{atom(ns[2], ns[3]), atom(ns[4], 1+ns[5])}
			for _, b := range [][]api.Atom{b, b[:1], b[1:]} {
				want := holds(s, clause(a, b...), 4)
				checkFollows(t, s, want, a, b...)
				counts[want]++
			}
		}
	}
	if counts[true] < 500 || counts[false] < 500 {
		t.Errorf("%v are too few to tell", counts)
	}
}

func TestL3SomeClauses(t *testing.T) {
	counts := map[bool]int{}
	for l := range some(800, 4, 3, 2) {
		c := l[3]
		s, _, e := Add(made(3), l[:3]...)
		if e == api.OK {
			want := holds(s, c, 6)
			checkFollows(t, s, want, c.To, c.From...)
			counts[want]++
		}
	}
	if counts[true] < 100 || counts[false] < 100 {
		t.Errorf("%v are too few to tell", counts)
	}
}

func TestL4OneByOne(t *testing.T) {
	for _, vars := range []int{1, 3, 16} {
		for l := range some(40, 12, vars, 3) {
			s := made(vars)
			for _, c := range l {
				next, _, e := Add(s, c)
				if _, _, all := Add(made(vars), slices.Concat(s.Clauses, list(c))...); all != e {
					t.Errorf("Add(%v, %v): %d and %d", s, c, e, all)
				}
				s = next
			}
			checkAdd(t, made(vars), s.Clauses, s.Model...)
		}
	}
}

func TestL4Follows(t *testing.T) {
	counts := map[bool]int{}
	for l := range some(600, 6, 3, 2) {
		s, _, e := Add(made(3), l[:3]...)
		if e != api.OK {
			continue
		}
		c := l[3]
		follows, _ := Follows(s, c.To, c.From...)
		counts[follows]++
		if follows {
			checkSameModels(t, s, checkAdd(t, s, list(c), s.Model...))
		}
		if more, _, e := Add(s, c); e == api.OK {
			checkFollows(t, more, true, c.To, c.From...)
		}
		if more, _, e := Add(s, l[4:]...); e == api.OK && follows {
			checkFollows(t, more, true, c.To, c.From...)
		}
	}
	if counts[true] < 50 || counts[false] < 50 {
		t.Errorf("%v are too few to tell", counts)
	}
}

// checkSameModels: the same models, as far as values up to 4 show.
func checkSameModels(t *testing.T, a, b api.Store) {
	t.Helper()
	for model := range grid(a.Vars, 4) {
		first, _ := horn.Broken(a.Clauses, model)
		second, _ := horn.Broken(b.Clauses, model)
		if (len(first) == 0) != (len(second) == 0) {
			t.Errorf("%v is a model of one of %v and %v", model, a, b)
		}
	}
}

// overwrite writes into all memory that a store has, up to the capacity of its slices.
func overwrite(s api.Store) {
	for i := range s.Model[:cap(s.Model)] {
		s.Model[:cap(s.Model)][i] = 77
	}
	for _, c := range s.Clauses {
		for i := range c.From[:cap(c.From)] {
			c.From[:cap(c.From)][i] = atom(77, 77)
		}
	}
	for i := range s.Clauses[:cap(s.Clauses)] {
		s.Clauses[:cap(s.Clauses)][i] = step(77, 77, 77)
	}
}

// Memory beyond the length of a slice is to stay as it is, too, and a result is new memory.
func TestArgumentsStay(t *testing.T) {
	from := []api.Atom{atom(0, 0), atom(1, 0), atom(-7, -7)}
	room := list(clause(atom(1, 1), from[:1]...), clause(atom(0, 0), from[:2]...), clause(atom(-9, -9)), clause(atom(-9, -9)))
	model := []int{0, 1, -5, -6}
	added := list(clause(atom(1, 2), from[:1]...), clause(atom(0, 0), from[1:2]...), clause(atom(-8, -8)))
	keptRoom, keptAdded := deepCopy(room), deepCopy(added)
	s := api.Store{Vars: 2, Clauses: room[:1], Model: model[:2]}
	for range 2 {
		for _, n := range []int{0, 1, 2, 3} {
			got, places, _ := Add(s, added[:n]...)
			overwrite(got)
			for i := range places[:cap(places)] {
				places[:cap(places)][i] = 77
			}
		}
		got, _, _ := Add(api.Store{Vars: 2, Clauses: room[:2], Model: model[:3]}, added[:1]...)
		overwrite(got)
		checkFollows(t, s, true, atom(1, 1), from[:1]...)
		checkFollows(t, s, true, atom(1, 1), from[:2]...)
		checkFollows(t, s, false, atom(0, 0), from[1:2]...)
	}
	if !slices.EqualFunc(room, keptRoom, sameClause) || !slices.EqualFunc(added, keptAdded, sameClause) {
		t.Errorf("changed: %v, %v", room, added)
	}
	if !slices.Equal(from, []api.Atom{atom(0, 0), atom(1, 0), atom(-7, -7)}) || !slices.Equal(model, []int{0, 1, -5, -6}) {
		t.Errorf("changed: %v, %v", from, model)
	}
	one, _ := New(2)
	overwrite(one)
	if two, _ := New(2); !slices.Equal(two.Model, []int{0, 0}) {
		t.Errorf("New(2) = %v", two)
	}
}

// No two lists of one answer share memory, though lists of the arguments do.
func TestListsApart(t *testing.T) {
	from := []api.Atom{atom(0, 0), atom(1, 0)}
	s := api.Store{Vars: 2, Clauses: list(clause(atom(1, 1), from[:1]...), clause(atom(1, 0), from...)), Model: []int{0, 1}}
	for _, n := range []int{0, 1, 2} {
		l := slices.Repeat(list(clause(atom(1, 0), from[:n]...)), 2)
		got, _, e := Add(s, l...)
		if (e == api.OK) != (n > 0) {
			t.Errorf("Add: %d", e)
		}
		for i, c := range got.Clauses {
			before := deepCopy(got.Clauses)
			for j := range c.From[:cap(c.From)] {
				c.From[:cap(c.From)][j] = atom(50+i, 0)
			}
			before[i] = c
			if !slices.EqualFunc(got.Clauses, before, sameClause) {
				t.Errorf("%v shares the list of clause %d", got.Clauses, i)
			}
		}
	}
}
