package tsub

import (
	"slices"
	"strconv"
	"testing"

	"stereobate/api"
	"stereobate/level"
	"stereobate/lsub"
	"stereobate/term"
)

const (
	minInt = -1 << 63
	maxInt = 1<<63 - 1
)

func leaf(kind, n int) api.Level { return api.Level{Kind: kind, N: n} }

func param(n int) api.Level { return leaf(api.Param, n) }

func meta(n int) api.Level { return leaf(api.Meta, n) }

func zero() api.Level { return leaf(api.Zero, 0) }

func node(kind int, kids ...api.Level) api.Level { return api.Level{Kind: kind, Kids: kids} }

// up puts n Succs around l.
func up(n int, l api.Level) api.Level {
	for range n {
		l = node(api.Succ, l)
	}
	return l
}

// full is a tree of Max and Imax over l with 2^height times l and 2^height - 1 other levels.
func full(height int, l api.Level) api.Level {
	if height == 0 {
		return l
	}
	return node(api.Max+height%2, full(height-1, l), full(height-1, l))
}

func v(n int) api.Term { return api.Term{Kind: api.Var, N: n} }

func sort(l ...api.Level) api.Term { return api.Term{Kind: api.Sort, Levels: l} }

func con(n int, ls ...api.Level) api.Term { return api.Term{Kind: api.Const, N: n, Levels: ls} }

func of(kind int, kids ...api.Term) api.Term { return api.Term{Kind: kind, Kids: kids} }

func app(a, b api.Term) api.Term { return of(api.App, a, b) }

func lam(a, b api.Term) api.Term { return of(api.Lam, a, b) }

func pi(a, b api.Term) api.Term { return of(api.Pi, a, b) }

func let(a, b, c api.Term) api.Term { return of(api.Let, a, b, c) }

// places is all kinds that have kids, with how many there are.
func places() [][2]int {
	return [][2]int{{api.App, 2}, {api.Lam, 2}, {api.Pi, 2}, {api.Let, 3}}
}

// within puts t into a term of the kind, in a place, beside terms without levels.
func within(kind, kids, place int, t api.Term) api.Term {
	all := slices.Repeat([]api.Term{v(0)}, kids)
	all[place] = t
	return of(kind, all...)
}

// nested puts n terms around t, of one kind, always in the same place.
func nested(n, kind, kids, place int, t api.Term) api.Term {
	for range n {
		t = within(kind, kids, place, t)
	}
	return t
}

// sized is a term of so many terms, which must be odd, with t at all its ends.
func sized(count int, t api.Term) api.Term {
	if count == 1 {
		return t
	}
	first := (count - 1) / 2
	if first%2 == 0 {
		first--
	}
	return app(sized(first, t), sized(count-1-first, t))
}

// draw returns a function whose numbers are less than its argument, and hang on its earlier calls alone.
func draw() func(count int) int {
	n := 1
	return func(count int) int {
		n = n*48271%(1<<31-1) + 1
		return n / 7 % count
	}
}

func drawnLevel(pick func(int) int, height int) api.Level {
	sub := func() api.Level { return drawnLevel(pick, height-1) }
	switch kind := 1 + pick(6); {
	case kind == api.Param || height == 0 && kind < api.Param:
		return param(pick(5))
	case kind == api.Meta:
		return meta(pick(10))
	case kind == api.Zero:
		return zero()
	case kind == api.Succ:
		return up(1, sub())
	default:
		return node(kind, sub(), sub())
	}
}

func drawnLevels(pick func(int) int, count int) []api.Level {
	var all []api.Level
	for range count {
		all = append(all, drawnLevel(pick, 2))
	}
	return all
}

// drawnTerm is a term of at most so much height, with the free variables 0 to 3.
func drawnTerm(pick func(int) int, height, binders int) api.Term {
	kind := 1 + pick(7)
	if height == 0 {
		kind = 1 + pick(3)
	}
	sub := func(binders int) api.Term { return drawnTerm(pick, height-1, binders) }
	switch kind {
	case api.Var:
		return v(pick(binders + 4))
	case api.Sort:
		return sort(drawnLevel(pick, 2))
	case api.Const:
		return con(pick(20), drawnLevels(pick, pick(6))...)
	case api.App:
		return app(sub(binders), sub(binders))
	case api.Let:
		return let(sub(binders), sub(binders), sub(binders+1))
	}
	return of(kind, sub(binders), sub(binders+1))
}

// someTerms is all terms of at most so much height over a Var, Sorts and Consts with parameters and unknowns.
func someTerms(height int) []api.Term {
	all := []api.Term{v(0), sort(node(api.Imax, param(0), meta(1))), sort(meta(0)), con(3, param(1), up(1, meta(0))), con(4)}
	if height == 0 {
		return all
	}
	below := someTerms(height - 1)
	for _, a := range below {
		for _, b := range below {
			all = append(all, app(a, b), lam(a, b), pi(a, b))
			for _, c := range below {
				all = append(all, let(a, b, c))
			}
		}
	}
	return all
}

// someLists is lists of what can be put in the place of parameters or unknowns.
func someLists() [][]api.Level {
	a, b := node(api.Imax, param(1), up(1, meta(0))), node(api.Max, meta(1), param(0))
	return [][]api.Level{nil, {zero()}, {a}, {b}, {a, b}, {b, a, zero()}, {meta(0), param(0)}, {param(1), meta(1)}}
}

func checkSub(t *testing.T, x api.Term, params, metas []api.Level, want api.Term) {
	t.Helper()
	if got, e := Sub(x, params, metas); !term.Same(got, want) || e != api.OK {
		t.Errorf("Sub(%v, %v, %v) = %v, %d; want %v", x, params, metas, got, e, want)
	}
}

func checkRefused(t *testing.T, x api.Term, params, metas []api.Level, want api.Errno) {
	t.Helper()
	if got, e := Sub(x, params, metas); !term.Same(got, api.Term{}) || e != want {
		t.Errorf("Sub(%v, %v, %v) = %v, %d; want %d alone", x, params, metas, got, e, want)
	}
}

func checkNumbers(t *testing.T, x api.Term, metas, consts []int) {
	t.Helper()
	if got := Metas(x); !slices.Equal(got, metas) {
		t.Errorf("Metas(%v) = %v; want %v", x, got, metas)
	}
	if got := Consts(x); !slices.Equal(got, consts) {
		t.Errorf("Consts(%v) = %v; want %v", x, got, consts)
	}
}

func TestQ1Replaces(t *testing.T) {
	a, b := up(2, param(4)), node(api.Imax, meta(9), zero())
	ps, ms := []api.Level{a, b}, []api.Level{b, zero(), a}
	checkSub(t, sort(param(0)), ps, ms, sort(a))
	checkSub(t, sort(param(1)), ps, ms, sort(b))
	checkSub(t, sort(param(2)), ps, ms, sort(param(2)))
	checkSub(t, sort(meta(0)), ps, ms, sort(b))
	checkSub(t, sort(meta(2)), ps, ms, sort(a))
	checkSub(t, sort(meta(3)), ps, ms, sort(meta(3)))
	checkSub(t, sort(node(api.Max, up(1, param(0)), meta(1))), ps, ms, sort(node(api.Max, up(1, a), zero())))
	checkSub(t, con(19, param(1), meta(2), zero(), param(3), param(0)), ps, ms, con(19, b, a, zero(), param(3), a))
	checkSub(t, con(7), ps, ms, con(7))
	checkSub(t, v(999), ps, ms, v(999))
	checkSub(t, lam(sort(param(0)), v(0)), ps, ms, lam(sort(a), v(0)))
	checkSub(t, pi(con(2, meta(0)), pi(v(0), sort(param(1)))), ps, ms, pi(con(2, b), pi(v(0), sort(b))))
	checkSub(t, let(sort(param(0)), con(1, meta(1)), app(v(0), sort(meta(2)))), ps, ms, let(sort(a), con(1, zero()), app(v(0), sort(a))))
	checkSub(t, api.Term{Kind: api.Var, Kids: []api.Term{}, Levels: []api.Level{}}, ps, ms, v(0))
}

// What is put in is not gone through again, and the two lists are put in at once.
func TestQ1InsertedStays(t *testing.T) {
	x := app(sort(param(0)), con(1, param(1), meta(0), meta(1)))
	checkSub(t, x, []api.Level{param(1), param(0)}, nil, app(sort(param(1)), con(1, param(0), meta(0), meta(1))))
	checkSub(t, x, nil, []api.Level{meta(1), meta(0)}, app(sort(param(0)), con(1, param(1), meta(1), meta(0))))
	checkSub(t, x, []api.Level{meta(0)}, []api.Level{param(0)}, app(sort(meta(0)), con(1, param(1), param(0), meta(1))))
	checkSub(t, x, []api.Level{up(1, param(0))}, nil, app(sort(up(1, param(0))), con(1, param(1), meta(0), meta(1))))
}

// A level is replaced in each place of each kind, however deep.
func TestQ1Places(t *testing.T) {
	for _, p := range places() {
		for place := range p[1] {
			for deep := range 30 {
				x, want := nested(deep, p[0], p[1], place, con(1, zero(), param(0))), nested(deep, p[0], p[1], place, con(1, zero(), meta(5)))
				checkSub(t, x, []api.Level{meta(5)}, nil, want)
				checkSub(t, x, nil, []api.Level{meta(5)}, x)
			}
		}
	}
	checkSub(t, sized(599, sort(param(0))), []api.Level{meta(5)}, nil, sized(599, sort(meta(5))))
}

// Each number of a parameter and of an unknown, for each number of levels that are put in.
func TestQ1Counts(t *testing.T) {
	for count := range 11 {
		var list []api.Level
		for n := range count {
			list = append(list, up(n+1, zero()))
		}
		for n := range 10 {
			want := meta(n)
			if n < count {
				want = list[n]
			}
			checkSub(t, lam(sort(meta(n)), v(0)), nil, list, lam(sort(want), v(0)))
			if n > 4 || count > 5 {
				continue
			}
			want = param(n)
			if n < count {
				want = list[n]
			}
			checkSub(t, con(0, param(n)), list, nil, con(0, want))
		}
	}
}

// wrongTerms is terms that aren't well-formed, each for one reason.
func wrongTerms() []api.Term {
	all := []api.Term{
		{}, of(8), of(-1), of(maxInt), v(-1), v(1000), v(maxInt), v(minInt), con(-1), con(20), con(0, slices.Repeat([]api.Level{zero()}, 6)...),
		sort(), sort(zero(), zero()), sort(param(5)), sort(meta(10)), sort(api.Level{}), sort(up(12, zero())), con(0, zero(), full(6, zero())),
		{Kind: api.Var, Levels: []api.Level{zero()}}, {Kind: api.Var, Kids: []api.Term{v(0)}}, {Kind: api.Sort, Levels: []api.Level{zero()}, N: 1},
		{Kind: api.Const, Kids: []api.Term{v(0)}}, {Kind: api.App, N: 1, Kids: []api.Term{v(0), v(0)}},
		{Kind: api.Let, Levels: []api.Level{zero()}, Kids: []api.Term{v(0), v(0), v(0)}},
		of(api.App), of(api.App, v(0)), of(api.Lam, v(0)), of(api.Pi, v(0), v(0), v(0)), of(api.Let, v(0), v(0)),
		app(v(0), v(1000)), lam(v(1000), v(0)), lam(v(0), v(1001)), let(v(0), v(1000), v(0)), let(v(0), v(0), v(1001)), sized(601, v(0)),
	}
	for _, p := range places() {
		for place := range p[1] {
			all = append(all, nested(30, p[0], p[1], place, v(0)), within(p[0], p[1], place, api.Term{}))
		}
	}
	return all
}

// wrongLevels is levels that aren't valid, each for one reason.
func wrongLevels() []api.Level {
	return []api.Level{
		{}, leaf(-1, 0), leaf(7, 0), leaf(minInt, 0), leaf(maxInt, 0), leaf(api.Zero, 1), {Kind: api.Succ, N: 1, Kids: []api.Level{zero()}},
		param(-1), param(5), param(minInt), param(maxInt), meta(-1), meta(10), meta(minInt), meta(maxInt),
		node(api.Zero, zero()), node(api.Param, zero()), node(api.Meta, zero()), node(api.Succ), node(api.Succ, zero(), zero()),
		node(api.Max, zero()), node(api.Imax, zero(), zero(), zero()), node(api.Max, zero(), param(5)), up(12, zero()), full(6, zero()),
	}
}

// The greatest that is well-formed passes.
func TestQ1Edges(t *testing.T) {
	ls := []api.Level{up(11, zero()), full(5, param(4)), param(4), meta(9), zero()}
	for _, x := range []api.Term{v(999), con(19, ls...), lam(v(999), v(1000)), let(v(999), v(999), v(1000)), sized(599, con(0, ls...)),
		nested(29, api.Pi, 2, 1, v(1028)), nested(29, api.App, 2, 0, sort(zero()))} {
		checkSub(t, x, nil, nil, x)
		checkSub(t, x, []api.Level{param(0), param(1), param(2), param(3), param(4)}, []api.Level{meta(0), meta(1), meta(2)}, x)
	}
	x := let(v(0), sized(297, sort(param(0))), sized(301, v(1))) // 600 terms
	checkSub(t, x, nil, nil, x)
	checkRefused(t, lam(x, v(0)), nil, nil, api.ErrArg)
}

func TestQ1RefusesTerms(t *testing.T) {
	for _, x := range wrongTerms() {
		checkRefused(t, x, nil, nil, api.ErrArg)
		checkRefused(t, x, []api.Level{zero(), param(0)}, []api.Level{zero()}, api.ErrArg)
	}
}

// A wrong level is refused in each place of the lists, also where nothing would be replaced by it.
func TestQ1RefusesLevels(t *testing.T) {
	good := node(api.Max, param(4), up(2, meta(9)))
	for _, x := range []api.Term{v(0), con(0), sort(zero()), sort(param(0)), app(v(0), con(1, meta(0)))} {
		for _, wrong := range wrongLevels() {
			for n := range 5 {
				params := slices.Repeat([]api.Level{good}, 5)
				params[n] = wrong
				checkRefused(t, x, params, nil, api.ErrArg)
				checkRefused(t, x, params[:n+1], []api.Level{good}, api.ErrArg)
			}
			for n := range 10 {
				metas := slices.Repeat([]api.Level{good}, 10)
				metas[n] = wrong
				checkRefused(t, x, nil, metas, api.ErrArg)
				checkRefused(t, x, []api.Level{good}, metas[:n+1], api.ErrArg)
			}
		}
	}
	checkSub(t, app(sort(param(0)), sort(meta(0))), slices.Repeat([]api.Level{good}, 5), slices.Repeat([]api.Level{good}, 10), app(sort(good), sort(good)))
}

func TestQ1RefusesCounts(t *testing.T) {
	zeros := func(count int) []api.Level { return slices.Repeat([]api.Level{zero()}, count) }
	for _, x := range []api.Term{v(0), sort(zero()), con(4, param(4), meta(9))} {
		for count := range 20 {
			for _, other := range []int{0, 5} {
				if _, e := Sub(x, zeros(count), zeros(other)); (e == api.OK) != (count <= 5) {
					t.Errorf("%d params: %d", count, e)
				}
				if _, e := Sub(x, zeros(other), zeros(count)); (e == api.OK) != (count <= 10) {
					t.Errorf("%d metas: %d", count, e)
				}
			}
		}
		checkRefused(t, x, zeros(6), zeros(10), api.ErrArg)
		checkRefused(t, x, zeros(5), zeros(11), api.ErrArg)
		checkRefused(t, x, zeros(1<<16), nil, api.ErrArg)
		checkRefused(t, x, make([]api.Level, 6), nil, api.ErrArg)
	}
	checkSub(t, con(4, param(4), meta(9)), zeros(5), zeros(10), con(4, zero(), zero()))
	checkSub(t, con(4, param(4), meta(9)), zeros(4), zeros(9), con(4, param(4), meta(9)))
}

// A level becomes too long in each place of each kind, and among others that don't.
func TestQ1Long(t *testing.T) {
	for outer := range 12 {
		for inner := range 12 {
			put := []api.Level{up(inner, zero())}
			for place := range 5 {
				ls := slices.Repeat([]api.Level{zero()}, 5)
				ls[place] = up(outer, param(0))
				want := slices.Repeat([]api.Level{zero()}, 5)
				want[place] = up(outer+inner, zero())
				ms := slices.Repeat([]api.Level{zero()}, 5)
				ms[place] = up(outer, meta(0))
				if outer+inner <= 11 {
					checkSub(t, con(1, ls...), put, nil, con(1, want...))
					checkSub(t, con(1, ms...), nil, put, con(1, want...))
				} else {
					checkRefused(t, con(1, ls...), put, nil, api.ErrLong)
					checkRefused(t, con(1, ms...), nil, put, api.ErrLong)
				}
				checkSub(t, con(1, ls...), nil, put, con(1, ls...))
			}
		}
	}
	long, deep := sort(up(1, param(0))), []api.Level{up(11, zero())}
	for _, p := range places() {
		for place := range p[1] {
			for _, n := range []int{0, 1, 2, 29} {
				checkRefused(t, nested(n, p[0], p[1], place, long), deep, nil, api.ErrLong)
				checkRefused(t, nested(n, p[0], p[1], place, long), deep, deep, api.ErrLong)
			}
		}
	}
	checkRefused(t, app(sort(param(0)), app(long, sort(param(0)))), deep, nil, api.ErrLong)
}

// A level has at most 100 levels in it: here 31 and 32 times what is put in.
func TestQ1LongLevels(t *testing.T) {
	for n := range 5 {
		x, put := let(v(0), sort(full(5, meta(0))), con(1, zero(), full(5, param(0)))), []api.Level{up(n, zero())}
		if full := full(5, put[0]); 31+32*(n+1) <= 100 {
			checkSub(t, x, put, put, let(v(0), sort(full), con(1, zero(), full)))
		} else {
			checkRefused(t, x, put, nil, api.ErrLong)
			checkRefused(t, x, nil, put, api.ErrLong)
		}
	}
}

// What may not be comes before what is too long.
func TestQ1FirstErrorWins(t *testing.T) {
	long, deep := sort(up(11, param(0))), up(11, zero())
	checkRefused(t, long, []api.Level{deep}, nil, api.ErrLong)
	checkRefused(t, long, []api.Level{deep, {}}, nil, api.ErrArg)
	checkRefused(t, long, []api.Level{deep}, []api.Level{{}}, api.ErrArg)
	checkRefused(t, long, slices.Repeat([]api.Level{deep}, 6), nil, api.ErrArg)
	checkRefused(t, long, []api.Level{deep}, slices.Repeat([]api.Level{deep}, 11), api.ErrArg)
	for _, wrong := range wrongTerms() {
		checkRefused(t, app(long, wrong), []api.Level{deep}, nil, api.ErrArg)
	}
}

// spelt writes t, with a rule for each of its levels.
func spelt(t api.Term, rule func(api.Level) string) string {
	s := "(" + strconv.Itoa(t.Kind) + "." + strconv.Itoa(t.N)
	for _, l := range t.Levels {
		s += rule(l)
	}
	for _, kid := range t.Kids {
		s += " " + spelt(kid, rule)
	}
	return s + ")"
}

// speltLevel writes l, with params and metas in their places.
func speltLevel(l api.Level, params, metas []api.Level) string {
	if l.Kind == api.Param && l.N < len(params) {
		return speltLevel(params[l.N], nil, nil)
	}
	if l.Kind == api.Meta && l.N < len(metas) {
		return speltLevel(metas[l.N], nil, nil)
	}
	s := string("?zsmipu"[l.Kind]) + strconv.Itoa(l.N)
	for _, kid := range l.Kids {
		s += speltLevel(kid, params, metas)
	}
	return s + "."
}

func plain(l api.Level) string { return speltLevel(l, nil, nil) }

func checkSpelt(t *testing.T, x api.Term, params, metas []api.Level) {
	t.Helper()
	got, e := Sub(x, params, metas)
	want := spelt(x, func(l api.Level) string { return speltLevel(l, params, metas) })
	if s := spelt(got, plain); e != api.OK || s != want {
		t.Fatalf("Sub(%v, %v, %v) is %s, %d; want %s", x, params, metas, s, e, want)
	}
}

func TestQ1Reference(t *testing.T) {
	for _, x := range someTerms(1) {
		for _, params := range someLists() {
			for _, metas := range someLists() {
				checkSpelt(t, x, params, metas)
			}
		}
	}
	pick := draw()
	for range 3000 {
		checkSpelt(t, drawnTerm(pick, 4, 0), drawnLevels(pick, pick(6)), drawnLevels(pick, pick(11)))
	}
}

// endless is terms that contain themselves, or that take few bytes and yet have more terms than could ever be gone through.
func endless() []api.Term {
	var all []api.Term
	for _, p := range places() {
		kids := make([]api.Term, p[1])
		for i := range kids {
			kids[i] = of(p[0], kids...)
		}
		for i := range kids {
			kids[i].Kids = kids
		}
		wide := v(0)
		for range 1000 {
			wide = of(p[0], slices.Repeat([]api.Term{wide}, p[1])...)
		}
		all = append(all, kids[0], wide)
	}
	levels := make([]api.Level, 2)
	for i := range levels {
		levels[i] = api.Level{Kind: api.Max, Kids: levels}
	}
	return append(all, sort(levels[0]), con(0, zero(), levels[1]))
}

// The terms aren't printed, since that would not end.
func TestQ1SubEnds(t *testing.T) {
	for i, x := range endless() {
		if got, e := Sub(x, nil, nil); !term.Same(got, api.Term{}) || e != api.ErrArg {
			t.Errorf("term %d: %d; want ErrArg alone", i, e)
		}
	}
	levels := make([]api.Level, 1)
	levels[0] = api.Level{Kind: api.Succ, Kids: levels}
	for i, lists := range [][2][]api.Level{{levels}, {nil, levels}} {
		if got, e := Sub(v(0), lists[0], lists[1]); !term.Same(got, api.Term{}) || e != api.ErrArg {
			t.Errorf("list %d: %d; want ErrArg alone", i, e)
		}
	}
}

func TestQ2Example(t *testing.T) {
	checkNumbers(t, pi(sort(meta(0)), sort(meta(1))), []int{0, 1}, nil)
}

func TestQ2Order(t *testing.T) {
	checkNumbers(t, v(0), nil, nil)
	checkNumbers(t, sort(param(3)), nil, nil)
	checkNumbers(t, sort(up(11, meta(9))), []int{9}, nil)
	checkNumbers(t, con(0), nil, []int{0})
	checkNumbers(t, con(19, meta(4), param(2), node(api.Max, meta(7), up(1, meta(0))), meta(4), meta(1)), []int{4, 7, 0, 1}, []int{19})
	checkNumbers(t, app(con(5, meta(2)), con(3, meta(1))), []int{2, 1}, []int{5, 3})
	checkNumbers(t, lam(app(con(5, meta(2)), con(3, meta(1))), con(4, meta(0))), []int{2, 1, 0}, []int{5, 3, 4})
	checkNumbers(t, let(con(9, meta(9)), pi(con(7), sort(meta(3))), app(con(9, meta(3)), con(1, meta(8), meta(9)))), []int{9, 3, 8}, []int{9, 7, 1})
	checkNumbers(t, sized(599, con(7, meta(3), meta(2))), []int{3, 2}, []int{7})
}

// Of a term that isn't well-formed, too: the levels of a term come before those of its kids, and itself as well.
func TestQ2AnyTerm(t *testing.T) {
	checkNumbers(t, api.Term{}, nil, nil)
	checkNumbers(t, con(minInt), nil, []int{minInt})
	checkNumbers(t, app(con(maxInt, meta(maxInt)), con(-1, meta(-1))), []int{maxInt, -1}, []int{maxInt, -1})
	checkNumbers(t, sort(), nil, nil)
	checkNumbers(t, sort(meta(4), meta(3), meta(4), meta(70)), []int{4, 3, 70}, nil)
	for kind := -1; kind <= 9; kind++ {
		kids := []api.Term{con(8, meta(4)), {Kind: kind, N: 6}, con(6, meta(5)), con(3, meta(3))}
		x := api.Term{Kind: kind, N: 7, Levels: []api.Level{meta(5), {}, meta(12)}, Kids: kids}
		if kind == api.Const {
			checkNumbers(t, x, []int{5, 12, 4, 3}, []int{7, 8, 6, 3})
			checkNumbers(t, of(kind, x, con(2)), []int{5, 12, 4, 3}, []int{0, 7, 8, 6, 3, 2})
		} else {
			checkNumbers(t, x, []int{5, 12, 4, 3}, []int{8, 6, 3})
			checkNumbers(t, of(kind, x, con(2)), []int{5, 12, 4, 3}, []int{8, 6, 3, 2})
		}
	}
}

// In a level the unknowns are those of layer 5: what is below a parameter counts, and what is below an unknown doesn't.
func TestQ2Levels(t *testing.T) {
	p, m := api.Level{Kind: api.Param, Kids: []api.Level{meta(1)}}, api.Level{Kind: api.Meta, N: 2, Kids: []api.Level{meta(3)}}
	checkNumbers(t, sort(p), []int{1}, nil)
	checkNumbers(t, sort(m), []int{2}, nil)
	checkNumbers(t, con(1, node(99, m, p)), []int{2, 1}, []int{1})
	for _, l := range wrongLevels() {
		checkNumbers(t, sort(l), lsub.Metas(l), nil)
	}
}

func TestQ2Once(t *testing.T) {
	var kids []api.Term
	var want []int
	for n := range 5000 {
		kids = append(kids, con(n*7%5000, meta(n%13)), sort(meta(n%17)))
		want = append(want, n*7%5000)
	}
	var metas []int
	for n := range 17 {
		metas = append(metas, n)
	}
	checkNumbers(t, of(api.App, append(kids, kids...)...), metas, want)
}

// listed is the unknowns and the Consts of t, as often as they occur.
func listed(t api.Term) (metas, consts []int) {
	if t.Kind == api.Const {
		consts = []int{t.N}
	}
	for _, l := range t.Levels {
		metas = append(metas, lsub.Metas(l)...)
	}
	for _, kid := range t.Kids {
		ms, cs := listed(kid)
		metas, consts = append(metas, ms...), append(consts, cs...)
	}
	return metas, consts
}

// firsts leaves out the numbers that stand further to the left.
func firsts(ns []int) []int {
	var all []int
	for _, n := range ns {
		if !slices.Contains(all, n) {
			all = append(all, n)
		}
	}
	return all
}

func TestQ2Reference(t *testing.T) {
	pick := draw()
	all := someTerms(1)
	for range 3000 {
		all = append(all, drawnTerm(pick, 5, 0))
	}
	for _, x := range all {
		metas, consts := listed(x)
		checkNumbers(t, x, firsts(metas), firsts(consts))
	}
}

// comb nests so many terms in each other, the kid that goes on being the first, the second or the third one of three.
// Each kid, and each of the terms around it, has an unknown and is a Const of the same number: in is these from left to right.
func comb(deep, place int) (t api.Term, in []int) {
	var right []int
	for n := deep - 1; n >= 0; n-- {
		kids := []api.Term{con(4*n, meta(4*n)), con(4*n+1, meta(4*n+1)), con(4*n+2, meta(4*n+2))}
		if n < deep-1 {
			kids[place] = t
		}
		t = api.Term{Kind: api.Const, N: 4*n + 3, Levels: []api.Level{meta(4*n + 3)}, Kids: kids}
	}
	for n := range deep - 1 {
		in = append(in, 4*n+3)
		for i := range place {
			in = append(in, 4*n+i)
		}
		for i := 2; i > place; i-- {
			right = append(right, 4*n+i)
		}
	}
	slices.Reverse(right) // the innermost ones come first
	in = append(in, 4*deep-1, 4*deep-4, 4*deep-3, 4*deep-2)
	return t, append(in, right...)
}

// Depths below, at and beyond the one at which the calls end and the list begins.
func TestQ2Deep(t *testing.T) {
	for _, deep := range []int{1, 2, 10, 28, 29, 30, 31, 32, 33, 60, 1000} {
		for place := range 3 {
			x, want := comb(deep, place)
			checkNumbers(t, x, want, want)
			checkNumbers(t, of(0, x, con(3), x, con(-1)), want, append(slices.Clone(want), -1))
		}
	}
}

// The terms are too deep for a call inside each call: the stack would not suffice. They aren't printed.
func TestQ2VeryDeep(t *testing.T) {
	const deep = 6_000_000
	terms := make([]api.Term, deep+1) // they lie side by side, so that even many of them are made quickly
	for i := range deep {
		terms[i] = api.Term{Kind: api.App, Kids: terms[i+1 : i+2]}
	}
	terms[deep] = con(4, meta(7))
	if ms, cs := Metas(terms[0]), Consts(terms[0]); !slices.Equal(ms, []int{7}) || !slices.Equal(cs, []int{4}) {
		t.Errorf("a chain: %v, %v", ms, cs)
	}
	for place := range 3 {
		x, want := comb(100_000, place)
		if ms, cs := Metas(x), Consts(x); !slices.Equal(ms, want) || !slices.Equal(cs, want) {
			t.Errorf("a comb: %d and %d numbers; want %d", len(ms), len(cs), len(want))
		}
	}
	if _, e := Sub(terms[0], nil, nil); e != api.ErrArg {
		t.Errorf("Sub: %d", e)
	}
}

// The iterators can be stopped at any level or term, and gone through again.
func TestQ2IteratorsCanBeStoppedAndRepeated(t *testing.T) {
	for _, deep := range []int{3, 40} {
		for place := range 3 {
			x, want := comb(deep, place)
			ls, ps := levels(x, api.MaxTall), parts(x)
			for range 2 {
				for stop := range want {
					checkStopped(t, func(add func(n int) bool) {
						for l := range ls {
							if !add(l.N) {
								break
							}
						}
					}, stop, want)
					checkStopped(t, func(add func(n int) bool) {
						for p := range ps {
							if !add(p.N) {
								break
							}
						}
					}, stop, want)
				}
			}
		}
	}
}

// checkStopped lets numbers be added until there is one at the position stop.
func checkStopped(t *testing.T, run func(add func(n int) bool), stop int, want []int) {
	t.Helper()
	var got []int
	run(func(n int) bool {
		got = append(got, n)
		return len(got) <= stop
	})
	if !slices.Equal(got, want[:stop+1]) {
		t.Errorf("stopped at %d: %v; want %v", stop, got, want[:stop+1])
	}
}

func mustSub(t *testing.T, x api.Term, params, metas []api.Level) api.Term {
	t.Helper()
	got, e := Sub(x, params, metas)
	if e != api.OK {
		t.Fatalf("Sub(%v, %v, %v): %d", x, params, metas, e)
	}
	return got
}

// after is ls with others put in, and then those of the others that ls has no place for.
func after(t *testing.T, ls, params, metas, others []api.Level) []api.Level {
	t.Helper()
	var all []api.Level
	for _, l := range ls {
		other, e := lsub.Sub(l, params, metas)
		if e != api.OK {
			t.Fatalf("Sub(%v, %v, %v): %d", l, params, metas, e)
		}
		all = append(all, other)
	}
	return append(all, others[min(len(ls), len(others)):]...)
}

// Two substitutions one after the other are one of the substituted levels.
func TestQ3Twice(t *testing.T) {
	pick := draw()
	lists := someLists()
	list := func() []api.Level { return lists[pick(len(lists))] }
	for _, x := range someTerms(1) {
		for range 20 {
			ps, ms, qs, ns := list(), list(), list(), list()
			twice := mustSub(t, mustSub(t, x, ps, ms), qs, ns)
			checkSub(t, x, after(t, ps, qs, ns, qs), after(t, ms, qs, ns, ns), twice)
		}
	}
}

// Sub may come before or after Open.
func TestQ3Open(t *testing.T) {
	pick := draw()
	lists := someLists()
	for range 3000 {
		x, u := drawnTerm(pick, 3, 0), drawnTerm(pick, 2, 0)
		ps, ms := lists[pick(len(lists))], lists[pick(len(lists))]
		opened, e := term.Open(x, u)
		if e != api.OK {
			continue
		}
		want, e := term.Open(mustSub(t, x, ps, ms), mustSub(t, u, ps, ms))
		if e != api.OK {
			t.Fatalf("Open: %d", e)
		}
		checkSub(t, opened, ps, ms, want)
		if term.Free(opened) != term.Free(want) {
			t.Errorf("Free is %d, and %d", term.Free(opened), term.Free(want))
		}
	}
}

// Neither the arguments nor the memory beyond their lengths change.
func TestArgumentsStay(t *testing.T) {
	levels := func() []api.Level {
		return []api.Level{up(2, param(0)), meta(1), param(77), node(api.Imax, meta(0), zero())}
	}
	terms := func() []api.Term {
		return []api.Term{con(1, levels()[:2]...), sort(levels()[3]), v(77), con(9, levels()...)}
	}
	params, metas, inner, kids := levels(), levels(), levels(), terms()
	kids[0].Levels = inner[:2]
	x := api.Term{Kind: api.Lam, Kids: kids[:2]}
	for _, count := range []int{0, 1, 2} {
		Sub(x, params[:count], metas[:count])
		Sub(x, params[:count], metas[:4])
		Metas(of(0, x, x, kids[3]))
		Consts(of(0, x, kids[3], x))
	}
	for _, ls := range [][]api.Level{params, metas, inner} {
		if !slices.EqualFunc(ls, levels(), level.Same) {
			t.Errorf("changed: %v", ls)
		}
	}
	if !slices.EqualFunc(kids, terms(), term.Same) {
		t.Errorf("changed: %v", kids)
	}
}

// spoilLevels writes into all lists of levels, and beyond their length as far as their memory goes.
func spoilLevels(ls []api.Level) {
	for i := range ls {
		spoilLevels(ls[i].Kids)
	}
	for i := range ls[:cap(ls)] {
		ls[:cap(ls)][i] = leaf(99, 99)
	}
}

func spoil(t api.Term) {
	spoilLevels(t.Levels)
	for _, kid := range t.Kids {
		spoil(kid)
	}
	for i := range t.Kids[:cap(t.Kids)] {
		t.Kids[:cap(t.Kids)][i] = v(99)
	}
}

func TestSubGivesNewMemory(t *testing.T) {
	build := func() []api.Level { return []api.Level{up(2, param(0)), node(api.Imax, meta(1), up(1, zero()))} }
	part := con(1, param(0), up(1, meta(1)), up(2, param(3)))
	x := let(part, app(part, v(1)), lam(sort(param(0)), part))
	before := spelt(x, plain)
	params, metas := build(), build()
	want := spelt(x, func(l api.Level) string { return speltLevel(l, build(), build()) })
	first, second := mustSub(t, x, params, metas), mustSub(t, x, params, metas)
	kept := spelt(second.Kids[1], plain) + spelt(second.Kids[2], plain)
	spoil(second.Kids[0]) // the same part stands in three places
	if got := spelt(second.Kids[1], plain) + spelt(second.Kids[2], plain); got != kept {
		t.Errorf("two lists of one result share memory: %s", got)
	}
	spoil(second)
	if got := spelt(first, plain); got != want {
		t.Errorf("two results share memory: %s", got)
	}
	spoil(first)
	if got := spelt(x, plain); got != before || !slices.EqualFunc(params, build(), level.Same) || !slices.EqualFunc(metas, build(), level.Same) {
		t.Errorf("a result and an argument share memory: %s", got)
	}
}
