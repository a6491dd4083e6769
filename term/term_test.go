package term

import (
	"slices"
	"strconv"
	"testing"

	"stereobate/api"
	"stereobate/level"
)

const (
	minInt = -1 << 63
	maxInt = 1<<63 - 1
)

func leaf(kind, n int) api.Level { return api.Level{Kind: kind, N: n} }

func param(n int) api.Level { return leaf(api.Param, n) }

func meta(n int) api.Level { return leaf(api.Meta, n) }

func zero() api.Level { return leaf(api.Zero, 0) }

func node(kind int, kids ...api.Level) api.Level { return api.Level{Kind: kind, Kids: kids} }

// up puts n Succs around l.
func up(n int, l api.Level) api.Level {
	for range n {
		l = node(api.Succ, l)
	}
	return l
}

// full is a tree of Max and Imax over l with 2^height times l and 2^height - 1 other levels.
func full(height int, l api.Level) api.Level {
	if height == 0 {
		return l
	}
	return node(api.Max+height%2, full(height-1, l), full(height-1, l))
}

func v(n int) api.Term { return api.Term{Kind: api.Var, N: n} }

func sort(l ...api.Level) api.Term { return api.Term{Kind: api.Sort, Levels: l} }

// point is a term without variables.
func point() api.Term { return sort(zero()) }

func con(n int, ls ...api.Level) api.Term { return api.Term{Kind: api.Const, N: n, Levels: ls} }

func of(kind int, kids ...api.Term) api.Term { return api.Term{Kind: kind, Kids: kids} }

func app(a, b api.Term) api.Term { return of(api.App, a, b) }

func lam(a, b api.Term) api.Term { return of(api.Lam, a, b) }

func pi(a, b api.Term) api.Term { return of(api.Pi, a, b) }

func let(a, b, c api.Term) api.Term { return of(api.Let, a, b, c) }

// places is all kinds that have kids, with how many there are, and whether the last one is below a binder.
func places() []struct {
	kind, kids int
	binds      bool
} {
	return []struct {
		kind, kids int
		binds      bool
	}{{api.App, 2, false}, {api.Lam, 2, true}, {api.Pi, 2, true}, {api.Let, 3, true}}
}

// within puts t into a term of the kind, in a place, beside terms without variables.
func within(kind, kids, place int, t api.Term) api.Term {
	all := slices.Repeat([]api.Term{point()}, kids)
	all[place] = t
	return of(kind, all...)
}

// nested puts n terms around t, of one kind, always in the same place.
func nested(n, kind, kids, place int, t api.Term) api.Term {
	for range n {
		t = within(kind, kids, place, t)
	}
	return t
}

// tree is a full tree of App over t with 2^height times t and 2^height - 1 other terms.
func tree(height int, t api.Term) api.Term {
	if height == 0 {
		return t
	}
	below := tree(height-1, t)
	return app(below, below)
}

// sized is a term of so many terms, which must be odd, with t at all its ends.
func sized(count int, t api.Term) api.Term {
	if count == 1 {
		return t
	}
	first := (count - 1) / 2
	if first%2 == 0 {
		first--
	}
	return app(sized(first, t), sized(count-1-first, t))
}

func size(t api.Term) int {
	n := 1
	for _, kid := range t.Kids {
		n += size(kid)
	}
	return n
}

// draw returns a function whose numbers are less than its argument, and hang on its earlier calls alone.
func draw() func(count int) int {
	n := 1
	return func(count int) int {
		n = n*48271%(1<<31-1) + 1
		return n / 7 % count
	}
}

// drawnTerm is a term of at most so much height, below so many binders, with the free variables 0 to 3.
func drawnTerm(pick func(int) int, height, binders int) api.Term {
	kind := 1 + pick(7)
	if height == 0 {
		kind = 1 + pick(3)
	}
	sub := func(binders int) api.Term { return drawnTerm(pick, height-1, binders) }
	switch kind {
	case api.Var:
		return v(pick(binders + 4))
	case api.Sort:
		return sort(up(pick(2), param(pick(5))))
	case api.Const:
		return con(pick(20), []api.Level{param(1), meta(9)}[:pick(3)]...)
	case api.App:
		return app(sub(binders), sub(binders))
	case api.Let:
		return let(sub(binders), sub(binders), sub(binders+1))
	}
	return of(kind, sub(binders), sub(binders+1))
}

func drawnTerms(count, height int) []api.Term {
	pick := draw()
	var all []api.Term
	for range count {
		all = append(all, drawnTerm(pick, height, 0))
	}
	return all
}

// someTerms is all terms of at most so much height over the Vars 0 to 2 and one Const.
func someTerms(height int) []api.Term {
	all := []api.Term{v(0), v(1), v(2), con(3, param(0))}
	if height == 0 {
		return all
	}
	below := someTerms(height - 1)
	for _, a := range below {
		for _, b := range below {
			all = append(all, app(a, b), lam(a, b), pi(a, b))
			for _, c := range below {
				all = append(all, let(a, b, c))
			}
		}
	}
	return all
}

func checkRight(t *testing.T, x api.Term, vars, params, metas int, want bool) {
	t.Helper()
	if got := Right(x, vars, params, metas); got != want {
		t.Errorf("Right(%v, %d, %d, %d) = %v", x, vars, params, metas, got)
	}
}

func checkLift(t *testing.T, x api.Term, from, by int, want api.Term) {
	t.Helper()
	if got, e := Lift(x, from, by); !Same(got, want) || e != api.OK {
		t.Errorf("Lift(%v, %d, %d) = %v, %d; want %v", x, from, by, got, e, want)
	}
}

func checkNoLift(t *testing.T, x api.Term, from, by int, want api.Errno) {
	t.Helper()
	if got, e := Lift(x, from, by); !Same(got, api.Term{}) || e != want {
		t.Errorf("Lift(%v, %d, %d) = %v, %d; want %d alone", x, from, by, got, e, want)
	}
}

func checkOpen(t *testing.T, x, u, want api.Term) {
	t.Helper()
	if got, e := Open(x, u); !Same(got, want) || e != api.OK {
		t.Errorf("Open(%v, %v) = %v, %d; want %v", x, u, got, e, want)
	}
}

func checkNoOpen(t *testing.T, x, u api.Term, want api.Errno) {
	t.Helper()
	if got, e := Open(x, u); !Same(got, api.Term{}) || e != want {
		t.Errorf("Open(%v, %v) = %v, %d; want %d alone", x, u, got, e, want)
	}
}

func checkSame(t *testing.T, a, b api.Term, want bool) {
	t.Helper()
	if Same(a, b) != want || Same(b, a) != want {
		t.Errorf("Same(%v, %v) = %v, %v the other way round; want %v", a, b, Same(a, b), Same(b, a), want)
	}
}

func checkFree(t *testing.T, x api.Term, want int) {
	t.Helper()
	if got := Free(x); got != want {
		t.Errorf("Free(%v) = %d; want %d", x, got, want)
	}
}

func TestN1Counts(t *testing.T) {
	for _, c := range []int{minInt, -1, 0, 1, 5, 6, 10, 11, 999, 1000, 1001, maxInt} {
		checkRight(t, point(), c, 0, 0, c >= 0 && c <= 1000)
		checkRight(t, point(), 0, c, 0, c >= 0 && c <= 5)
		checkRight(t, point(), 0, 0, c, c >= 0 && c <= 10)
		checkRight(t, lam(point(), v(0)), c, 5, 10, c >= 0 && c <= 1000)
		checkRight(t, con(0), 1000, c, 10, c >= 0 && c <= 5)
		checkRight(t, con(0), 1000, 5, c, c >= 0 && c <= 10)
	}
}

// A kind has as many kids and levels as the table says: also one that is within another term.
func TestN1Parts(t *testing.T) {
	most := map[int][3]int{ // kids, the fewest levels, the most levels
		api.Var: {0, 0, 0}, api.Sort: {0, 1, 1}, api.Const: {0, 0, 5}, api.App: {2, 0, 0}, api.Lam: {2, 0, 0}, api.Pi: {2, 0, 0}, api.Let: {3, 0, 0}}
	for _, kind := range []int{minInt, -1, 0, 1, 2, 3, 4, 5, 6, 7, 8, 9, maxInt} {
		parts, exists := most[kind]
		for kids := range 6 {
			for levels := range 8 {
				x := api.Term{Kind: kind, Kids: slices.Repeat([]api.Term{v(0)}, kids), Levels: slices.Repeat([]api.Level{zero()}, levels)}
				want := exists && kids == parts[0] && levels >= parts[1] && levels <= parts[2]
				checkRight(t, x, 1, 0, 0, want)
				for _, p := range places() {
					for place := range p.kids {
						checkRight(t, within(p.kind, p.kids, place, x), 1, 0, 0, want)
						checkRight(t, nested(4, p.kind, p.kids, place, x), 1, 0, 0, want)
					}
				}
			}
		}
	}
	checkRight(t, api.Term{Kind: api.Var, Kids: []api.Term{}, Levels: []api.Level{}}, 1, 0, 0, true)
}

func TestN1Numbers(t *testing.T) {
	for _, n := range []int{minInt, -1, 0, 1, 2, 18, 19, 20, 21, 999, 1000, maxInt} {
		for _, vars := range []int{0, 1, 2, 20, 999, 1000} {
			checkRight(t, v(n), vars, 0, 0, n >= 0 && n < vars)
		}
		checkRight(t, con(n), 0, 0, 0, n >= 0 && n <= 19)
		checkRight(t, con(n, zero(), zero()), 1000, 5, 10, n >= 0 && n <= 19)
		for _, x := range []api.Term{point(), app(v(0), v(0)), lam(v(0), v(1)), pi(v(0), v(0)), let(v(0), v(0), v(1))} {
			x.N = n
			checkRight(t, x, 1000, 5, 10, n == 0)
			checkRight(t, lam(point(), x), 1000, 5, 10, n == 0)
		}
	}
}

// A Var may be as great as the binders allow that it is below, and no other ones.
func TestN1Binders(t *testing.T) {
	for _, p := range places() {
		for place := range p.kids {
			for _, vars := range []int{0, 1, 999, 1000} {
				for deep := range 30 {
					binders := 0
					if p.binds && place == p.kids-1 {
						binders = deep
					}
					for n := vars + binders - 2; n <= vars+binders+2; n++ {
						checkRight(t, nested(deep, p.kind, p.kids, place, v(n)), vars, 0, 0, n >= 0 && n < vars+binders)
					}
				}
			}
		}
	}
	checkRight(t, let(v(1), v(0), v(2)), 2, 0, 0, true)
	checkRight(t, lam(lam(v(0), v(1)), v(1)), 1, 0, 0, true)
	checkRight(t, lam(lam(v(0), v(1)), v(2)), 1, 0, 0, false)
	checkRight(t, app(lam(point(), v(0)), v(0)), 0, 0, 0, false) // the binder of the function is not one of the argument
	checkRight(t, let(lam(point(), v(0)), v(0), v(0)), 0, 0, 0, false)
}

func TestN1Levels(t *testing.T) {
	for count := range 6 {
		for n := -1; n <= 6; n++ {
			checkRight(t, sort(up(2, param(n))), 0, count, 10, n >= 0 && n < count)
			checkRight(t, lam(point(), con(1, zero(), param(n), zero())), 0, count, 0, n >= 0 && n < count)
		}
	}
	for count := range 11 {
		for n := -1; n <= 11; n++ {
			checkRight(t, sort(up(2, meta(n))), 0, 5, count, n >= 0 && n < count)
			checkRight(t, let(con(1, zero(), zero(), zero(), zero(), meta(n)), point(), point()), 0, 0, count, n >= 0 && n < count)
		}
	}
	for _, bad := range []api.Level{{}, leaf(7, 0), leaf(api.Zero, 1), node(api.Succ), node(api.Max, zero()), up(12, zero()), full(6, zero())} {
		checkRight(t, sort(bad), 0, 5, 10, false)
		for place := range 5 {
			ls := slices.Repeat([]api.Level{zero()}, 5)
			ls[place] = bad
			checkRight(t, con(0, ls...), 0, 5, 10, false)
			checkRight(t, con(0, ls[:place]...), 0, 5, 10, true)
		}
	}
	checkRight(t, sort(up(11, zero())), 0, 0, 0, true)
}

func TestN1Tall(t *testing.T) {
	for _, p := range places() {
		for place := range p.kids {
			for deep := range 34 {
				for _, end := range []api.Term{v(0), point(), con(2)} {
					checkRight(t, nested(deep, p.kind, p.kids, place, end), 1, 0, 0, deep <= 29)
				}
			}
		}
	}
	mixed := lam(point(), v(28))
	for i := range 27 {
		mixed = []api.Term{pi(point(), mixed), let(v(0), v(0), mixed), lam(v(0), mixed)}[i%3]
	}
	checkRight(t, mixed, 1, 0, 0, true)
	checkRight(t, app(mixed, v(0)), 1, 0, 0, true)
	checkRight(t, app(app(v(0), mixed), v(0)), 1, 0, 0, false)
}

func TestN1Size(t *testing.T) {
	for _, end := range []api.Term{v(0), point(), con(2, zero(), zero())} {
		for count := 591; count < 611; count += 2 {
			if n := size(sized(count, end)); n != count {
				t.Fatalf("sized(%d) has %d terms", count, n)
			}
			checkRight(t, sized(count, end), 1, 0, 0, count <= 600)
			checkRight(t, let(end, end, sized(count, end)), 1, 0, 0, count+3 <= 600)
			checkRight(t, lam(let(end, end, sized(count, end)), end), 1, 0, 0, count+5 <= 600)
			checkRight(t, let(sized(201, end), sized(count-402, end), sized(201, end)), 1, 0, 0, count+1 <= 600)
		}
	}
	checkRight(t, let(point(), sized(297, v(0)), sized(301, v(1))), 1, 0, 0, true) // 600
	checkRight(t, tree(8, v(0)), 1, 0, 0, true)                                    // 511
	checkRight(t, tree(9, v(0)), 1, 0, 0, false)
	huge := full(5, zero()) // levels do not count
	checkRight(t, sized(599, con(0, huge, huge, huge, huge, huge)), 0, 0, 0, true)
}

// endless is terms that contain themselves, or that take few bytes and yet have more terms than could ever be gone through.
func endless() []api.Term {
	var all []api.Term
	for _, p := range places() {
		for place := range p.kids {
			kids := slices.Repeat([]api.Term{point()}, p.kids)
			kids[place] = of(p.kind, kids...)
			all = append(all, kids[place])
		}
		kids := make([]api.Term, p.kids)
		for i := range kids {
			kids[i] = of(p.kind, kids...)
		}
		wide := point()
		for range 1000 {
			wide = of(p.kind, slices.Repeat([]api.Term{wide}, p.kids)...)
		}
		all = append(all, kids[0], wide, of(p.kind, slices.Repeat([]api.Term{point()}, 1<<12)...))
	}
	levels := make([]api.Level, 2)
	for i := range levels {
		levels[i] = api.Level{Kind: api.Max, Kids: levels}
	}
	return append(all, sort(levels[0]), con(0, zero(), levels[1]), con(0, slices.Repeat([]api.Level{zero()}, 1<<12)...))
}

// The terms aren't printed, since that would not end.
func TestCallsEnd(t *testing.T) {
	for i, x := range endless() {
		if Right(x, 1000, 5, 10) {
			t.Errorf("N1, term %d: right", i)
		}
		if got, e := Lift(x, 0, 1); !Same(got, api.Term{}) || e != api.ErrArg {
			t.Errorf("N2, term %d: %d; want ErrArg alone", i, e)
		}
		if got, e := Open(x, point()); !Same(got, api.Term{}) || e != api.ErrArg {
			t.Errorf("N3, term %d: %d; want ErrArg alone", i, e)
		}
		if got, e := Open(point(), x); !Same(got, api.Term{}) || e != api.ErrArg {
			t.Errorf("N3, term %d put in: %d; want ErrArg alone", i, e)
		}
		if Free(x) != 0 {
			t.Errorf("N4, term %d: Free is %d", i, Free(x))
		}
	}
}

func TestN2Lifts(t *testing.T) {
	for _, from := range []int{0, 1, 2, 5, 998, 999, 1000} {
		for _, by := range []int{0, 1, 3, 500} {
			for n := range 8 {
				want := v(n)
				if n >= from {
					want = v(n + by)
				}
				checkLift(t, v(n), from, by, want)
			}
		}
	}
	checkLift(t, point(), 0, 1000, point())
	checkLift(t, con(19, param(4), meta(9)), 0, 1000, con(19, param(4), meta(9)))
	checkLift(t, app(v(0), v(1)), 1, 2, app(v(0), v(3)))
	checkLift(t, lam(v(0), app(v(0), v(1))), 0, 2, lam(v(2), app(v(0), v(3))))
	checkLift(t, lam(v(1), app(v(1), v(2))), 1, 2, lam(v(3), app(v(1), v(4))))
	checkLift(t, pi(v(0), pi(v(1), app(v(1), v(2)))), 0, 7, pi(v(7), pi(v(8), app(v(1), v(9)))))
	checkLift(t, let(v(0), v(1), let(v(1), v(2), app(v(2), v(3)))), 1, 1, let(v(0), v(2), let(v(1), v(3), app(v(2), v(4)))))
	checkLift(t, api.Term{Kind: api.Var, Kids: []api.Term{}, Levels: []api.Level{}}, 0, 1, v(1))
}

// The count of binders is that of the Var, not that of what was gone through.
func TestN2Binders(t *testing.T) {
	for _, p := range places() {
		for place := range p.kids {
			for deep := range 30 {
				binders := 0
				if p.binds && place == p.kids-1 {
					binders = deep
				}
				for n := range 40 {
					want := n
					if n >= binders+3 {
						want = n + 4
					}
					checkLift(t, nested(deep, p.kind, p.kids, place, v(n)), 3, 4, nested(deep, p.kind, p.kids, place, v(want)))
				}
			}
		}
	}
	checkLift(t, app(lam(point(), v(0)), v(0)), 0, 1, app(lam(point(), v(0)), v(1)))
	checkLift(t, let(lam(point(), v(0)), v(0), v(0)), 0, 1, let(lam(point(), v(0)), v(1), v(0)))
}

func TestN2Refuses(t *testing.T) {
	for _, n := range []int{minInt, -1, 1001, maxInt} {
		checkNoLift(t, point(), n, 0, api.ErrArg)
		checkNoLift(t, point(), 0, n, api.ErrArg)
		checkNoLift(t, v(999), n, 1, api.ErrArg)
		checkNoLift(t, v(999), 0, n, api.ErrArg)
		checkNoLift(t, v(n), 0, 0, api.ErrArg)
	}
	for _, wrong := range wrongTerms() {
		checkNoLift(t, wrong, 0, 0, api.ErrArg)
		checkNoLift(t, wrong, 1000, 1000, api.ErrArg)
	}
	checkLift(t, v(999), 1000, 1000, v(999))
	checkLift(t, lam(v(999), v(1000)), 1000, 1000, lam(v(999), v(1000)))
	checkLift(t, sized(599, v(0)), 0, 999, sized(599, v(999)))
	tall := nested(29, api.Pi, 2, 1, v(1028))
	checkLift(t, tall, 0, 0, tall)
	checkLift(t, nested(29, api.Pi, 2, 1, v(1027)), 0, 1, tall)
}

// wrongTerms is terms that aren't well-formed, each for one reason.
func wrongTerms() []api.Term {
	all := []api.Term{
		{}, of(8), of(-1), of(maxInt), v(-1), v(1000), v(maxInt), v(minInt), con(-1), con(20), con(0, slices.Repeat([]api.Level{zero()}, 6)...),
		sort(), sort(zero(), zero()), sort(param(5)), sort(meta(10)), sort(api.Level{}), sort(up(12, zero())), con(0, zero(), full(6, zero())),
		{Kind: api.Var, Levels: []api.Level{zero()}}, {Kind: api.Var, Kids: []api.Term{point()}}, {Kind: api.Sort, Levels: []api.Level{zero()}, N: 1},
		{Kind: api.Const, Kids: []api.Term{point()}}, {Kind: api.Sort, Levels: []api.Level{zero()}, Kids: []api.Term{point()}},
		{Kind: api.App, N: 1, Kids: []api.Term{point(), point()}}, {Kind: api.Let, Levels: []api.Level{zero()}, Kids: []api.Term{point(), point(), point()}},
		of(api.App), of(api.App, point()), of(api.Lam, point()), of(api.Pi, point(), point(), point()), of(api.Let, point(), point()),
		app(v(0), v(1000)), lam(v(1000), v(0)), lam(v(0), v(1001)), let(v(0), v(1000), v(0)), let(v(0), v(0), v(1001)),
		sized(601, v(0)), sized(601, point()), tree(9, v(0)),
	}
	for _, p := range places() {
		for place := range p.kids {
			all = append(all, nested(30, p.kind, p.kids, place, point()), within(p.kind, p.kids, place, api.Term{}))
		}
	}
	return all
}

// A free variable stays below 1000: the binders that it is below don't count.
func TestN2Long(t *testing.T) {
	for _, deep := range []int{0, 1, 2, 29} {
		for _, n := range []int{0, 1, 500, 998, 999} {
			for _, by := range []int{0, 1, 2, 499, 500, 998, 999, 1000} {
				x := nested(deep, api.Lam, 2, 1, v(deep+n))
				if n+by <= 999 {
					checkLift(t, x, 0, by, nested(deep, api.Lam, 2, 1, v(deep+n+by)))
				} else {
					checkNoLift(t, x, 0, by, api.ErrLong)
				}
				checkLift(t, x, n+1, by, x)
			}
		}
	}
	checkNoLift(t, let(v(0), v(999), v(0)), 0, 1, api.ErrLong)
	checkNoLift(t, app(v(0), v(0)), 0, 1000, api.ErrLong)
	checkNoLift(t, pi(v(999), v(0)), 999, 1, api.ErrLong)
	checkLift(t, pi(point(), v(0)), 0, 1000, pi(point(), v(0)))
}

func TestN3Example(t *testing.T) {
	checkOpen(t, lam(v(0), v(1)), point(), lam(point(), point()))
}

func TestN3Opens(t *testing.T) {
	two := pi(v(3), app(v(0), v(1)))
	checkOpen(t, v(0), two, two)
	checkOpen(t, point(), two, point())
	checkOpen(t, con(19, param(4), meta(9)), two, con(19, param(4), meta(9)))
	for _, n := range []int{1, 2, 3, 500, 999} {
		checkOpen(t, v(n), two, v(n-1))
		checkOpen(t, v(n), v(0), v(n-1))
		checkOpen(t, v(0), v(n), v(n))
	}
	checkOpen(t, app(v(0), v(1)), v(7), app(v(7), v(0)))
	checkOpen(t, lam(v(0), v(0)), v(7), lam(v(7), v(0)))
	checkOpen(t, lam(v(1), app(v(0), app(v(1), v(2)))), v(7), lam(v(0), app(v(0), app(v(8), v(1)))))
	checkOpen(t, pi(v(0), pi(v(1), v(2))), two, pi(two, pi(pi(v(4), app(v(0), v(2))), pi(v(5), app(v(0), v(3))))))
	checkOpen(t, let(v(0), v(1), app(v(0), app(v(1), v(2)))), v(0), let(v(0), v(0), app(v(0), app(v(1), v(1)))))
	checkOpen(t, let(v(2), v(0), v(1)), lam(v(5), v(0)), let(v(1), lam(v(5), v(0)), lam(v(6), v(0))))
	checkOpen(t, api.Term{Kind: api.Var, Kids: []api.Term{}, Levels: []api.Level{}}, point(), point())
}

func TestN3Binders(t *testing.T) {
	for _, p := range places() {
		for place := range p.kids {
			for deep := range 30 {
				binders := 0
				if p.binds && place == p.kids-1 {
					binders = deep
				}
				for n := range 40 {
					want := n
					if n == binders {
						want = n + 9
					}
					if n > binders {
						want = n - 1
					}
					checkOpen(t, nested(deep, p.kind, p.kids, place, v(n)), v(9), nested(deep, p.kind, p.kids, place, v(want)))
				}
			}
		}
	}
	checkOpen(t, app(lam(point(), v(0)), v(0)), v(9), app(lam(point(), v(0)), v(9)))
	checkOpen(t, let(lam(point(), v(0)), v(0), v(0)), v(9), let(lam(point(), v(0)), v(9), v(0)))
}

// What is put in below a binder may have greater Vars there than it may have by itself.
func TestN3LiftedBeyond(t *testing.T) {
	checkOpen(t, lam(point(), v(1)), v(999), lam(point(), v(1000)))
	checkOpen(t, lam(point(), v(1)), lam(v(999), v(1000)), lam(point(), lam(v(1000), v(1001))))
	for deep := range 30 {
		checkOpen(t, nested(deep, api.Let, 3, 2, v(deep)), v(999), nested(deep, api.Let, 3, 2, v(deep+999)))
		checkOpen(t, nested(deep, api.Pi, 2, 1, v(deep+999)), v(999), nested(deep, api.Pi, 2, 1, v(deep+998)))
	}
}

func TestN3Refuses(t *testing.T) {
	for _, wrong := range wrongTerms() {
		checkNoOpen(t, wrong, point(), api.ErrArg)
		checkNoOpen(t, point(), wrong, api.ErrArg) // though it would not be put in
		checkNoOpen(t, v(0), wrong, api.ErrArg)
		checkNoOpen(t, wrong, wrong, api.ErrArg)
		checkNoOpen(t, app(v(0), v(0)), wrong, api.ErrArg)
	}
}

func TestN3Tall(t *testing.T) {
	for outer := range 30 {
		for inner := range 30 {
			for i, p := range places() {
				q := places()[(i+inner)%4]
				x, u := nested(outer, p.kind, p.kids, 0, v(0)), nested(inner, q.kind, q.kids, q.kids-1, point())
				if outer+inner <= 29 {
					checkOpen(t, x, u, nested(outer, p.kind, p.kids, 0, u))
				} else {
					checkNoOpen(t, x, u, api.ErrLong)
				}
				checkOpen(t, nested(outer, p.kind, p.kids, 0, v(1)), u, nested(outer, p.kind, p.kids, 0, v(0)))
			}
		}
	}
	checkNoOpen(t, let(point(), v(0), point()), nested(29, api.App, 2, 1, point()), api.ErrLong)
}

func TestN3Size(t *testing.T) {
	for _, ends := range []int{1, 2, 3, 4, 5, 7, 27, 28, 29, 30, 43, 99, 100, 101, 149, 150, 151, 199, 300} { // and ends - 1 other terms
		x := sized(2*ends-1, v(0))
		for _, count := range []int{1, 3, 5, 13, 19, 21, 85, 119, 149, 151, 199, 201, 299, 301, 597, 599} {
			result := ends - 1 + ends*count
			if result <= 599 {
				checkOpen(t, x, sized(count, v(2)), replacedEnds(x, sized(count, v(2))))
			} else {
				checkNoOpen(t, x, sized(count, v(2)), api.ErrLong)
			}
		}
	}
	checkOpen(t, let(point(), v(0), sized(301, v(2))), sized(297, v(0)), let(point(), sized(297, v(0)), sized(301, v(1)))) // 600
	checkNoOpen(t, let(point(), v(0), sized(301, v(2))), sized(299, v(0)), api.ErrLong)                                    // 602
	checkNoOpen(t, lam(v(0), app(v(1), v(1))), sized(201, point()), api.ErrLong)                                           // 605
	checkOpen(t, sized(599, v(1)), sized(599, v(0)), sized(599, v(0)))
	checkOpen(t, point(), sized(599, v(0)), point())
}

func replacedEnds(x, u api.Term) api.Term {
	if len(x.Kids) == 0 {
		return u
	}
	return app(replacedEnds(x.Kids[0], u), replacedEnds(x.Kids[1], u))
}

// As much as can be put in, with the greatest levels: if those were copied, they would be tens of millions.
func TestN3GreatLevels(t *testing.T) {
	l := full(5, zero())
	u := sized(599, con(1, l, l, l, l, l))
	for range 5 {
		checkShort(t, sized(599, v(0)), u)
	}
}

// checkShort doesn't print the terms, since they are great.
func checkShort(t *testing.T, x, u api.Term) {
	t.Helper()
	if got, e := Open(x, u); !Same(got, api.Term{}) || e != api.ErrLong {
		t.Errorf("%d; want ErrLong alone", e)
	}
}

// spelt writes t with a name for each variable: those of the binders tell how many there are around them.
// What a free variable is called can depend on that, too.
func spelt(t api.Term, bound []string, binders int, free func(n, binders int) string) string {
	if t.Kind == api.Var {
		if t.N < len(bound) {
			return bound[len(bound)-1-t.N]
		}
		return free(t.N-len(bound), binders)
	}
	s := "(" + strconv.Itoa(t.Kind) + "." + strconv.Itoa(t.N)
	for _, l := range t.Levels {
		s += speltLevel(l)
	}
	for i, kid := range t.Kids {
		if i > 0 && i == len(t.Kids)-1 && t.Kind != api.App {
			name := "b" + strconv.Itoa(binders)
			s += " " + spelt(kid, append(slices.Clone(bound), name), binders+1, free)
		} else {
			s += " " + spelt(kid, bound, binders, free)
		}
	}
	return s + ")"
}

func speltLevel(l api.Level) string {
	s := string("?zsmipu"[l.Kind]) + strconv.Itoa(l.N)
	for _, kid := range l.Kids {
		s += speltLevel(kid)
	}
	return s + "."
}

func named(n, _ int) string { return "f" + strconv.Itoa(n) }

// openedNames calls the free variable 0 what u is, and the others what they are when that one is gone.
func openedNames(u api.Term) func(n, binders int) string {
	return func(n, binders int) string {
		if n == 0 {
			return spelt(u, nil, binders, named)
		}
		return named(n-1, binders)
	}
}

func checkLiftNames(t *testing.T, x api.Term, from, by int) {
	t.Helper()
	got, e := Lift(x, from, by)
	want := spelt(x, nil, 0, func(n, binders int) string {
		if n >= from {
			return named(n+by, binders)
		}
		return named(n, binders)
	})
	if s := spelt(got, nil, 0, named); e != api.OK || s != want {
		t.Fatalf("Lift(%v, %d, %d) is %s, %d; want %s", x, from, by, s, e, want)
	}
}

func checkOpenNames(t *testing.T, x, u api.Term) {
	t.Helper()
	got, e := Open(x, u)
	if s, want := spelt(got, nil, 0, named), spelt(x, nil, 0, openedNames(u)); e != api.OK || s != want {
		t.Fatalf("Open(%v, %v) is %s, %d; want %s", x, u, s, e, want)
	}
}

func TestN2Reference(t *testing.T) {
	for _, x := range append(someTerms(1), drawnTerms(2000, 4)...) {
		for from := range 5 {
			for _, by := range []int{0, 1, 2, 17} {
				checkLiftNames(t, x, from, by)
			}
		}
	}
}

func TestN3Reference(t *testing.T) {
	small := someTerms(1)
	for _, x := range small {
		for _, u := range small {
			checkOpenNames(t, x, u)
		}
	}
	xs, us := drawnTerms(3000, 4), drawnTerms(2999, 2)
	for i, x := range xs {
		checkOpenNames(t, x, us[i%len(us)])
		checkOpenNames(t, x, small[i%len(small)])
	}
}

func TestN4Same(t *testing.T) {
	all := append(someTerms(1), wrongTerms()...)
	all = append(all, con(3), con(2, param(0)), con(3, param(1)), con(3, param(0), zero()), con(3, zero(), param(0)), sort(param(0)), point(), sort(meta(0)),
		of(0, of(0), of(0)), of(0, of(0, of(0))), of(0, of(0, of(0)), of(0)), nested(40, api.App, 2, 0, point()), nested(41, api.App, 2, 0, point()))
	for i, a := range all {
		for j, b := range all {
			if Same(a, copied(b)) != (i == j) {
				t.Errorf("Same(%v, %v) = %v", a, b, i != j)
			}
		}
	}
}

func TestN4SameEdges(t *testing.T) {
	checkSame(t, app(v(0), v(1)), app(v(1), v(0)), false)
	checkSame(t, lam(v(0), v(1)), pi(v(0), v(1)), false)
	checkSame(t, app(app(v(0), v(1)), v(0)), app(v(0), app(v(1), v(0))), false)
	checkSame(t, of(9, of(9, v(0)), v(1)), of(9, of(9), v(0), v(1)), false)
	checkSame(t, of(9, of(9, v(0), v(1)), of(9)), of(9, of(9), of(9, v(0), v(1))), false)
	checkSame(t, con(1, param(0), param(1)), con(1, param(1), param(0)), false)
	checkSame(t, sort(node(api.Max, param(0), zero())), sort(node(api.Max, zero(), param(0))), false) // as great, and yet not the same
	checkSame(t, lam(point(), v(0)), lam(point(), sort(up(1, zero()))), false)
	checkSame(t, api.Term{Kind: api.Sort, N: 1, Levels: []api.Level{zero()}}, point(), false)
	checkSame(t, api.Term{Kind: api.App, Kids: []api.Term{v(0), v(0)}, Levels: []api.Level{zero()}}, app(v(0), v(0)), false)
	checkSame(t, api.Term{Kind: api.Var, Kids: []api.Term{}, Levels: []api.Level{}}, v(0), true)
	checkSame(t, tree(12, v(0)), tree(12, v(0)), true)
	checkSame(t, of(99, slices.Repeat([]api.Term{v(1)}, 10000)...), of(99, slices.Repeat([]api.Term{v(1)}, 10000)...), true)
}

// The terms are too deep for a call inside each call: the stack would not suffice. They aren't printed.
func TestN4SameVeryDeep(t *testing.T) {
	const deep = 6_000_000
	terms := make([]api.Term, deep+1) // they lie side by side, so that even many of them are made quickly
	for i := range deep {
		terms[i] = api.Term{Kind: api.App, Kids: terms[i+1 : i+2]}
	}
	if !Same(terms[0], terms[0]) || Same(terms[0], terms[1]) || Same(terms[1], terms[0]) {
		t.Error("terms")
	}
	if Free(terms[0]) != 0 || Right(terms[0], 0, 0, 0) {
		t.Error("a deep term is well-formed")
	}
}

func TestN4SameVeryDeepLevels(t *testing.T) {
	const deep = 6_000_000
	levels := make([]api.Level, deep+1)
	for i := range deep {
		levels[i] = api.Level{Kind: api.Succ, Kids: levels[i+1 : i+2]}
	}
	if !Same(sort(levels[0]), sort(levels[0])) || Same(sort(levels[0]), sort(levels[1])) {
		t.Error("levels")
	}
}

func TestN4Free(t *testing.T) {
	for _, n := range []int{0, 1, 2, 500, 999} {
		checkFree(t, v(n), n+1)
		for _, p := range places() {
			for place := range p.kids {
				for deep := range 30 {
					binders := 0
					if p.binds && place == p.kids-1 {
						binders = deep
					}
					checkFree(t, nested(deep, p.kind, p.kids, place, v(n)), max(0, n+1-binders))
				}
			}
		}
	}
	checkFree(t, point(), 0)
	checkFree(t, con(19, param(4)), 0)
	checkFree(t, app(v(3), v(1)), 4)
	checkFree(t, app(v(1), v(3)), 4)
	checkFree(t, lam(v(2), v(3)), 3)
	checkFree(t, lam(v(2), v(4)), 4)
	checkFree(t, let(v(1), v(5), v(2)), 6)
	checkFree(t, let(v(5), v(1), v(2)), 6)
	checkFree(t, let(v(1), v(2), v(9)), 9)
	checkFree(t, pi(point(), app(v(0), lam(v(0), v(1)))), 0)
	checkFree(t, lam(point(), v(1000)), 1000)
	checkFree(t, sized(599, v(7)), 8)
}

// The promise in its own words.
func TestN4FreeIsTheLeast(t *testing.T) {
	for _, x := range append(someTerms(1), drawnTerms(5000, 5)...) {
		want := 0
		for want < 1000 && !Right(x, want, 5, 10) {
			want++
		}
		checkFree(t, x, want)
	}
}

// What Free answers for a wrong term is not promised: it only has to end.
func TestN4FreeOfWrongTerms(t *testing.T) {
	for _, x := range wrongTerms() {
		Free(x)
	}
}

func mustLift(t *testing.T, x api.Term, from, by int) api.Term {
	t.Helper()
	out, e := Lift(x, from, by)
	if e != api.OK {
		t.Fatalf("Lift(%v, %d, %d): %d", x, from, by, e)
	}
	return out
}

func mustOpen(t *testing.T, x, u api.Term) api.Term {
	t.Helper()
	out, e := Open(x, u)
	if e != api.OK {
		t.Fatalf("Open(%v, %v): %d", x, u, e)
	}
	return out
}

func TestN5OpenUndoesLift(t *testing.T) {
	us := append(someTerms(0), sized(599, v(3)), nested(29, api.Lam, 2, 0, v(0)))
	for i, x := range append(someTerms(1), drawnTerms(2000, 4)...) {
		checkOpen(t, mustLift(t, x, 0, 1), us[i%len(us)], x)
	}
}

// The variable 0 may be replaced ahead of the variable 1, or after it, where it lies below a binder.
func TestN5Order(t *testing.T) {
	xs, us := append(someTerms(1), drawnTerms(2000, 3)...), drawnTerms(997, 2)
	for i, x := range xs {
		first, second := us[i%len(us)], us[i*7%len(us)]
		body := mustOpen(t, lam(point(), x), second).Kids[1]
		checkOpen(t, mustOpen(t, x, first), second, mustOpen(t, body, mustOpen(t, first, second)))
	}
}

// great is terms whose lists have memory beyond their length, which holds something wrong.
func great() (kids []api.Term, levels []api.Level) {
	levels = []api.Level{up(2, param(0)), full(2, meta(1)), leaf(99, 99), leaf(98, 98)}
	kids = []api.Term{app(v(0), v(1)), lam(con(3, levels[:2]...), let(v(0), v(1), app(v(2), v(3)))), of(99), of(98)}
	return kids, levels
}

// Neither the arguments nor the memory beyond their lengths change.
func TestArgumentsStay(t *testing.T) {
	kids, levels := great()
	x := api.Term{Kind: api.Pi, Kids: kids[:2]}
	u := api.Term{Kind: api.Const, Levels: levels[:2]}
	for _, pair := range [][2]api.Term{{x, u}, {u, x}, {x, x}, {nested(26, api.App, 2, 0, x), x}} {
		Right(pair[0], 1000, 5, 10)
		Lift(pair[0], 0, 3)
		Lift(pair[0], 1, 1000)
		Open(pair[0], pair[1])
		Same(pair[0], pair[1])
		Free(pair[0])
	}
	wantKids, wantLevels := great()
	if !slices.EqualFunc(kids, wantKids, Same) || !slices.EqualFunc(levels, wantLevels, level.Same) {
		t.Errorf("changed: %v, %v", kids, levels)
	}
}

// spoil writes into every list of x, and beyond its length as far as its memory goes.
func spoil(x api.Term) {
	for _, kid := range x.Kids {
		spoil(kid)
	}
	for _, l := range x.Levels {
		spoilLevel(l)
	}
	for i := range x.Kids[:cap(x.Kids)] {
		x.Kids[:cap(x.Kids)][i] = of(99)
	}
	for i := range x.Levels[:cap(x.Levels)] {
		x.Levels[:cap(x.Levels)][i] = leaf(99, 99)
	}
}

func spoilLevel(l api.Level) {
	for _, kid := range l.Kids {
		spoilLevel(kid)
	}
	for i := range l.Kids[:cap(l.Kids)] {
		l.Kids[:cap(l.Kids)][i] = leaf(99, 99)
	}
}

func TestResultsAreNewMemory(t *testing.T) {
	kids, levels := great()
	x := app(api.Term{Kind: api.Pi, Kids: kids[:2]}, app(v(0), v(0)))
	u := lam(api.Term{Kind: api.Const, Levels: levels[:2]}, v(4))
	want := copied(mustOpen(t, x, u))
	first, second := mustOpen(t, x, u), mustOpen(t, x, u)
	spoil(second.Kids[1].Kids[0]) // the same term stands in two places
	checkSame(t, second.Kids[1].Kids[1], u, true)
	checkSame(t, second.Kids[0], want.Kids[0], true)
	spoil(second)
	checkSame(t, first, want, true)
	spoil(first)
	spoil(mustLift(t, x, 0, 1))
	spoil(mustLift(t, u, 1000, 1)) // nothing is lifted
	spoil(mustOpen(t, v(0), u))
	checkOpen(t, x, u, want)
}
