package reduce

import (
	"slices"
	"testing"

	"stereobate/api"
	"stereobate/level"
	"stereobate/term"
	"stereobate/tsub"
)

const (
	minInt = -1 << 63
	maxInt = 1<<63 - 1
)

func leaf(kind, n int) api.Level { return api.Level{Kind: kind, N: n} }

func param(n int) api.Level { return leaf(api.Param, n) }

func meta(n int) api.Level { return leaf(api.Meta, n) }

func zero() api.Level { return leaf(api.Zero, 0) }

func node(kind int, kids ...api.Level) api.Level { return api.Level{Kind: kind, Kids: kids} }

// up puts n Succs around l.
func up(n int, l api.Level) api.Level {
	for range n {
		l = node(api.Succ, l)
	}
	return l
}

func v(n int) api.Term { return api.Term{Kind: api.Var, N: n} }

func sort(l ...api.Level) api.Term { return api.Term{Kind: api.Sort, Levels: l} }

// point is a term without variables, parameters and unknowns, and which is reduced.
func point() api.Term { return sort(zero()) }

func con(n int, ls ...api.Level) api.Term { return api.Term{Kind: api.Const, N: n, Levels: ls} }

func of(kind int, kids ...api.Term) api.Term { return api.Term{Kind: kind, Kids: kids} }

func app(a, b api.Term) api.Term { return of(api.App, a, b) }

func pi(a, b api.Term) api.Term { return of(api.Pi, a, b) }

func let(value, body api.Term) api.Term { return of(api.Let, point(), value, body) }

// fun is a Lam of body.
func fun(body api.Term) api.Term { return of(api.Lam, point(), body) }

// apps applies f to the arguments, in order.
func apps(f api.Term, args ...api.Term) api.Term {
	for _, a := range args {
		f = app(f, a)
	}
	return f
}

func id() api.Term { return fun(v(0)) }

// loop takes a step to become itself.
func loop() api.Term {
	self := fun(app(v(0), v(0)))
	return app(self, self)
}

// places is all kinds that have kids, with how many there are.
func places() [][2]int {
	return [][2]int{{api.App, 2}, {api.Lam, 2}, {api.Pi, 2}, {api.Let, 3}}
}

// within puts t into a term of the kind, in a place, beside terms without variables.
func within(kind, kids, place int, t api.Term) api.Term {
	all := slices.Repeat([]api.Term{point()}, kids)
	all[place] = t
	return of(kind, all...)
}

// nested puts n terms around t, of one kind, always in the same place.
func nested(n, kind, kids, place int, t api.Term) api.Term {
	for range n {
		t = within(kind, kids, place, t)
	}
	return t
}

// wide is a term of so many terms, which must be odd, not very tall, with t at all its ends. Its head is t.
func wide(count int, t api.Term) api.Term {
	if count == 1 {
		return t
	}
	first := (count - 1) / 2
	if first%2 == 0 {
		first--
	}
	return app(wide(first, t), wide(count-1-first, t))
}

// spine is t, applied so many times: as many terms are nested in the result as that, and one more.
func spine(count int, t api.Term) api.Term {
	return apps(t, slices.Repeat([]api.Term{point()}, count)...)
}

// decl has no value.
func decl(params int) api.Decl { return api.Decl{Params: params, Type: point()} }

func def(params int, value api.Term) api.Decl {
	return api.Decl{Params: params, Type: point(), HasValue: true, Value: value}
}

// someEnv has a value of each kind, and declarations without values, with each number of parameters.
func someEnv() []api.Decl {
	return []api.Decl{
		decl(0),
		def(0, fun(v(0))),
		def(1, sort(up(1, param(0)))),
		def(2, fun(fun(apps(v(1), v(0), con(2, param(1)))))),
		def(0, app(con(1), con(1))),
		def(0, pi(con(4), app(con(1), v(0)))),
		decl(3),
		def(5, let(con(2, param(4)), fun(app(con(6, param(0), param(1), param(2)), v(1))))),
		def(0, con(0)),
	}
}

// wrongLevels is levels that are not valid, whatever the parameters and unknowns.
func wrongLevels() []api.Level {
	cycle := make([]api.Level, 2)
	for i := range cycle {
		cycle[i] = node(api.Max, cycle...)
	}
	return []api.Level{{}, leaf(7, 0), leaf(-1, 0), leaf(api.Zero, 1), node(api.Succ), node(api.Max, zero()), up(12, zero()), param(5), meta(10), cycle[0]}
}

// wrongTerms is terms that are not well-formed.
func wrongTerms() []api.Term {
	all := []api.Term{{}, {Kind: 8}, {Kind: -1}, v(-1), v(1000), v(maxInt), v(minInt), con(20), con(-1), sort(), sort(zero(), zero()),
		con(0, slices.Repeat([]api.Level{zero()}, 6)...), of(api.App), of(api.Lam, v(0)), of(api.Let, v(0), v(0)), app(v(0), api.Term{}),
		{Kind: api.App, N: 1, Kids: []api.Term{v(0), v(0)}}, {Kind: api.Var, Levels: []api.Level{zero()}}, fun(v(1001)), let(v(0), v(1001)), let(v(1000), v(0)),
		wide(601, point()), nested(30, api.Pi, 2, 1, point()), spine(30, point())}
	for _, l := range wrongLevels() {
		all = append(all, sort(l), con(3, zero(), l))
	}
	return append(all, endless()...)
}

// endless is terms that contain themselves, or that take few bytes and yet have more terms than could ever be gone through.
func endless() []api.Term {
	var all []api.Term
	for _, p := range places() {
		kids := make([]api.Term, p[1])
		for i := range kids {
			kids[i] = of(p[0], kids...)
		}
		for i := range kids {
			kids[i].Kids = kids
		}
		deep := v(0)
		for range 1000 {
			deep = of(p[0], slices.Repeat([]api.Term{deep}, p[1])...)
		}
		all = append(all, kids[0], deep)
	}
	return all
}

func checkReduce(t *testing.T, env []api.Decl, x api.Term, fuel int, want api.Term, left int) {
	t.Helper()
	if got, n, e := Reduce(env, x, fuel); !term.Same(got, want) || n != left || e != api.OK {
		t.Errorf("Reduce(env, %v, %d) = %v, %d, %d; want %v, %d", x, fuel, got, n, e, want, left)
	}
}

// checkSteps: x takes so many steps to become want, and with less fuel there is none left.
func checkSteps(t *testing.T, env []api.Decl, x api.Term, steps int, want api.Term) {
	t.Helper()
	for _, more := range []int{0, 1, 7} {
		checkReduce(t, env, x, steps+more, want, more)
	}
	checkReduce(t, env, x, api.MaxFuel, want, api.MaxFuel-steps)
	for fuel := range steps {
		checkRefused(t, env, x, fuel, api.ErrFuel)
	}
}

// checkFails: in the last one of so many steps there is the error, and with less fuel there is none left.
func checkFails(t *testing.T, env []api.Decl, x api.Term, steps int, want api.Errno) {
	t.Helper()
	for _, fuel := range []int{steps, steps + 1, api.MaxFuel} {
		checkRefused(t, env, x, fuel, want)
	}
	for fuel := range steps {
		checkRefused(t, env, x, fuel, api.ErrFuel)
	}
}

// checkRefused doesn't print the term, since that might not end.
func checkRefused(t *testing.T, env []api.Decl, x api.Term, fuel int, want api.Errno) {
	t.Helper()
	if got, n, e := Reduce(env, x, fuel); !term.Same(got, api.Term{}) || n != 0 || e != want {
		t.Errorf("Reduce(env, x, %d) has the error %d, %d fuel; want %d alone", fuel, e, n, want)
	}
}

// checkRight asks Right about env, and Reduce too, which refuses what is not right.
func checkRight(t *testing.T, env []api.Decl, want bool) {
	t.Helper()
	if Right(env) != want {
		t.Errorf("Right of %d declarations is %v", len(env), !want)
	}
	if want {
		checkReduce(t, env, point(), 3, point(), 3)
	} else {
		checkRefused(t, env, point(), 3, api.ErrArg)
	}
}

// checkDecl puts d ahead of, between and behind other declarations, which don't matter for it.
func checkDecl(t *testing.T, d api.Decl, want bool) {
	t.Helper()
	checkRight(t, []api.Decl{d}, want)
	checkRight(t, []api.Decl{decl(2), d}, want)
	checkRight(t, []api.Decl{d, def(1, point())}, want)
	checkRight(t, []api.Decl{decl(0), d, decl(5)}, want)
}

// checkPart looks at x as the type, and as the value, of a declaration with so many parameters.
func checkPart(t *testing.T, params int, x api.Term, want bool) {
	t.Helper()
	checkDecl(t, api.Decl{Params: params, Type: x}, want)
	checkDecl(t, def(params, x), want)
	checkDecl(t, api.Decl{Params: params, Type: x, HasValue: true, Value: x}, want)
}

func TestS1Count(t *testing.T) {
	for count := range 25 {
		checkRight(t, slices.Repeat([]api.Decl{decl(0)}, count), count <= 20)
		checkRight(t, slices.Repeat([]api.Decl{def(3, sort(param(2)))}, count), count <= 20)
	}
	checkRight(t, nil, true)
	checkRight(t, someEnv(), true)
	checkRight(t, make([]api.Decl, 1), false)
}

func TestS1Params(t *testing.T) {
	for _, n := range []int{minInt, -1, 0, 1, 2, 3, 4, 5, 6, 7, maxInt} {
		checkPart(t, n, point(), n >= 0 && n <= 5)
		for p := -1; p <= 6; p++ {
			want := n >= 0 && n <= 5 && p >= 0 && p < n
			checkPart(t, n, sort(param(p)), want)
			checkPart(t, n, pi(point(), sort(up(3, param(p)))), want)
			checkDecl(t, api.Decl{Params: n, Cons: []api.Con{{A: param(p), B: zero()}}, Type: point()}, want)
			checkDecl(t, api.Decl{Params: n, Cons: []api.Con{{A: zero(), B: zero()}, {A: zero(), B: up(1, param(p))}}, Type: point()}, want)
		}
	}
}

func TestS1Cons(t *testing.T) {
	for count := range 11 {
		cons := slices.Repeat([]api.Con{{A: param(0), B: param(1)}}, count)
		checkDecl(t, api.Decl{Params: 2, Cons: cons, Type: point()}, count <= 8)
		for place := range min(count, 8) {
			for _, l := range append(wrongLevels(), meta(0), param(2)) {
				wrong := slices.Clone(cons)
				wrong[place].A = l
				checkRight(t, []api.Decl{{Params: 2, Cons: wrong, Type: point()}}, false)
				wrong[place] = api.Con{A: zero(), B: l}
				checkRight(t, []api.Decl{decl(0), {Params: 2, Cons: wrong, Type: point()}}, false)
			}
		}
	}
	// No values need satisfy them.
	checkDecl(t, api.Decl{Params: 1, Cons: []api.Con{{A: up(1, param(0)), B: param(0)}}, Type: point()}, true)
}

func TestS1Terms(t *testing.T) {
	for _, x := range wrongTerms() {
		checkPart(t, 5, x, false)
	}
	for _, x := range []api.Term{v(0), v(999), fun(v(1)), let(v(0), point()), let(point(), v(1)), pi(v(0), point()), app(id(), v(0))} {
		checkPart(t, 5, x, false)
	}
	for n := range 10 {
		checkPart(t, 5, sort(meta(n)), false)
		checkPart(t, 5, fun(sort(up(2, meta(n)))), false)
	}
	for _, x := range []api.Term{id(), fun(fun(v(1))), let(point(), v(0)), pi(point(), v(0)), wide(599, point()), wide(599, sort(param(4))), spine(29, point()), nested(29, api.Lam, 2, 1, v(28)), loop()} {
		checkPart(t, 5, x, true)
	}
	checkPart(t, 0, let(point(), wide(597, point())), true)
	checkPart(t, 0, fun(wide(599, point())), false)
}

// Where there is no value, the field is zero.
func TestS1NoValue(t *testing.T) {
	for _, x := range []api.Term{point(), {Kind: api.Var}, {Kind: 9}, {N: 1}, {N: -1}, {Levels: []api.Level{zero()}}, {Levels: make([]api.Level, 1)}, {Kids: []api.Term{point()}}, {Kids: make([]api.Term, 1)}, endless()[0]} {
		d := decl(1)
		d.Value = x
		checkDecl(t, d, false)
	}
	d := decl(1)
	d.Value = api.Term{Levels: []api.Level{}, Kids: []api.Term{}}
	checkDecl(t, d, true)
	d.HasValue = true
	checkDecl(t, d, false)
}

// A declaration names those before it, in any place, with any number of levels.
func TestS1Consts(t *testing.T) {
	for index := range 20 {
		for n := range 20 {
			for _, x := range []api.Term{con(n), con(n, zero()), app(id(), con(n, zero(), zero(), zero(), zero(), zero()))} {
				env := slices.Repeat([]api.Decl{decl(0)}, index)
				checkRight(t, append(env, api.Decl{Type: x}), n < index)
				checkRight(t, append(env, def(0, x)), n < index)
				checkRight(t, append(env, def(0, x), decl(0)), n < index && index < 19)
			}
		}
	}
	for _, p := range places() {
		for place := range p[1] {
			for deep := range 30 {
				env := []api.Decl{decl(0), def(0, nested(deep, p[0], p[1], place, con(0)))}
				checkRight(t, env, true)
				env[1].Value = nested(deep, p[0], p[1], place, con(1))
				checkRight(t, env, false)
				env[1].Value, env[1].Type = point(), env[1].Value
				checkRight(t, env, false)
			}
		}
	}
	checkRight(t, []api.Decl{decl(0), {Type: app(con(0), con(1))}}, false)
	checkRight(t, []api.Decl{decl(0), {Type: app(con(1), con(0))}}, false)
}

// Each place of a list of declarations is looked at.
func TestS1EachPlace(t *testing.T) {
	for place := range 20 {
		env := slices.Repeat([]api.Decl{def(1, sort(param(0)))}, 20)
		for _, d := range []api.Decl{{}, decl(6), def(0, sort(param(0))), def(1, con(place)), {Type: con(place)}, {Type: point(), Value: point()}} {
			env[place] = d
			checkRight(t, env, false)
		}
	}
}

func TestS2Fuel(t *testing.T) {
	for _, fuel := range []int{minInt, -5000, -1, 5001, 5002, maxInt} {
		checkRefused(t, nil, point(), fuel, api.ErrArg)
		checkRefused(t, someEnv(), loop(), fuel, api.ErrArg)
	}
	for _, fuel := range []int{0, 1, 4999, 5000} {
		checkReduce(t, nil, point(), fuel, point(), fuel)
		checkRefused(t, nil, loop(), fuel, api.ErrFuel)
	}
}

// What may not be is refused also where it would not be reached, and comes before all other errors.
func TestS2Terms(t *testing.T) {
	for _, x := range wrongTerms() {
		for _, fuel := range []int{0, 9} {
			checkRefused(t, nil, x, fuel, api.ErrArg)
			checkRefused(t, someEnv(), app(point(), x), fuel, api.ErrArg)
			checkRefused(t, nil, app(loop(), x), fuel, api.ErrArg)
			checkRefused(t, nil, app(x, point()), fuel, api.ErrArg)
		}
	}
	long := let(wide(399, point()), app(v(0), v(0)))
	checkRefused(t, nil, long, 1, api.ErrLong)
	checkRefused(t, []api.Decl{{}}, long, 1, api.ErrArg)
	checkRefused(t, nil, long, -1, api.ErrArg)
	checkRefused(t, []api.Decl{{}}, loop(), 1, api.ErrArg)
}

// All free variables, parameters and unknowns that there may be, and constants of which there is no declaration.
func TestS2WellFormed(t *testing.T) {
	for _, x := range []api.Term{v(0), v(999), sort(param(4)), sort(meta(9)), con(19), con(19, param(4), meta(9), zero(), zero(), zero()), pi(v(999), v(1000)), wide(599, v(999)), spine(29, meta9())} {
		checkSteps(t, nil, x, 0, x)
		checkSteps(t, someEnv(), x, 0, x)
	}
}

func meta9() api.Term { return con(11, meta(9)) }

func TestS3Example(t *testing.T) {
	checkSteps(t, nil, app(fun(v(0)), sort(up(1, zero()))), 1, sort(up(1, zero())))
}

func TestS3Let(t *testing.T) {
	checkSteps(t, nil, of(api.Let, sort(param(0)), sort(param(1)), v(0)), 1, sort(param(1)))
	checkSteps(t, nil, let(v(3), apps(v(0), v(1), fun(v(1)), fun(v(2)))), 1, apps(v(3), v(0), fun(v(4)), fun(v(1))))
	checkSteps(t, nil, let(point(), let(v(0), pi(v(0), v(2)))), 2, pi(point(), point()))
	checkSteps(t, nil, let(id(), app(v(0), let(v(5), v(0)))), 3, v(4))
	checkSteps(t, nil, let(loop(), v(8)), 1, v(7))
	for n := range 28 {
		x := let(v(n), v(0))
		for range n {
			x = let(point(), x)
		}
		checkSteps(t, nil, x, n+1, v(0))
	}
}

func TestS3Const(t *testing.T) {
	env := someEnv()
	checkSteps(t, env, con(1), 1, id())
	checkSteps(t, env, con(2, param(3)), 1, sort(up(1, param(3))))
	checkSteps(t, env, con(2, up(2, meta(3))), 1, sort(up(3, meta(3))))
	checkSteps(t, env, con(3, zero(), param(0)), 1, fun(fun(apps(v(1), v(0), con(2, param(0))))))
	checkSteps(t, env, con(4), 4, id())
	checkSteps(t, env, con(5), 1, env[5].Value)
	checkSteps(t, env, con(7, meta(2), meta(1), meta(0), zero(), param(4)), 2, fun(app(con(6, meta(2), meta(1), meta(0)), con(2, param(4)))))
	checkSteps(t, env, con(8), 1, con(0))
	checkSteps(t, env, app(con(8), con(8)), 1, app(con(0), con(8)))
}

// A Const stays if it has no declaration, if that has no value, or not as many parameters as there are levels.
func TestS3ConstStays(t *testing.T) {
	env := someEnv()
	for n := range 20 {
		for count := range 6 {
			ls := slices.Repeat([]api.Level{param(1)}, count)
			if n < len(env) && env[n].HasValue && env[n].Params == count {
				checkRefused(t, env, con(n, ls...), 0, api.ErrFuel)
				checkSteps(t, env[:n], con(n, ls...), 0, con(n, ls...))
				continue
			}
			checkSteps(t, env, con(n, ls...), 0, con(n, ls...))
			checkSteps(t, env, app(con(n, ls...), con(1)), 0, app(con(n, ls...), con(1)))
			checkSteps(t, env, app(id(), con(n, ls...)), 1, con(n, ls...))
		}
	}
}

// All declarations that there may be, each the one before it.
func TestS3ConstChain(t *testing.T) {
	env := []api.Decl{def(1, sort(param(0)))}
	for n := range 19 {
		env = append(env, def(1, con(n, node(api.Max, param(0), param(0)))))
	}
	l := zero()
	for n := range 20 {
		if n < 6 {
			checkSteps(t, env, con(n, zero()), n+1, sort(l))
			l = node(api.Max, l, l)
		} else {
			checkFails(t, env, con(n, zero()), 6, api.ErrLong) // 64 + 63 levels are too many
		}
	}
}

func TestS3App(t *testing.T) {
	checkSteps(t, nil, apps(fun(fun(v(1))), v(3), v(4)), 2, v(3))
	checkSteps(t, nil, apps(fun(fun(v(0))), v(3), v(4)), 2, v(4))
	checkSteps(t, nil, app(fun(fun(v(1))), v(3)), 1, fun(v(4)))
	checkSteps(t, nil, app(fun(fun(v(2))), v(3)), 1, fun(v(1)))
	checkSteps(t, nil, apps(id(), id(), id(), v(5)), 3, v(5))
	checkSteps(t, nil, apps(fun(fun(fun(apps(v(2), v(0), app(v(1), v(0)))))), fun(fun(v(1))), v(8), v(9)), 5, v(9))
	checkSteps(t, nil, app(let(v(4), fun(app(v(0), v(1)))), v(6)), 2, app(v(6), v(4)))
	checkSteps(t, nil, app(app(id(), v(2)), app(id(), v(3))), 1, app(v(2), app(id(), v(3))))
	checkSteps(t, nil, app(id(), app(id(), app(id(), v(3)))), 3, v(3))
	checkSteps(t, nil, app(fun(point()), loop()), 1, point()) // an argument is reduced only where it is the head
	checkRefused(t, nil, app(loop(), point()), 5000, api.ErrFuel)
	env := someEnv()
	checkSteps(t, env, apps(con(1), con(1), v(7)), 4, v(7))
	checkSteps(t, env, apps(con(3, zero(), param(1)), con(1), con(0)), 5, app(con(0), con(2, param(1))))
	checkSteps(t, env, app(con(7, zero(), zero(), zero(), zero(), zero()), v(9)), 3, app(con(6, zero(), zero(), zero()), con(2, zero())))
}

// The type of a Lam and of a Let has no part in a step.
func TestS3Types(t *testing.T) {
	for _, x := range []api.Term{loop(), v(999), wide(399, point())} {
		checkSteps(t, nil, app(of(api.Lam, x, v(0)), v(1)), 1, v(1))
		checkSteps(t, nil, of(api.Let, x, v(1), v(0)), 1, v(1))
	}
}

// What is not the head of a term stays as it is.
func TestS3Stays(t *testing.T) {
	env := someEnv()
	for _, x := range []api.Term{app(id(), v(1)), let(v(1), v(0)), con(4), loop()} {
		for _, head := range []api.Term{v(0), point(), con(0), con(1, zero()), con(12), pi(x, x)} {
			checkSteps(t, env, head, 0, head)
			for count := 1; count < 5; count++ {
				same := apps(head, slices.Repeat([]api.Term{x}, count)...)
				checkSteps(t, env, same, 0, same)
				checkSteps(t, env, app(id(), same), 1, same)
				checkSteps(t, env, apps(id(), head, x, fun(x), x), 1, apps(head, x, fun(x), x))
			}
		}
		same := of(api.Lam, x, x)
		checkSteps(t, env, same, 0, same)
		checkSteps(t, env, app(id(), same), 1, same)
	}
}

// The arguments stay in order, also where a Lam takes some of them only.
func TestS3Order(t *testing.T) {
	for count := range 27 {
		var args []api.Term
		for n := range count {
			args = append(args, v(100+n))
		}
		checkSteps(t, nil, app(id(), apps(v(0), args...)), 1, apps(v(0), args...))
		for taken := range min(count, 3) + 1 {
			f := v(90)
			for range taken {
				f = fun(f) // with each binder, and each step, it is one less
			}
			checkSteps(t, nil, apps(f, args...), taken, apps(v(90-taken), args[taken:]...))
		}
	}
}

// ErrLong of Open: the result is too tall, or has too many terms.
func TestS3OpenLong(t *testing.T) {
	for deep := range 29 {
		for more := range 29 {
			body, u := spine(deep, v(0)), spine(more, v(1))
			if deep+more <= 29 {
				checkReduce(t, nil, let(u, body), 1, spine(deep+more, v(1)), 0)
			} else {
				checkFails(t, nil, let(u, body), 1, api.ErrLong)
			}
			if deep+more > 29 && deep < 28 {
				checkFails(t, nil, app(fun(body), u), 1, api.ErrLong)
			}
		}
	}
	pair := app(v(0), v(0))
	checkSteps(t, nil, let(wide(299, v(3)), pair), 1, app(wide(299, v(3)), wide(299, v(3))))
	checkSteps(t, nil, let(v(999), pair), 1, app(v(999), v(999)))
	checkFails(t, nil, let(wide(301, v(3)), pair), 1, api.ErrLong)
	checkFails(t, nil, app(fun(pair), wide(301, v(3))), 1, api.ErrLong)
	checkFails(t, nil, apps(id(), fun(pair), wide(301, v(3))), 2, api.ErrLong)
	checkFails(t, nil, apps(fun(pair), wide(301, v(3)), loop()), 1, api.ErrLong)
	checkFails(t, nil, apps(fun(fun(pair)), point(), let(v(0), wide(301, v(3)))), 2, api.ErrLong)
}

// The body of a Lam or a Let may name the free variable 999, which is 1000 below the binder: Open refuses such a body.
func TestS3OpenArg(t *testing.T) {
	for _, body := range []api.Term{v(1000), app(v(0), v(1000)), fun(v(1001)), pi(v(1000), v(0))} {
		checkFails(t, nil, let(v(2), body), 1, api.ErrArg)
		checkFails(t, nil, app(fun(body), v(2)), 1, api.ErrArg)
		checkFails(t, nil, apps(id(), fun(body), v(2)), 2, api.ErrArg)
		checkSteps(t, nil, fun(body), 0, fun(body))
		checkSteps(t, nil, app(id(), fun(body)), 1, fun(body))
		checkSteps(t, nil, app(v(0), fun(body)), 0, app(v(0), fun(body)))
	}
	checkSteps(t, nil, let(v(2), v(999)), 1, v(998))
	checkSteps(t, nil, let(v(999), fun(v(1))), 1, fun(v(1000)))
	checkFails(t, nil, let(v(999), let(v(0), fun(v(2)))), 2, api.ErrArg)
}

// ErrLong of Sub: a level is too deep, or has too many levels in it.
func TestS3SubLong(t *testing.T) {
	for deep := range 12 {
		env := []api.Decl{def(2, app(point(), sort(up(deep, param(1)))))}
		for more := range 12 {
			x, good := con(0, up(11, zero()), up(more, meta(0))), deep+more <= 11
			if good {
				want := app(point(), sort(up(deep+more, meta(0))))
				checkSteps(t, env, x, 1, want)
				checkSteps(t, env, app(id(), app(x, v(4))), 2, app(want, v(4)))
			} else {
				checkFails(t, env, x, 1, api.ErrLong)
				checkFails(t, env, app(id(), app(x, v(4))), 2, api.ErrLong)
				checkSteps(t, env, app(fun(v(3)), x), 1, v(2))
			}
		}
	}
}

// An App that is too great for a term may still become one that is not.
func TestS3GreatBetween(t *testing.T) {
	typed := of(api.Lam, app(v(0), v(0)), v(0)) // as great as its type may be, it becomes its argument
	for _, x := range [][2]api.Term{{wide(251, v(3)), wide(201, v(2))}, {spine(27, v(3)), v(2)}, {spine(27, v(3)), spine(28, v(2))}} {
		function, arg := let(x[0], typed), x[1]
		between, _, e := Reduce(nil, function, 1)
		if e != api.OK || term.Right(app(between, arg), 1000, 5, 10) {
			t.Fatalf("%v is a term", app(between, arg))
		}
		checkSteps(t, nil, app(function, arg), 2, arg)
	}
	checkSteps(t, nil, apps(let(wide(251, v(3)), typed), id(), wide(201, v(1))), 3, wide(201, v(1)))
}

// The constants have more and more arguments, until as many Lams take some of them.
func TestS3ManyArguments(t *testing.T) {
	for lams := 20; lams <= 29; lams++ {
		env := []api.Decl{def(0, nested(lams, api.Lam, 2, 1, point()))}
		for n := 1; n < 20; n++ {
			env = append(env, def(0, spine(3, con(n-1))))
			if left := 3*n - lams; left > 29 {
				checkFails(t, env, con(n), n+1+lams, api.ErrLong)
			} else if left >= 0 {
				checkSteps(t, env, con(n), n+1+lams, spine(left, point()))
			} else {
				checkSteps(t, env, con(n), n+1+3*n, nested(-left, api.Lam, 2, 1, point()))
			}
		}
	}
	grows := fun(apps(v(0), v(0), v(0)))
	checkRefused(t, nil, app(grows, grows), 5000, api.ErrFuel)
}

// ErrLong of the whole: each part is a term, but the resulting App is too tall, or has too many terms.
func TestS3GreatInTheEnd(t *testing.T) {
	for count := 191; count <= 203; count += 2 {
		for _, arg := range []api.Term{wide(count, v(1)), let(v(0), wide(count, v(1)))} {
			x := app(let(wide(199, v(5)), app(v(1), app(v(0), v(0)))), arg)
			want := app(app(v(0), app(wide(199, v(5)), wide(199, v(5)))), arg)
			if size(want) <= 600 { // 600 is among the sizes, and 601
				checkSteps(t, nil, x, 1, want)
			} else {
				checkFails(t, nil, x, 1, api.ErrLong)
			}
		}
	}
	u := spine(27, v(5))
	for count := range 29 {
		arg := spine(count, v(1))
		checkSteps(t, nil, app(let(u, app(v(1), v(0))), arg), 1, app(app(v(0), u), arg))
		checkFails(t, nil, app(let(u, app(v(1), app(v(1), v(0)))), arg), 1, api.ErrLong)
	}
}

func size(t api.Term) int {
	n := 1
	for _, kid := range t.Kids {
		n += size(kid)
	}
	return n
}

// Without fuel there is no error of Open and Sub, however many steps came before.
func TestS3FuelFirst(t *testing.T) {
	env := []api.Decl{def(1, sort(up(1, param(0))))}
	arg, open, sub := let(point(), v(1000)), let(wide(399, point()), app(v(0), v(0))), con(0, up(11, zero()))
	for n := range 20 {
		checkFails(t, env, arg, n+1, api.ErrArg)
		checkFails(t, env, open, n+1, api.ErrLong)
		checkFails(t, env, sub, n+1, api.ErrLong)
		arg, open, sub = app(id(), arg), app(id(), open), app(id(), sub)
	}
}

// plainly does what S3 says, in its words: a call inside the call reduces the function of an App.
func plainly(env []api.Decl, t api.Term, fuel *int) (api.Term, api.Errno) {
	for {
		var becomes func() (api.Term, api.Errno)
		switch {
		case t.Kind == api.Let:
			becomes = func() (api.Term, api.Errno) { return term.Open(t.Kids[2], t.Kids[1]) }
		case t.Kind == api.Const && t.N < len(env) && env[t.N].HasValue && env[t.N].Params == len(t.Levels):
			becomes = func() (api.Term, api.Errno) { return tsub.Sub(env[t.N].Value, t.Levels, nil) }
		case t.Kind == api.App:
			f, e := plainly(env, t.Kids[0], fuel)
			if e != api.OK || f.Kind != api.Lam {
				return app(f, t.Kids[1]), e
			}
			becomes = func() (api.Term, api.Errno) { return term.Open(f.Kids[1], t.Kids[1]) }
		default:
			return t, api.OK
		}
		if *fuel == 0 {
			return api.Term{}, api.ErrFuel
		}
		*fuel--
		next, e := becomes()
		if e != api.OK {
			return api.Term{}, e
		}
		t = next
	}
}

// expected is the result of Reduce, of arguments that may be.
func expected(env []api.Decl, t api.Term, fuel int) (api.Term, int, api.Errno) {
	t, e := plainly(env, t, &fuel)
	if e == api.OK && !term.Right(t, 1000, 5, 10) {
		e = api.ErrLong
	}
	if e != api.OK {
		return api.Term{}, 0, e
	}
	return t, fuel, api.OK
}

// draw returns a function whose numbers are less than its argument, and hang on its earlier calls alone.
func draw() func(count int) int {
	n := 1
	return func(count int) int {
		n = n*48271%(1<<31-1) + 1
		return n / 7 % count
	}
}

// drawnTerm is a term of at most so much height, with the free variables 0 to 3. Its Consts mostly are those of someEnv.
func drawnTerm(pick func(int) int, height, binders int) api.Term {
	kind := 1 + pick(3)
	if height > 0 {
		kind = []int{api.Var, api.Sort, api.Const, api.Const, api.App, api.App, api.App, api.App, api.Lam, api.Lam, api.Pi, api.Let}[pick(12)]
	}
	sub := func(binders int) api.Term { return drawnTerm(pick, height-1, binders) }
	switch kind {
	case api.Var:
		return v(pick(binders + 4))
	case api.Sort:
		return sort(up(pick(5), []api.Level{param(pick(5)), meta(pick(10)), zero()}[pick(3)]))
	case api.Const:
		n := pick(10)
		count := pick(6)
		if n < 9 && pick(8) > 0 {
			count = someEnv()[n].Params
		}
		return con(n, slices.Repeat([]api.Level{up(pick(11), meta(pick(10)))}, count)...)
	case api.App:
		return app(sub(binders), sub(binders))
	case api.Let:
		return of(api.Let, sub(binders), sub(binders), sub(binders+1))
	}
	return of(kind, sub(binders), sub(binders+1))
}

// someTerms is all terms of at most so much height over Vars, a Sort and Consts.
func someTerms(height int) []api.Term {
	all := []api.Term{v(0), v(1), con(1), con(2, up(1, meta(0))), sort(param(0))}
	if height == 0 {
		return all
	}
	below := someTerms(height - 1)
	for _, a := range below {
		for _, b := range below {
			all = append(all, app(a, b), of(api.Lam, point(), b), pi(a, b), let(a, b))
		}
	}
	return all
}

// checkReference looks at much fuel, at just as much as x takes, and at less. It returns how many steps x takes: all, after an error.
func checkReference(t *testing.T, env []api.Decl, x api.Term) int {
	t.Helper()
	steps := 60 - checkExpected(t, env, x, 60)
	checkExpected(t, env, x, steps)
	if steps > 0 {
		checkExpected(t, env, x, min(steps-1, 5))
	}
	return steps
}

// checkExpected returns the fuel that is left.
func checkExpected(t *testing.T, env []api.Decl, x api.Term, fuel int) int {
	t.Helper()
	want, left, e := expected(env, x, fuel)
	got, n, errno := Reduce(env, x, fuel)
	if !term.Same(got, want) || n != left || errno != e {
		t.Fatalf("Reduce(env, %v, %d) = %v, %d, %d; want %v, %d, %d", x, fuel, got, n, errno, want, left, e)
	}
	return left
}

func TestS3Reference(t *testing.T) {
	env := someEnv()
	for _, x := range someTerms(2) {
		checkReference(t, env, x)
	}
	pick := draw()
	many := 0
	for range 4000 {
		if steps := checkReference(t, env, drawnTerm(pick, 6, 0)); steps > 3 && steps < 60 {
			many++
		}
	}
	if many < 100 {
		t.Errorf("only %d terms take many steps", many)
	}
}

// A reduced term stays, and more fuel leaves more. An error of more than fuel stays too.
func TestS4(t *testing.T) {
	env := someEnv()
	pick := draw()
	for range 4000 {
		x := drawnTerm(pick, 6, 0)
		u, left, e := Reduce(env, x, 60)
		switch e {
		case api.OK:
			checkReduce(t, env, u, 0, u, 0)
			checkReduce(t, env, u, 77, u, 77)
			checkReduce(t, env, x, 60-left, u, 0)
			checkReduce(t, env, x, 5000, u, 4940+left)
		case api.ErrLong:
			checkRefused(t, env, x, 5000, api.ErrLong)
		}
	}
}

// No call ends in a panic where it is given terms that contain themselves, in any place.
func TestEnds(t *testing.T) {
	for _, x := range endless() {
		for _, d := range []api.Decl{{Type: x}, def(0, x), {Type: x, HasValue: true, Value: x}, {Type: point(), Value: x}} {
			checkRight(t, []api.Decl{d}, false)
			checkRight(t, []api.Decl{decl(0), d}, false)
		}
		checkRefused(t, nil, x, 5000, api.ErrArg)
	}
}

func TestArgumentsStay(t *testing.T) {
	build := func() ([]api.Decl, []api.Term) {
		level := []api.Level{up(2, param(0)), meta(1), zero()}
		f := fun(apps(v(0), con(3, level[:2]...), let(v(0), v(1))))
		return append(someEnv(), decl(4)), []api.Term{app(fun(app(f, v(0))), fun(fun(v(1)))), con(2, level[:1]...), con(9), v(4)}
	}
	env, terms := build()
	x := of(api.Let, terms[1], terms[2], apps(terms[0], terms[1]))
	y := api.Term{Kind: api.App, Kids: terms[:2]}
	for fuel := range 20 {
		Right(env[:9])
		Reduce(env[:9], x, fuel)
		Reduce(env[:9], y, fuel)
		Reduce(env[:3], terms[1], fuel)
	}
	oldEnv, oldTerms := build()
	if !slices.EqualFunc(terms, oldTerms, term.Same) || !slices.EqualFunc(env, oldEnv, sameDecl) {
		t.Errorf("changed: %v, %v", terms, env)
	}
}

func sameDecl(a, b api.Decl) bool {
	sameCon := func(a, b api.Con) bool { return level.Same(a.A, b.A) && level.Same(a.B, b.B) }
	return a.Params == b.Params && slices.EqualFunc(a.Cons, b.Cons, sameCon) && a.HasValue == b.HasValue && term.Same(a.Type, b.Type) && term.Same(a.Value, b.Value)
}

// spoilLevels writes into all lists of levels, and beyond their length as far as their memory goes.
func spoilLevels(ls []api.Level) {
	for i := range ls {
		spoilLevels(ls[i].Kids)
	}
	for i := range ls[:cap(ls)] {
		ls[:cap(ls)][i] = leaf(99, 99)
	}
}

func spoil(t api.Term) {
	spoilLevels(t.Levels)
	for _, kid := range t.Kids {
		spoil(kid)
	}
	for i := range t.Kids[:cap(t.Kids)] {
		t.Kids[:cap(t.Kids)][i] = v(99)
	}
}

// A result shares memory with no argument and no other result, and its parts with no other part.
func TestNewMemory(t *testing.T) {
	part := con(6, up(2, param(0)), meta(1), zero())
	for _, x := range []api.Term{part, app(part, part), app(v(0), sort(up(1, zero()))), fun(part), con(4), con(5), con(7, part.Levels[0], zero(), meta(1), zero(), meta(2)), let(part, apps(v(0), v(0), v(0))), apps(fun(fun(apps(v(1), v(1), part))), part, id(), part)} {
		env := someEnv()
		want, _, e := expected(env, x, 20)
		if e != api.OK {
			t.Fatal(e)
		}
		want, _ = tsub.Sub(want, nil, nil)
		old, _ := tsub.Sub(x, nil, nil)
		first, _, _ := Reduce(env, x, 20)
		second, _, _ := Reduce(env, x, 20)
		for i := range second.Kids {
			spoil(second.Kids[i])
			if later := second.Kids[i+1:]; !slices.EqualFunc(later, want.Kids[i+1:], term.Same) {
				t.Errorf("the parts of one result share memory: %v", later)
			}
		}
		spoil(second)
		if !term.Same(first, want) || !term.Same(x, old) || !slices.EqualFunc(env, someEnv(), sameDecl) {
			t.Errorf("%v and %v share memory", second, x)
		}
	}
}
