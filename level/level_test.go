package level

import (
	"slices"
	"testing"

	"stereobate/api"
)

const (
	minInt = -1 << 63
	maxInt = 1<<63 - 1
)

func leaf(kind, n int) api.Level { return api.Level{Kind: kind, N: n} }

func node(kind int, kids ...api.Level) api.Level { return api.Level{Kind: kind, Kids: kids} }

func zero() api.Level { return leaf(api.Zero, 0) }

// up puts n Succs around l.
func up(n int, l api.Level) api.Level {
	for range n {
		l = node(api.Succ, l)
	}
	return l
}

// full is a tree of Max and Imax with 2^(height+1) - 1 levels.
func full(height int) api.Level {
	if height == 0 {
		return zero()
	}
	return node(api.Max+height%2, full(height-1), full(height-1))
}

func checkRight(t *testing.T, l api.Level, params, metas int, want bool) {
	t.Helper()
	if got := Right(l, params, metas); got != want {
		t.Errorf("Right(%v, %d, %d) = %v", l, params, metas, got)
	}
}

func checkEval(t *testing.T, l api.Level, params, metas []int, want int) {
	t.Helper()
	if n, e := Eval(l, params, metas); n != want || e != api.OK {
		t.Errorf("Eval(%v, %v, %v) = %d, %d; want %d", l, params, metas, n, e, want)
	}
}

func checkRefused(t *testing.T, l api.Level, params, metas []int) {
	t.Helper()
	if n, e := Eval(l, params, metas); n != 0 || e != api.ErrArg {
		t.Errorf("Eval(%v, %v, %v) = %d, %d; want ErrArg", l, params, metas, n, e)
	}
}

func checkSame(t *testing.T, a, b api.Level, want bool) {
	t.Helper()
	if Same(a, b) != want || Same(b, a) != want {
		t.Errorf("Same(%v, %v) = %v, %v the other way round; want %v", a, b, Same(a, b), Same(b, a), want)
	}
}

func TestB1Counts(t *testing.T) {
	for _, c := range []int{minInt, -1, 0, 1, 5, 6, 10, 11, maxInt} {
		checkRight(t, zero(), c, 0, c >= 0 && c <= 5)
		checkRight(t, zero(), 0, c, c >= 0 && c <= 10)
		checkRight(t, zero(), c, c, c >= 0 && c <= 5)
	}
}

func TestB1Kinds(t *testing.T) {
	for _, kind := range []int{minInt, -1, 0, 7, 8, maxInt} {
		for kids := range 4 {
			checkRight(t, node(kind, slices.Repeat([]api.Level{zero()}, kids)...), 5, 10, false)
		}
	}
}

func TestB1Kids(t *testing.T) {
	for kind, count := range map[int]int{api.Zero: 0, api.Succ: 1, api.Max: 2, api.Imax: 2, api.Param: 0, api.Meta: 0} {
		for kids := range 5 {
			l := node(kind, slices.Repeat([]api.Level{zero()}, kids)...)
			checkRight(t, l, 5, 10, kids == count)
			checkRight(t, up(3, l), 5, 10, kids == count)
		}
	}
	checkRight(t, api.Level{Kind: api.Zero, Kids: []api.Level{}}, 0, 0, true)
}

func TestB1Numbers(t *testing.T) {
	for _, n := range []int{minInt, -1, 0, 1, 4, 5, 9, 10, maxInt} {
		for _, count := range []int{0, 1, 4, 5} {
			checkRight(t, leaf(api.Param, n), count, 10, n >= 0 && n < count)
		}
		for _, count := range []int{0, 1, 9, 10} {
			checkRight(t, leaf(api.Meta, n), 5, count, n >= 0 && n < count)
		}
		for _, l := range []api.Level{zero(), up(1, zero()), full(1), full(2)} {
			l.N = n
			checkRight(t, l, 5, 10, n == 0)
		}
	}
}

func TestB1KidsAreValid(t *testing.T) {
	for _, bad := range []api.Level{{}, leaf(api.Zero, 1), leaf(api.Param, 2), leaf(api.Meta, 3), node(api.Succ), node(api.Max, zero())} {
		for _, kind := range []int{api.Max, api.Imax} {
			checkRight(t, node(kind, bad, zero()), 2, 3, false)
			checkRight(t, node(kind, zero(), bad), 2, 3, false)
			checkRight(t, node(kind, zero(), node(kind, zero(), up(4, bad))), 2, 3, false)
		}
		checkRight(t, up(1, bad), 2, 3, false)
	}
}

func TestB1Depth(t *testing.T) {
	for _, l := range []api.Level{zero(), leaf(api.Param, 0), leaf(api.Meta, 0)} {
		for n := range 16 {
			checkRight(t, up(n, l), 1, 1, n <= 11)
			if n > 0 {
				checkRight(t, node(api.Max, up(n-1, l), zero()), 1, 1, n <= 11)
				checkRight(t, node(api.Imax, zero(), up(n-1, l)), 1, 1, n <= 11)
			}
		}
	}
}

func TestB1Size(t *testing.T) {
	checkRight(t, full(5), 0, 0, true)  // 63 levels
	checkRight(t, full(6), 0, 0, false) // 127 levels
	for n := range 7 {
		count := 1 + 63 + 1 + 31 + n + 1
		checkRight(t, node(api.Max, full(5), node(api.Imax, full(4), up(n, zero()))), 0, 0, count <= 100)
		checkRight(t, node(api.Max, node(api.Imax, up(n, zero()), full(4)), full(5)), 0, 0, count <= 100)
	}
}

// A level that contains itself, or that takes few bytes and yet has more levels than could ever be gone through, is refused at once.
func TestB1RightEnds(t *testing.T) {
	for _, kind := range []int{api.Succ, api.Max, api.Imax} {
		kids := make([]api.Level, min(kind-api.Succ, 1)+1)
		for i := range kids {
			kids[i] = api.Level{Kind: kind, Kids: kids}
		}
		checkRefusedAtOnce(t, kids[0])
	}
	wide := zero()
	for range 1000 {
		wide = node(api.Max, wide, wide)
	}
	checkRefusedAtOnce(t, wide)
	checkRefusedAtOnce(t, node(api.Max, slices.Repeat([]api.Level{zero()}, 1<<20)...))
}

// checkRefusedAtOnce doesn't print the level, since printing it would not end.
func checkRefusedAtOnce(t *testing.T, l api.Level) {
	t.Helper()
	if Right(l, 0, 0) {
		t.Error("Right takes it")
	}
	if n, e := Eval(l, nil, nil); n != 0 || e != api.ErrArg {
		t.Errorf("Eval: %d, %d; want ErrArg", n, e)
	}
}

func TestB2Kinds(t *testing.T) {
	params, metas := []int{3, 0, api.MaxNum, 7, 1}, []int{0, 10, 20, 30, 40, 50, 60, 70, 80, api.MaxNum}
	checkEval(t, zero(), nil, nil, 0)
	checkEval(t, zero(), params, metas, 0)
	for i, n := range params {
		checkEval(t, leaf(api.Param, i), params, metas, n)
		checkEval(t, up(11, leaf(api.Param, i)), params, metas, n+11)
	}
	for i, n := range metas {
		checkEval(t, leaf(api.Meta, i), params, metas, n)
		checkEval(t, up(11, leaf(api.Meta, i)), params, metas, n+11)
	}
	for a := range 5 {
		for b := range 5 {
			checkEval(t, node(api.Max, up(a, zero()), up(b, zero())), nil, nil, max(a, b))
			checkEval(t, node(api.Max, leaf(api.Param, 0), leaf(api.Meta, 0)), []int{a}, []int{b}, max(a, b))
			want := max(a, b)
			if b == 0 {
				want = 0
			}
			checkEval(t, node(api.Imax, up(a, zero()), up(b, zero())), nil, nil, want)
			checkEval(t, node(api.Imax, leaf(api.Meta, 0), leaf(api.Param, 0)), []int{b}, []int{a}, want)
		}
	}
}

func TestB2Nested(t *testing.T) {
	u, v := leaf(api.Param, 0), leaf(api.Meta, 0)
	l := up(1, node(api.Imax, up(2, u), node(api.Max, v, node(api.Imax, u, v))))
	checkEval(t, l, []int{5}, []int{0}, 1)
	checkEval(t, l, []int{5}, []int{1}, 8)
	checkEval(t, l, []int{0}, []int{9}, 10)
	checkEval(t, full(5), nil, nil, 0)
}

func TestB2Example(t *testing.T) {
	l := node(api.Imax, up(3, zero()), leaf(api.Param, 0))
	checkEval(t, l, []int{0}, nil, 0)
	checkEval(t, l, []int{2}, nil, 3)
	checkEval(t, l, []int{4}, nil, 4)
}

func TestB2RefusesLevels(t *testing.T) {
	checkRefused(t, api.Level{}, nil, nil)
	checkRefused(t, leaf(7, 0), nil, nil)
	checkRefused(t, leaf(api.Param, 0), nil, []int{1})
	checkRefused(t, leaf(api.Meta, 0), []int{1}, nil)
	checkRefused(t, leaf(api.Param, 2), []int{1, 2}, nil)
	checkRefused(t, leaf(api.Meta, -1), nil, []int{1, 2})
	checkRefused(t, up(12, zero()), nil, nil)
	checkRefused(t, full(6), nil, nil)
	checkRefused(t, node(api.Max, zero(), zero(), zero()), nil, nil)
}

func TestB2RefusesValues(t *testing.T) {
	for _, n := range []int{minInt, -1, api.MaxNum + 1, maxInt} {
		checkRefused(t, zero(), []int{n}, nil)
		checkRefused(t, zero(), nil, []int{n})
		checkRefused(t, leaf(api.Param, 0), []int{0, 1, 2, 3, n}, nil)
		checkRefused(t, leaf(api.Meta, 0), nil, []int{0, 1, 2, 3, 4, 5, 6, 7, 8, n})
	}
	checkEval(t, zero(), make([]int, 5), make([]int, 10), 0)
	checkRefused(t, zero(), make([]int, 6), nil)
	checkRefused(t, zero(), nil, make([]int, 11))
}

func TestB3Same(t *testing.T) {
	all := append(someLevels(2),
		api.Level{}, leaf(-1, 0), leaf(99, maxInt), leaf(api.Zero, 1), leaf(api.Param, minInt), node(api.Succ), node(api.Max, zero()),
		node(api.Max, zero(), zero(), zero()), node(api.Zero, zero()), node(0, node(0), node(0)),
		api.Level{Kind: api.Succ, N: 1, Kids: []api.Level{zero()}}, up(20, zero()), up(21, zero()))
	for i, a := range all {
		for j, b := range all {
			checkSame(t, a, copied(b), i == j)
		}
	}
}

func TestB3Edges(t *testing.T) {
	u, v := leaf(api.Param, 0), leaf(api.Param, 1)
	checkSame(t, node(api.Max, u, v), node(api.Max, v, u), false)
	checkSame(t, node(api.Max, u, v), node(api.Imax, u, v), false)
	checkSame(t, node(api.Max, node(api.Max, u, v), u), node(api.Max, u, node(api.Max, v, u)), false)
	checkSame(t, node(9, node(9, u), v), node(9, node(9), v), false)
	checkSame(t, node(9, node(9, u, v), node(9)), node(9, node(9), node(9, u, v)), false)
	checkSame(t, zero(), api.Level{Kind: api.Zero, Kids: []api.Level{}}, true)
	checkSame(t, full(10), full(10), true)
}

// chain is n Succs around l, which lie side by side so that even many of them are made quickly.
func chain(n int, l api.Level) api.Level {
	all := make([]api.Level, n+1)
	for i := range n {
		all[i] = api.Level{Kind: api.Succ, Kids: all[i+1 : i+2]}
	}
	all[n] = l
	return all[0]
}

// The levels are too deep for a call inside each call: the stack would not suffice.
func TestB3VeryDeep(t *testing.T) {
	const deep = 6_000_000
	a := chain(deep, leaf(api.Param, 0))
	if !Same(a, a) || !Same(a, chain(deep, leaf(api.Param, 0))) || Same(a, chain(deep, leaf(api.Param, 1))) || Same(a, a.Kids[0]) {
		t.Error("Same is wrong for deep levels")
	}
	if Right(a, 1, 0) {
		t.Error("Right takes a deep level")
	}
}

func TestB4Num(t *testing.T) {
	for n := range 12 {
		l, e := Num(n)
		if e != api.OK {
			t.Errorf("Num(%d): %d", n, e)
		}
		checkSame(t, l, up(n, zero()), true)
		checkRight(t, l, 0, 0, true)
		checkEval(t, l, nil, nil, n)
	}
	for _, n := range []int{minInt, -1, 12, 13, 100, maxInt} {
		l, e := Num(n)
		if e != api.ErrArg {
			t.Errorf("Num(%d): %d; want ErrArg", n, e)
		}
		checkSame(t, l, api.Level{}, true)
	}
}

// someLevels is all levels of at most so much height over a parameter, an unknown and 0.
func someLevels(height int) []api.Level {
	all := []api.Level{zero(), leaf(api.Param, 0), leaf(api.Meta, 0)}
	if height == 0 {
		return all
	}
	below := someLevels(height - 1)
	for _, a := range below {
		all = append(all, node(api.Succ, a))
		for _, b := range below {
			all = append(all, node(api.Max, a, b), node(api.Imax, a, b))
		}
	}
	return all
}

func copied(l api.Level) api.Level {
	var kids []api.Level
	for _, kid := range l.Kids {
		kids = append(kids, copied(kid))
	}
	return api.Level{Kind: l.Kind, N: l.N, Kids: kids}
}

func succs(l api.Level) int {
	count := 0
	if l.Kind == api.Succ {
		count = 1
	}
	for _, kid := range l.Kids {
		count += succs(kid)
	}
	return count
}

func mustEval(t *testing.T, l api.Level, u, v int) int {
	t.Helper()
	n, e := Eval(l, []int{u}, []int{v})
	if e != api.OK {
		t.Fatalf("Eval(%v): %d", l, e)
	}
	return n
}

func TestB5Monotonic(t *testing.T) {
	few := []int{0, 1, 2, 3, api.MaxNum - 1, api.MaxNum}
	for _, l := range someLevels(2) {
		for i, u := range few {
			for j, v := range few {
				n := mustEval(t, l, u, v)
				if i > 0 && mustEval(t, l, few[i-1], v) > n || j > 0 && mustEval(t, l, u, few[j-1]) > n {
					t.Errorf("%v is not monotonic at %d, %d", l, u, v)
				}
			}
		}
	}
}

func TestB5Bounded(t *testing.T) {
	for _, l := range append(someLevels(2), up(11, zero()), up(11, leaf(api.Meta, 0)), node(api.Max, up(10, leaf(api.Param, 0)), zero())) {
		for _, u := range []int{0, 1, 4, api.MaxNum} {
			for _, v := range []int{0, 2, 3, api.MaxNum} {
				if n := mustEval(t, l, u, v); n < 0 || n > max(u, v)+succs(l) {
					t.Errorf("%v is %d at %d, %d", l, n, u, v)
				}
			}
		}
	}
}

func TestB5MaxCommutes(t *testing.T) {
	all := someLevels(1)
	for _, a := range all {
		for _, b := range all {
			for u := range 4 {
				for v := range 4 {
					checkEval(t, node(api.Max, b, a), []int{u}, []int{v}, mustEval(t, node(api.Max, a, b), u, v))
				}
			}
		}
	}
}

// Neither the arguments nor the memory behind their slices changes.
func TestArgumentsStay(t *testing.T) {
	build := func() (kids []api.Level, params, metas []int) {
		kids = []api.Level{up(2, leaf(api.Param, 0)), node(api.Imax, leaf(api.Meta, 1), up(1, zero())), leaf(api.Param, 77), full(2)}
		return kids, []int{4, 5, 6}, []int{7, 8, 9}
	}
	kids, params, metas := build()
	l := api.Level{Kind: api.Max, Kids: kids[:2]}
	checkRight(t, l, 1, 2, true)
	checkEval(t, l, params[:1], metas[:2], 8)
	checkSame(t, l, copied(l), true)
	checkSame(t, l, node(api.Max, kids[1], kids[0]), false)
	wantKids, wantParams, wantMetas := build()
	if !slices.EqualFunc(kids, wantKids, Same) || !slices.Equal(params, wantParams) || !slices.Equal(metas, wantMetas) {
		t.Errorf("changed: %v, %v, %v", kids, params, metas)
	}
}

// Results share no memory with each other: writing into one leaves the next one as it should be.
func TestNumGivesNewMemory(t *testing.T) {
	l, _ := Num(3)
	l.Kids[0] = leaf(api.Param, 1)
	again, _ := Num(3)
	checkSame(t, again, up(3, zero()), true)
}
