package lsub

import (
	"slices"
	"strconv"
	"testing"

	"stereobate/api"
	"stereobate/level"
)

const (
	minInt = -1 << 63
	maxInt = 1<<63 - 1
)

func leaf(kind, n int) api.Level { return api.Level{Kind: kind, N: n} }

func param(n int) api.Level { return leaf(api.Param, n) }

func meta(n int) api.Level { return leaf(api.Meta, n) }

func node(kind int, kids ...api.Level) api.Level { return api.Level{Kind: kind, Kids: kids} }

func zero() api.Level { return leaf(api.Zero, 0) }

// up puts n Succs around l.
func up(n int, l api.Level) api.Level {
	for range n {
		l = node(api.Succ, l)
	}
	return l
}

// full is a tree of Max and Imax over l with 2^height times l and 2^height - 1 other levels.
func full(height int, l api.Level) api.Level {
	if height == 0 {
		return l
	}
	return node(api.Max+height%2, full(height-1, l), full(height-1, l))
}

// list makes levels from the same rule for each of so many numbers.
func list(count int, rule func(n int) api.Level) []api.Level {
	var all []api.Level
	for n := range count {
		all = append(all, rule(n))
	}
	return all
}

func checkSub(t *testing.T, l api.Level, params, metas []api.Level, want api.Level) {
	t.Helper()
	if got, e := Sub(l, params, metas); !level.Same(got, want) || e != api.OK {
		t.Errorf("Sub(%v, %v, %v) = %v, %d; want %v", l, params, metas, got, e, want)
	}
}

func checkRefused(t *testing.T, l api.Level, params, metas []api.Level, want api.Errno) {
	t.Helper()
	if got, e := Sub(l, params, metas); !level.Same(got, api.Level{}) || e != want {
		t.Errorf("Sub(%v, %v, %v) = %v, %d; want %d alone", l, params, metas, got, e, want)
	}
}

func checkNumbers(t *testing.T, l api.Level, params, metas []int) {
	t.Helper()
	if got := Params(l); !slices.Equal(got, params) {
		t.Errorf("Params(%v) = %v; want %v", l, got, params)
	}
	if got := Metas(l); !slices.Equal(got, metas) {
		t.Errorf("Metas(%v) = %v; want %v", l, got, metas)
	}
}

func TestE1Example(t *testing.T) {
	checkSub(t, node(api.Max, param(0), param(1)), []api.Level{up(1, param(1))}, nil, node(api.Max, up(1, param(1)), param(1)))
}

func TestE1Replaces(t *testing.T) {
	two := node(api.Imax, zero(), meta(9))
	checkSub(t, param(0), []api.Level{two}, nil, two)
	checkSub(t, meta(0), nil, []api.Level{two}, two)
	checkSub(t, param(0), nil, []api.Level{two}, param(0))
	checkSub(t, meta(0), []api.Level{two}, nil, meta(0))
	checkSub(t, zero(), []api.Level{two}, []api.Level{two}, zero())
	checkSub(t, up(3, param(1)), []api.Level{zero(), two}, nil, up(3, two))
	checkSub(t, node(api.Imax, param(0), node(api.Max, up(1, meta(1)), param(0))), []api.Level{two}, []api.Level{zero(), param(4)},
		node(api.Imax, two, node(api.Max, up(1, param(4)), two)))
	checkSub(t, api.Level{Kind: api.Zero, Kids: []api.Level{}}, nil, nil, zero())
}

// A number that isn't less than the count of what is given stays.
func TestE1OthersStay(t *testing.T) {
	for count := range 6 {
		for n := range 5 {
			want := param(n)
			if n < count {
				want = up(n+1, zero())
			}
			params := list(count, func(n int) api.Level { return up(n+1, zero()) })
			checkSub(t, param(n), params, nil, want)
			checkSub(t, node(api.Max, meta(n), param(n)), params, nil, node(api.Max, meta(n), want))
		}
	}
	for count := range 11 {
		for n := range 10 {
			want := meta(n)
			if n < count {
				want = up(n+1, zero())
			}
			metas := list(count, func(n int) api.Level { return up(n+1, zero()) })
			checkSub(t, meta(n), nil, metas, want)
			checkSub(t, node(api.Imax, want, meta(n)), nil, metas, node(api.Imax, want, want))
		}
	}
}

func TestE1InsertedStays(t *testing.T) {
	checkSub(t, node(api.Max, param(0), param(1)), []api.Level{param(1), param(0)}, nil, node(api.Max, param(1), param(0)))
	checkSub(t, node(api.Imax, meta(0), meta(1)), nil, []api.Level{meta(1), meta(0)}, node(api.Imax, meta(1), meta(0)))
	checkSub(t, node(api.Max, param(0), meta(0)), []api.Level{meta(0)}, []api.Level{param(0)}, node(api.Max, meta(0), param(0)))
	checkSub(t, param(0), []api.Level{up(1, param(0))}, nil, up(1, param(0)))
	checkSub(t, meta(2), []api.Level{zero()}, []api.Level{zero(), zero(), node(api.Max, param(0), meta(2))}, node(api.Max, param(0), meta(2)))
}

// spelt writes l, with params and metas in their places, from left to right. It shares no step with Sub.
func spelt(l api.Level, params, metas []api.Level) string {
	if l.Kind == api.Param && l.N < len(params) {
		return spelt(params[l.N], nil, nil)
	}
	if l.Kind == api.Meta && l.N < len(metas) {
		return spelt(metas[l.N], nil, nil)
	}
	s := string("zsmipu"[l.Kind-1]) + strconv.Itoa(l.N)
	for _, kid := range l.Kids {
		s += spelt(kid, params, metas)
	}
	return s
}

// someLevels is all levels of at most so much height over parameters and unknowns.
func someLevels(height int) []api.Level {
	all := []api.Level{param(0), param(1), meta(0), meta(1)}
	if height == 0 {
		return all
	}
	below := someLevels(height - 1)
	for _, a := range below {
		all = append(all, node(api.Succ, a))
		for _, b := range below {
			all = append(all, node(api.Max, a, b), node(api.Imax, a, b))
		}
	}
	return all
}

// someLists is lists of what can be put in the place of parameters or unknowns.
func someLists() [][]api.Level {
	a, b := node(api.Imax, param(1), up(1, meta(0))), node(api.Max, meta(1), param(0))
	return [][]api.Level{nil, {zero()}, {a}, {b}, {a, b}, {b, a, zero()}, {meta(0), param(0)}, {param(1), meta(1)}}
}

func TestE1AllSmallLevels(t *testing.T) {
	for _, l := range someLevels(2) {
		for _, params := range someLists() {
			for _, metas := range someLists() {
				got, e := Sub(l, params, metas)
				if e != api.OK || spelt(got, nil, nil) != spelt(l, params, metas) {
					t.Fatalf("Sub(%v, %v, %v) = %v, %d", l, params, metas, got, e)
				}
			}
		}
	}
}

// wrongLevels is levels that aren't valid, each for one reason.
func wrongLevels() []api.Level {
	return []api.Level{
		{}, leaf(-1, 0), leaf(7, 0), leaf(minInt, 0), leaf(maxInt, 0), leaf(api.Zero, 1), {Kind: api.Succ, N: 1, Kids: []api.Level{zero()}},
		param(-1), param(5), param(minInt), param(maxInt), meta(-1), meta(10), meta(minInt), meta(maxInt),
		node(api.Zero, zero()), node(api.Param, zero()), node(api.Meta, zero()), node(api.Succ), node(api.Succ, zero(), zero()),
		node(api.Max, zero()), node(api.Imax, zero(), zero(), zero()), node(api.Max, zero(), param(5)), up(12, zero()), full(6, zero()),
	}
}

func TestE1RefusesLevels(t *testing.T) {
	good := node(api.Max, param(4), up(2, meta(9)))
	for _, wrong := range wrongLevels() {
		checkRefused(t, wrong, nil, nil, api.ErrArg)
		checkRefused(t, node(api.Imax, zero(), wrong), []api.Level{good}, []api.Level{good}, api.ErrArg)
		for n := range 5 {
			params := list(5, func(int) api.Level { return good })
			params[n] = wrong
			checkRefused(t, zero(), params, nil, api.ErrArg)
			checkRefused(t, param(0), params[:n+1], nil, api.ErrArg)
			checkSub(t, param(4), params[:n], nil, param(4))
		}
		for n := range 10 {
			metas := list(10, func(int) api.Level { return good })
			metas[n] = wrong
			checkRefused(t, zero(), nil, metas, api.ErrArg)
			checkRefused(t, meta(0), []api.Level{good}, metas[:n+1], api.ErrArg)
			checkSub(t, meta(9), nil, metas[:n], meta(9))
		}
	}
}

func TestE1RefusesCounts(t *testing.T) {
	zeros := func(count int) []api.Level { return slices.Repeat([]api.Level{zero()}, count) }
	l := node(api.Max, param(4), meta(9))
	checkSub(t, l, zeros(5), zeros(10), node(api.Max, zero(), zero()))
	checkSub(t, l, zeros(4), zeros(9), l)
	for _, count := range []int{6, 7, 10, 11, 1 << 16} {
		checkRefused(t, zero(), zeros(count), nil, api.ErrArg)
		checkRefused(t, l, zeros(count), zeros(10), api.ErrArg)
	}
	for _, count := range []int{11, 12, 16, 1 << 16} {
		checkRefused(t, zero(), nil, zeros(count), api.ErrArg)
		checkRefused(t, l, zeros(5), zeros(count), api.ErrArg)
	}
	checkRefused(t, zero(), make([]api.Level, 6), nil, api.ErrArg)
}

// Levels that contain themselves are refused, too. They aren't printed, since that would not end.
func TestE1SubEnds(t *testing.T) {
	for _, kind := range []int{api.Succ, api.Max, api.Imax} {
		kids := make([]api.Level, min(kind-api.Succ, 1)+1)
		for i := range kids {
			kids[i] = api.Level{Kind: kind, Kids: kids}
		}
		for i, arguments := range [][3][]api.Level{{kids}, {{zero()}, kids}, {{zero()}, nil, kids}} {
			if l, e := Sub(arguments[0][0], arguments[1], arguments[2]); !level.Same(l, api.Level{}) || e != api.ErrArg {
				t.Errorf("kind %d, argument %d: %d; want ErrArg alone", kind, i, e)
			}
		}
	}
}

func TestE1Depth(t *testing.T) {
	for outer := range 12 {
		for inner := range 12 {
			for _, end := range []api.Level{zero(), param(0), meta(0)} {
				for _, place := range []api.Level{param(0), meta(0)} {
					put := []api.Level{up(inner, end)}
					if outer+inner <= 11 {
						checkSub(t, up(outer, place), put, put, up(outer+inner, end))
					} else {
						checkRefused(t, up(outer, place), put, put, api.ErrLong)
					}
				}
			}
		}
	}
	deep := []api.Level{up(11, zero())}
	checkRefused(t, node(api.Max, zero(), param(0)), deep, nil, api.ErrLong)
	checkRefused(t, node(api.Imax, meta(0), zero()), nil, deep, api.ErrLong)
	checkSub(t, node(api.Max, zero(), param(1)), deep, deep, node(api.Max, zero(), param(1)))
}

func TestE1Size(t *testing.T) {
	for n := range 8 { // 15 + 16 * 5 levels, and n + 2 more
		l := node(api.Max, full(4, param(0)), up(n, zero()))
		fill := full(1, up(1, zero()))
		if 1+15+16*5+n+1 <= 100 {
			checkSub(t, l, []api.Level{fill}, nil, node(api.Max, full(4, fill), up(n, zero())))
		} else {
			checkRefused(t, l, []api.Level{fill}, nil, api.ErrLong)
		}
	}
	big := []api.Level{full(5, zero())}
	checkSub(t, up(6, meta(0)), nil, big, up(6, big[0]))
	checkRefused(t, node(api.Max, meta(0), param(0)), big, big, api.ErrLong)
	checkSub(t, node(api.Max, meta(0), param(1)), big, big, node(api.Max, big[0], param(1)))
	checkRefused(t, full(5, param(0)), big, nil, api.ErrLong)
}

// What may not be comes before what is too long.
func TestE1FirstErrorWins(t *testing.T) {
	long, deep := up(11, param(0)), up(11, zero())
	checkRefused(t, long, []api.Level{deep}, nil, api.ErrLong)
	checkRefused(t, long, []api.Level{deep, {}}, nil, api.ErrArg)
	checkRefused(t, long, []api.Level{deep}, []api.Level{{}}, api.ErrArg)
	checkRefused(t, long, slices.Repeat([]api.Level{deep}, 6), nil, api.ErrArg)
	checkRefused(t, long, []api.Level{deep}, slices.Repeat([]api.Level{deep}, 11), api.ErrArg)
}

func TestE2Order(t *testing.T) {
	checkNumbers(t, zero(), nil, nil)
	checkNumbers(t, param(3), []int{3}, nil)
	checkNumbers(t, meta(3), nil, []int{3})
	checkNumbers(t, up(11, meta(9)), nil, []int{9})
	checkNumbers(t, node(api.Max, param(4), param(2)), []int{4, 2}, nil)
	checkNumbers(t, node(api.Imax, meta(2), meta(4)), nil, []int{2, 4})
	checkNumbers(t, node(api.Max, node(api.Imax, param(3), meta(1)), node(api.Max, up(1, param(0)), node(api.Max, param(3), meta(0)))), []int{3, 0}, []int{1, 0})
	checkNumbers(t, full(5, node(api.Max, up(1, param(1)), node(api.Imax, meta(7), param(0)))), []int{1, 0}, []int{7})
}

func TestE2AnyLevel(t *testing.T) {
	checkNumbers(t, api.Level{}, nil, nil)
	checkNumbers(t, param(minInt), []int{minInt}, nil)
	checkNumbers(t, meta(maxInt), nil, []int{maxInt})
	checkNumbers(t, leaf(99, 3), nil, nil)
	checkNumbers(t, node(99, param(-1), node(0, meta(70), param(-1), param(5)), meta(-2)), []int{-1, 5}, []int{70, -2})
	checkNumbers(t, node(api.Zero, param(1), node(api.Succ, meta(2), meta(3)), node(api.Max)), []int{1}, []int{2, 3})
	checkNumbers(t, api.Level{Kind: api.Succ, N: 8, Kids: []api.Level{param(9)}}, []int{9}, nil)
}

// What is below a parameter is hidden from Params only, and what is below an unknown from Metas only.
func TestE2Hidden(t *testing.T) {
	below := node(api.Max, param(1), meta(2))
	p := api.Level{Kind: api.Param, N: 7, Kids: []api.Level{below}}
	m := api.Level{Kind: api.Meta, N: 8, Kids: []api.Level{below}}
	checkNumbers(t, p, []int{7}, []int{2})
	checkNumbers(t, m, []int{1}, []int{8})
	checkNumbers(t, node(api.Imax, p, m), []int{7, 1}, []int{2, 8})
	checkNumbers(t, api.Level{Kind: api.Param, N: 0, Kids: []api.Level{m, p}}, []int{0}, []int{8, 2})
	for n := range 20 {
		checkNumbers(t, up(n, p), []int{7}, []int{2})
		checkNumbers(t, up(n, m), []int{1}, []int{8})
	}
}

func TestE2Once(t *testing.T) {
	var kids []api.Level
	var want []int
	for n := range 5000 {
		kids = append(kids, param(n*7%5000), meta(n%13))
		want = append(want, n*7%5000)
	}
	checkNumbers(t, node(api.Max, append(kids, kids...)...), want, []int{0, 1, 2, 3, 4, 5, 6, 7, 8, 9, 10, 11, 12})
}

// comb nests so many Max in each other, the kid that goes on being the first, the second or the third one of three.
// The numbers of its parameters from left to right are in.
func comb(deep, place int) (l api.Level, in []int) {
	l = zero()
	var left, right []int
	for n := deep - 1; n >= 0; n-- {
		kids := []api.Level{param(n), param(deep + n), param(2*deep + n)}
		kids[place] = l
		l = node(api.Max, kids...)
	}
	for n := range deep {
		for i := range 3 {
			if i < place {
				left = append(left, i*deep+n)
			}
			if i > place {
				right = append(right, i*deep+deep-1-n)
			}
		}
	}
	for i := 0; i < len(right); i += 2 - place { // the innermost ones come first, those of one Max in their order
		in = append(in, right[i:i+2-place]...)
	}
	return l, append(left, in...)
}

// Depths below, at and beyond the one at which the calls end and the list begins.
func TestE2Deep(t *testing.T) {
	for _, deep := range []int{0, 1, 2, 10, 11, 12, 13, 14, 30, 1000} {
		for place := range 3 {
			l, want := comb(deep, place)
			checkNumbers(t, l, want, nil)
			checkNumbers(t, node(api.Max, l, meta(3), l, meta(3)), want, []int{3})
		}
	}
}

// chain is n Succs around l, which lie side by side so that even many of them are made quickly.
func chain(n int, l api.Level) api.Level {
	all := make([]api.Level, n+1)
	for i := range n {
		all[i] = api.Level{Kind: api.Succ, Kids: all[i+1 : i+2]}
	}
	all[n] = l
	return all[0]
}

// The levels are too deep for a call inside each call: the stack would not suffice. They aren't printed.
func TestE2VeryDeep(t *testing.T) {
	l := chain(6_000_000, node(api.Max, param(4), meta(7)))
	if p, m := Params(l), Metas(l); !slices.Equal(p, []int{4}) || !slices.Equal(m, []int{7}) {
		t.Errorf("a chain: %v, %v", p, m)
	}
	const deep = 200_000
	for place := range 3 {
		l, want := comb(deep, place)
		if p := Params(l); !slices.Equal(p, want) {
			t.Errorf("a comb: %d numbers; want %d", len(p), len(want))
		}
	}
}

// The iterator can be stopped at any number, and gone through again.
func TestE2NumbersCanBeStoppedAndRepeated(t *testing.T) {
	for _, deep := range []int{3, 20} {
		for place := range 3 {
			l, want := comb(deep, place)
			seq := numbers(l, api.Param, api.MaxDeep)
			for stop := range want {
				var got []int
				for n := range seq {
					got = append(got, n)
					if len(got) > stop {
						break
					}
				}
				if !slices.Equal(got, want[:stop+1]) {
					t.Errorf("depth %d, place %d, stopped at %d: %v", deep, place, stop, got)
				}
			}
			if got := slices.Collect(seq); !slices.Equal(got, want) {
				t.Errorf("depth %d, place %d: %v; want %v", deep, place, got, want)
			}
		}
	}
}

func mustEval(t *testing.T, l api.Level, params, metas []int) int {
	t.Helper()
	n, e := level.Eval(l, params, metas)
	if e != api.OK {
		t.Fatalf("Eval(%v, %v, %v): %d", l, params, metas, e)
	}
	return n
}

// values is old, with the values of ls in the first places.
func values(t *testing.T, ls []api.Level, params, metas, old []int) []int {
	t.Helper()
	all := slices.Clone(old)
	for i, l := range ls {
		all[i] = mustEval(t, l, params, metas)
	}
	return all
}

func checkValues(t *testing.T, l api.Level, params, metas []api.Level) {
	t.Helper()
	got, e := Sub(l, params, metas)
	if e != api.OK {
		t.Fatalf("Sub(%v, %v, %v): %d", l, params, metas, e)
	}
	for _, at := range [][2][]int{{{0, 0, 0}, {0, 0, 0}}, {{2, 0, 1}, {0, 5, 3}}, {{0, 4, 1}, {1, 0, 0}}, {{3, 1, 0}, {2, 7, 1}}} {
		want := mustEval(t, l, values(t, params, at[0], at[1], at[0]), values(t, metas, at[0], at[1], at[1]))
		if n := mustEval(t, got, at[0], at[1]); n != want {
			t.Fatalf("Sub(%v, %v, %v) is %d at %v; want %d", l, params, metas, n, at, want)
		}
	}
}

func TestE3Values(t *testing.T) {
	lists := someLists()
	for _, l := range someLevels(1) {
		for _, params := range lists {
			for _, metas := range lists {
				checkValues(t, l, params, metas)
			}
		}
	}
	for i, l := range someLevels(2) {
		checkValues(t, l, lists[i%len(lists)], lists[i/len(lists)%len(lists)])
	}
}

// Neither the arguments nor the memory beyond their lengths change.
func TestArgumentsStay(t *testing.T) {
	build := func() []api.Level {
		return []api.Level{up(2, param(0)), node(api.Imax, meta(1), param(1)), param(77), full(2, meta(0))}
	}
	kids, params, metas := build(), build(), build()
	l := api.Level{Kind: api.Max, Kids: kids[:2]}
	Sub(l, params[:1], metas[:2])
	Sub(l, params[:2], metas[:3])
	Sub(up(10, l), params[:2], metas[:2])
	Params(l)
	Metas(up(30, l))
	for _, ls := range [][]api.Level{kids, params, metas} {
		if !slices.EqualFunc(ls, build(), level.Same) {
			t.Errorf("changed: %v", ls)
		}
	}
}

// spoil writes into every list of l, and beyond its length as far as its memory goes.
func spoil(l api.Level) {
	for i := range l.Kids {
		spoil(l.Kids[i])
	}
	for i := range l.Kids[:cap(l.Kids)] {
		l.Kids[:cap(l.Kids)][i] = leaf(99, 99)
	}
}

func TestSubGivesNewMemory(t *testing.T) {
	build := func() []api.Level { return []api.Level{up(2, param(0)), node(api.Imax, meta(1), up(1, zero()))} }
	l := node(api.Max, param(0), node(api.Imax, meta(1), node(api.Max, param(0), up(2, param(3)))))
	want := spelt(l, build(), build())
	params, metas := build(), build()
	first, _ := Sub(l, params, metas)
	second, _ := Sub(l, params, metas)
	spoil(second.Kids[0]) // the same replacement stands in two places
	if got := spelt(second.Kids[1], nil, nil); got != spelt(l.Kids[1], build(), build()) {
		t.Errorf("two lists of one result share memory: %s", got)
	}
	spoil(second)
	if got := spelt(first, nil, nil); got != want {
		t.Errorf("two results share memory: %s", got)
	}
	spoil(first)
	if got := spelt(l, params, metas); got != want {
		t.Errorf("a result and an argument share memory: %s", got)
	}
}
