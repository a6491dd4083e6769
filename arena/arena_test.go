package arena

import (
	"slices"
	"testing"

	"stereobate/api"
	"stereobate/level"
)

const (
	minInt = -1 << 63
	maxInt = 1<<63 - 1
)

func leaf(kind, n int) api.Level { return api.Level{Kind: kind, N: n} }

func node(kind int, kids ...api.Level) api.Level { return api.Level{Kind: kind, Kids: kids} }

func zero() api.Level { return leaf(api.Zero, 0) }

// up puts n Succs around l.
func up(n int, l api.Level) api.Level {
	for range n {
		l = node(api.Succ, l)
	}
	return l
}

// full is a tree of Max and Imax with 2^(height+1) - 1 levels.
func full(height int) api.Level {
	if height == 0 {
		return zero()
	}
	return node(api.Max+height%2, full(height-1), full(height-1))
}

// row makes an arena of nodes that are written as Kind, N, A, B.
func row(nodes ...[4]int) api.Arena {
	var a api.Arena
	for _, n := range nodes {
		a.Nodes = append(a.Nodes, api.Node{Kind: n[0], N: n[1], A: n[2], B: n[3]})
	}
	return a
}

// chain is an arena of Zero and count - 1 Succs, each of the one before.
func chain(count int) api.Arena {
	a := row([4]int{api.Zero})
	for i := range count - 1 {
		a.Nodes = append(a.Nodes, api.Node{Kind: api.Succ, A: i})
	}
	return a
}

// more is a with one node after it.
func more(a api.Arena, n api.Node) api.Arena {
	return api.Arena{Nodes: append(slices.Clone(a.Nodes), n)}
}

func same(a, b api.Arena) bool { return slices.Equal(a.Nodes, b.Nodes) }

func checkRight(t *testing.T, a api.Arena, want bool) {
	t.Helper()
	if got := Right(a); got != want {
		t.Errorf("Right(%v) = %v", a, got)
	}
}

func checkPut(t *testing.T, a api.Arena, l api.Level, want api.Arena, index int) {
	t.Helper()
	if b, i, e := Put(a, l); !same(b, want) || i != index || e != api.OK {
		t.Errorf("Put(%v, %v) = %v, %d, %d; want %v, %d", a, l, b, i, e, want, index)
	}
}

func checkPutRefuses(t *testing.T, a api.Arena, l api.Level, want api.Errno) {
	t.Helper()
	if b, i, e := Put(a, l); !same(b, a) || i != 0 || e != want {
		t.Errorf("Put(%v, %v) = %v, %d, %d; want %d and the same arena", a, l, b, i, e, want)
	}
}

func checkGet(t *testing.T, a api.Arena, i int, want api.Level) {
	t.Helper()
	if l, e := Get(a, i); !level.Same(l, want) || e != api.OK {
		t.Errorf("Get(%v, %d) = %v, %d; want %v", a, i, l, e, want)
	}
}

func checkGetRefuses(t *testing.T, a api.Arena, i int, want api.Errno) {
	t.Helper()
	if l, e := Get(a, i); !level.Same(l, api.Level{}) || e != want {
		t.Errorf("Get(%v, %d) = %v, %d; want %d alone", a, i, l, e, want)
	}
}

// mixed is an arena with nodes of all kinds, and the level of each.
func mixed() (api.Arena, []api.Level) {
	one, u, m := up(1, zero()), leaf(api.Param, 4), leaf(api.Meta, 9)
	a := row([4]int{api.Meta, 9}, [4]int{api.Param, 4}, [4]int{api.Zero}, [4]int{api.Succ, 0, 2},
		[4]int{api.Max, 0, 3, 3}, [4]int{api.Imax, 0, 1, 0}, [4]int{api.Imax, 0, 0, 1}, [4]int{api.Max, 0, 6, 2}, [4]int{api.Succ, 0, 7})
	nested := node(api.Max, node(api.Imax, m, u), zero())
	return a, []api.Level{m, u, zero(), one, node(api.Max, one, one), node(api.Imax, u, m), node(api.Imax, m, u), nested, up(1, nested)}
}

func TestD1Valid(t *testing.T) {
	checkRight(t, api.Arena{}, true)
	checkRight(t, api.Arena{Nodes: []api.Node{}}, true)
	a, _ := mixed()
	for n := range len(a.Nodes) + 1 {
		checkRight(t, api.Arena{Nodes: a.Nodes[:n]}, true)
	}
}

func TestD1Size(t *testing.T) {
	for _, n := range []int{1, 2, 999, 1000} {
		checkRight(t, chain(n), true)
	}
	for _, n := range []int{1001, 1002, 1 << 20} {
		if Right(chain(n)) {
			t.Errorf("Right takes %d nodes", n)
		}
	}
}

// nodeFits is D1 for a node with the index own, told kind by kind.
func nodeFits(n api.Node, own int) bool {
	a, b := n.A >= 0 && n.A < own, n.B >= 0 && n.B < own
	switch n.Kind {
	case api.Zero:
		return n.N == 0 && n.A == 0 && n.B == 0
	case api.Succ:
		return n.N == 0 && a && n.B == 0
	case api.Max, api.Imax:
		return n.N == 0 && a && b
	case api.Param:
		return n.N >= 0 && n.N <= 4 && n.A == 0 && n.B == 0
	case api.Meta:
		return n.N >= 0 && n.N <= 9 && n.A == 0 && n.B == 0
	}
	return false
}

// eachNode calls f with nodes of all kinds and of no kind, whose fields are at the edges.
func eachNode(f func(n api.Node)) {
	links := []int{minInt, -1, 0, 1, 2, 3, 4, 999, maxInt}
	for _, kind := range []int{minInt, -1, 0, 1, 2, 3, 4, 5, 6, 7, 8, maxInt} {
		for _, n := range []int{minInt, -1, 0, 1, 4, 5, 9, 10, maxInt} {
			for _, a := range links {
				for _, b := range links {
					f(api.Node{Kind: kind, N: n, A: a, B: b})
				}
			}
		}
	}
}

func TestD1Nodes(t *testing.T) {
	before := row([4]int{api.Meta, 3}, [4]int{api.Param, 3}, [4]int{api.Succ, 0, 1})
	for own := range len(before.Nodes) + 1 {
		start := api.Arena{Nodes: before.Nodes[:own]}
		eachNode(func(n api.Node) {
			want := nodeFits(n, own) && !slices.Contains(start.Nodes, n)
			checkRight(t, more(start, n), want)
			if own == 3 { // the fault is not at the end
				checkRight(t, more(more(start, n), api.Node{Kind: api.Meta, N: 8}), want)
			}
		})
	}
}

func TestD1NodesDiffer(t *testing.T) {
	a, _ := mixed()
	for _, n := range a.Nodes {
		checkRight(t, more(a, n), false)
	}
	long := chain(999)
	checkRight(t, more(long, api.Node{Kind: api.Zero}), false)
	checkRight(t, more(long, api.Node{Kind: api.Succ, A: 500}), false)
	checkRight(t, more(long, api.Node{Kind: api.Max, A: 500, B: 500}), true)
	checkRight(t, row([4]int{api.Param, 1}, [4]int{api.Meta, 1}, [4]int{api.Max, 0, 0, 1}, [4]int{api.Max, 0, 1, 0}, [4]int{api.Imax, 0, 0, 1}), true)
}

func TestD2Appends(t *testing.T) {
	u, m := leaf(api.Param, 0), leaf(api.Meta, 7)
	checkPut(t, api.Arena{}, zero(), row([4]int{api.Zero}), 0)
	checkPut(t, api.Arena{}, leaf(api.Param, 4), row([4]int{api.Param, 4}), 0)
	checkPut(t, api.Arena{}, leaf(api.Meta, 9), row([4]int{api.Meta, 9}), 0)
	checkPut(t, api.Arena{}, up(11, zero()), chain(12), 11)
	checkPut(t, api.Arena{}, node(api.Max, u, m), row([4]int{api.Param, 0}, [4]int{api.Meta, 7}, [4]int{api.Max, 0, 0, 1}), 2)
	checkPut(t, api.Arena{}, node(api.Imax, m, u), row([4]int{api.Meta, 7}, [4]int{api.Param, 0}, [4]int{api.Imax, 0, 0, 1}), 2)
	l := node(api.Imax, node(api.Max, up(1, u), m), node(api.Max, m, up(1, u)))
	checkPut(t, api.Arena{}, l, row([4]int{api.Param, 0}, [4]int{api.Succ, 0, 0}, [4]int{api.Meta, 7},
		[4]int{api.Max, 0, 1, 2}, [4]int{api.Max, 0, 2, 1}, [4]int{api.Imax, 0, 3, 4}), 5)
	checkPut(t, api.Arena{}, api.Level{Kind: api.Zero, Kids: []api.Level{}}, row([4]int{api.Zero}), 0)
}

func TestD2Example(t *testing.T) {
	one := up(1, zero())
	checkPut(t, api.Arena{}, node(api.Max, one, one), row([4]int{api.Zero}, [4]int{api.Succ}, [4]int{api.Max, 0, 1, 1}), 2)
}

func TestD2Shares(t *testing.T) {
	a, levels := mixed()
	for i, l := range levels {
		checkPut(t, a, l, a, i)
	}
	checkPut(t, a, up(2, zero()), more(a, api.Node{Kind: api.Succ, A: 3}), 9)
	checkPut(t, a, node(api.Max, levels[8], levels[8]), more(a, api.Node{Kind: api.Max, A: 8, B: 8}), 9)
	checkPut(t, a, node(api.Imax, leaf(api.Param, 3), levels[4]),
		more(more(a, api.Node{Kind: api.Param, N: 3}), api.Node{Kind: api.Imax, A: 9, B: 4}), 10)
	checkPut(t, api.Arena{}, full(5), row([4]int{api.Zero}, [4]int{api.Imax, 0, 0, 0}, [4]int{api.Max, 0, 1, 1},
		[4]int{api.Imax, 0, 2, 2}, [4]int{api.Max, 0, 3, 3}, [4]int{api.Imax, 0, 4, 4}), 5)
}

// wrongLevels is levels that aren't valid, each for one reason.
func wrongLevels() []api.Level {
	return []api.Level{
		{}, leaf(-1, 0), leaf(7, 0), leaf(maxInt, 0), leaf(api.Zero, 1), leaf(api.Param, -1), leaf(api.Param, 5), leaf(api.Meta, -1),
		leaf(api.Meta, 10), node(api.Zero, zero()), node(api.Succ), node(api.Succ, zero(), zero()), node(api.Max, zero()),
		node(api.Imax, zero(), zero(), zero()), node(api.Max, zero(), leaf(api.Param, 5)), up(12, zero()), full(6),
	}
}

// wrongArenas is arenas that aren't valid, each for one reason.
func wrongArenas() []api.Arena {
	return []api.Arena{
		row([4]int{}), row([4]int{7}), row([4]int{api.Zero, 1}), row([4]int{api.Succ}), row([4]int{api.Param, 5}), row([4]int{api.Meta, 10}),
		row([4]int{api.Zero, 0, 1}), row([4]int{api.Zero, 0, 0, 1}), row([4]int{api.Zero}, [4]int{api.Zero}),
		row([4]int{api.Zero}, [4]int{api.Succ, 0, 1}), row([4]int{api.Zero}, [4]int{api.Max, 0, 0, 1}), row([4]int{api.Zero}, [4]int{api.Imax, 0, -1, 0}),
		chain(1001),
	}
}

func TestD2RefusesArguments(t *testing.T) {
	good, _ := mixed()
	for _, l := range wrongLevels() {
		checkPutRefuses(t, api.Arena{}, l, api.ErrArg)
		checkPutRefuses(t, good, l, api.ErrArg)
		checkPutRefuses(t, chain(1000), l, api.ErrArg)
	}
	for _, a := range wrongArenas() {
		checkPutRefuses(t, a, zero(), api.ErrArg)
		checkPutRefuses(t, a, up(11, leaf(api.Param, 0)), api.ErrArg)
		checkPutRefuses(t, a, api.Level{}, api.ErrArg)
	}
}

// A level that contains itself is refused, too. It isn't printed, since that would not end.
func TestD2PutEnds(t *testing.T) {
	for _, kind := range []int{api.Succ, api.Max, api.Imax} {
		kids := make([]api.Level, min(kind-api.Succ, 1)+1)
		for i := range kids {
			kids[i] = api.Level{Kind: kind, Kids: kids}
		}
		if a, i, e := Put(chain(3), kids[0]); !same(a, chain(3)) || i != 0 || e != api.ErrArg {
			t.Errorf("Put: %v, %d, %d; want ErrArg", a, i, e)
		}
	}
}

func TestD2Long(t *testing.T) {
	u := leaf(api.Param, 0)
	for count := 985; count <= 1000; count++ {
		for added := 1; added <= 12; added++ {
			a, l := chain(count), up(added-1, u)
			if count+added > 1000 {
				checkPutRefuses(t, a, l, api.ErrLong)
				continue
			}
			want := more(a, api.Node{Kind: api.Param})
			for range added - 1 {
				want = more(want, api.Node{Kind: api.Succ, A: len(want.Nodes) - 1})
			}
			checkPut(t, a, l, want, count+added-1)
		}
		for n := range 12 {
			checkPut(t, chain(count), up(n, zero()), chain(count), n)
		}
	}
	checkPutRefuses(t, chain(1000), node(api.Max, zero(), zero()), api.ErrLong)
	checkPutRefuses(t, chain(999), node(api.Imax, u, zero()), api.ErrLong)
}

func TestD3Levels(t *testing.T) {
	a, levels := mixed()
	for i, l := range levels {
		checkGet(t, a, i, l)
	}
	for n := range 5 {
		checkGet(t, row([4]int{api.Param, n}), 0, leaf(api.Param, n))
	}
	for n := range 10 {
		checkGet(t, row([4]int{api.Meta, n}), 0, leaf(api.Meta, n))
	}
}

func TestD3RefusesArguments(t *testing.T) {
	a, levels := mixed()
	for _, i := range []int{minInt, -1, len(levels), len(levels) + 1, 1000, maxInt} {
		checkGetRefuses(t, a, i, api.ErrArg)
		checkGetRefuses(t, api.Arena{Nodes: a.Nodes[:0]}, i, api.ErrArg)
	}
	checkGetRefuses(t, api.Arena{}, 0, api.ErrArg)
	checkGetRefuses(t, api.Arena{Nodes: a.Nodes[:3]}, 3, api.ErrArg)
	checkGetRefuses(t, chain(1000), 1000, api.ErrArg)
	for _, a := range wrongArenas() {
		for _, i := range []int{-1, 0, 1, 20, 1000, 1001} {
			checkGetRefuses(t, a, i, api.ErrArg)
		}
	}
}

func TestD3Depth(t *testing.T) {
	long := chain(1000)
	for i := range 1000 {
		if i <= 11 {
			checkGet(t, long, i, up(i, zero()))
		} else {
			checkGetRefuses(t, long, i, api.ErrLong)
		}
	}
	for n := range 14 { // the deep kid is the first one, or the second one
		left := more(chain(14), api.Node{Kind: api.Max, A: n, B: 0})
		right := more(chain(14), api.Node{Kind: api.Imax, A: 0, B: n})
		if n <= 10 {
			checkGet(t, left, 14, node(api.Max, up(n, zero()), zero()))
			checkGet(t, right, 14, node(api.Imax, zero(), up(n, zero())))
		} else {
			checkGetRefuses(t, left, 14, api.ErrLong)
			checkGetRefuses(t, right, 14, api.ErrLong)
		}
	}
}

// fullNodes is an arena whose node i, if it is at most height, is full(i): few nodes, and very many levels.
func fullNodes(height int) api.Arena {
	a := row([4]int{api.Zero})
	for i := range height {
		a.Nodes = append(a.Nodes, api.Node{Kind: api.Max + (i+1)%2, A: i, B: i})
	}
	return a
}

func TestD3Size(t *testing.T) {
	many := fullNodes(999)
	for i := range 1000 {
		if i <= 5 {
			checkGet(t, many, i, full(i))
		} else {
			checkGetRefuses(t, many, i, api.ErrLong)
		}
	}
	for n := range 8 {
		a := fullNodes(5)
		at := 0
		for range n {
			a = more(a, api.Node{Kind: api.Succ, A: at})
			at = len(a.Nodes) - 1
		}
		a = more(a, api.Node{Kind: api.Imax, A: 4, B: at})
		a = more(a, api.Node{Kind: api.Max, A: 5, B: len(a.Nodes) - 1})
		i := len(a.Nodes) - 1
		if 1+63+1+31+n+1 <= 100 {
			checkGet(t, a, i, node(api.Max, full(5), node(api.Imax, full(4), up(n, zero()))))
		} else {
			checkGetRefuses(t, a, i, api.ErrLong)
		}
	}
}

// someLevels is all levels of at most so much height over two leaves: at height 2 there are 302, and the kids of each are among them.
func someLevels(height int) []api.Level {
	all := []api.Level{leaf(api.Param, 1), leaf(api.Meta, 1)}
	if height == 0 {
		return all
	}
	below := someLevels(height - 1)
	for _, a := range below {
		all = append(all, node(api.Succ, a))
		for _, b := range below {
			all = append(all, node(api.Max, a, b), node(api.Imax, a, b))
		}
	}
	return all
}

// Each order is steps of one length round the list, so that every level is reached once.
func TestD4Indices(t *testing.T) {
	all := someLevels(2)
	for _, step := range []int{1, 5, 77, 153, 301} {
		var a api.Arena
		index := make([]int, len(all))
		for i := range all {
			at := i * step % len(all)
			b, n, e := Put(a, all[at])
			if e != api.OK || !Right(b) || !same(api.Arena{Nodes: b.Nodes[:len(a.Nodes)]}, a) {
				t.Fatalf("Put(%v, %v) = %v, %d", a, all[at], b, e)
			}
			a, index[at] = b, n
		}
		if len(a.Nodes) != len(all) {
			t.Errorf("step %d: %d levels have %d nodes", step, len(all), len(a.Nodes))
		}
		for i, l := range all {
			checkPut(t, a, l, a, index[i])
			checkGet(t, a, index[i], l)
		}
		slices.Sort(index)
		if len(slices.Compact(index)) != len(all) {
			t.Errorf("step %d: two levels have one index", step)
		}
	}
}

func TestD4GetUndoesPut(t *testing.T) {
	base, _ := mixed()
	all := append(someLevels(2), full(5), up(11, zero()), up(11, leaf(api.Meta, 9)), node(api.Max, full(5), node(api.Imax, full(4), up(3, zero()))))
	for _, a := range []api.Arena{{}, base, chain(20)} {
		for _, l := range all {
			b, i, e := Put(a, l)
			if e != api.OK {
				t.Fatalf("Put(%v, %v): %d", a, l, e)
			}
			checkGet(t, b, i, l)
			for k := range a.Nodes { // what was there before is there still
				old, e := Get(a, k)
				if e == api.OK {
					checkGet(t, b, k, old)
				}
			}
		}
	}
}

// Neither the arguments nor the memory beyond their lengths change.
func TestArgumentsStay(t *testing.T) {
	nodes := chain(8).Nodes
	kids := []api.Level{up(2, leaf(api.Param, 0)), leaf(api.Meta, 1), leaf(api.Param, 77)}
	for n := range 9 {
		a := api.Arena{Nodes: nodes[:n]}
		Right(a)
		Put(a, api.Level{Kind: api.Max, Kids: kids[:2]})
		Put(a, api.Level{Kind: api.Max, Kids: kids[:3]})
		Get(a, n-1)
	}
	if !slices.Equal(nodes, chain(8).Nodes) {
		t.Errorf("changed: %v", nodes)
	}
	if !slices.EqualFunc(kids, []api.Level{up(2, leaf(api.Param, 0)), leaf(api.Meta, 1), leaf(api.Param, 77)}, level.Same) {
		t.Errorf("changed: %v", kids)
	}
}

// What is written into the arena that Put returns, with an error or without one, doesn't reach its argument.
func TestPutGivesNewMemory(t *testing.T) {
	for _, l := range []api.Level{zero(), up(3, zero()), leaf(api.Param, 0), leaf(api.Param, 5), up(11, leaf(api.Meta, 0))} {
		for _, count := range []int{2, 4, 1000, 1001} {
			roomy := chain(count + 2).Nodes
			a := api.Arena{Nodes: roomy[:count]}
			b, _, _ := Put(a, l)
			for i := range b.Nodes {
				b.Nodes[i] = api.Node{Kind: 9}
			}
			_ = append(b.Nodes, api.Node{Kind: 9})
			if !slices.Equal(roomy, chain(count+2).Nodes) {
				t.Errorf("Put of %v to %d nodes shares memory", l, count)
			}
		}
	}
}

// The lists of one level share no memory, even if the nodes are shared, nor do those of two answers.
func TestGetGivesNewMemory(t *testing.T) {
	one := up(1, zero())
	a, i, _ := Put(api.Arena{}, node(api.Max, one, one))
	l, _ := Get(a, i)
	_ = append(l.Kids[0].Kids, leaf(api.Param, 3))
	_ = append(l.Kids, leaf(api.Param, 3))
	l.Kids[0].Kids[0] = leaf(api.Param, 3)
	if want := node(api.Max, up(1, leaf(api.Param, 3)), one); !level.Same(l, want) {
		t.Errorf("%v; want %v", l, want)
	}
	checkGet(t, a, i, node(api.Max, one, one))
}
