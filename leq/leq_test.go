package leq

import (
	"iter"
	"slices"
	"strconv"
	"testing"

	"stereobate/api"
	"stereobate/flat"
	"stereobate/level"
)

const (
	minInt = -1 << 63
	maxInt = 1<<63 - 1
)

func leaf(kind, n int) api.Level { return api.Level{Kind: kind, N: n} }

func param(n int) api.Level { return leaf(api.Param, n) }

func node(kind int, kids ...api.Level) api.Level { return api.Level{Kind: kind, Kids: kids} }

func zero() api.Level { return leaf(api.Zero, 0) }

// up puts n Succs around l.
func up(n int, l api.Level) api.Level {
	for range n {
		l = node(api.Succ, l)
	}
	return l
}

// full is a tree of Max and Imax over l with 2^height times l and 2^height - 1 other levels.
func full(height int, l api.Level) api.Level {
	if height == 0 {
		return l
	}
	return node(api.Max+height%2, full(height-1, l), full(height-1, l))
}

// someLevels is all levels of at most so much height over so many parameters.
func someLevels(height, params int) []api.Level {
	all := []api.Level{zero()}
	for n := range params {
		all = append(all, param(n))
	}
	if height == 0 {
		return all
	}
	below := someLevels(height-1, params)
	for _, a := range below {
		all = append(all, node(api.Succ, a))
		for _, b := range below {
			all = append(all, node(api.Max, a, b), node(api.Imax, a, b))
		}
	}
	return all
}

// grid yields all lists of so many numbers from 0 to high.
func grid(count, high int) iter.Seq[[]int] {
	return func(yield func([]int) bool) {
		ns := make([]int, count)
		for {
			if !yield(slices.Clone(ns)) {
				return
			}
			i := 0
			for i < count && ns[i] == high {
				ns[i] = 0
				i++
			}
			if i == count {
				return
			}
			ns[i]++
		}
	}
}

// table is a level with its values at all points of a grid.
type table struct {
	l      api.Level
	values []int
}

func tableOf(t *testing.T, l api.Level, points [][]int) table {
	t.Helper()
	out := table{l: l}
	for _, at := range points {
		v, e := level.Eval(l, at, nil)
		if e != api.OK {
			t.Fatalf("Eval(%v, %v) = %d", l, at, e)
		}
		out.values = append(out.values, v)
	}
	return out
}

// tables is those levels with their values; of levels with the same values only the first one and the last one are kept.
func tables(t *testing.T, ls []api.Level, points [][]int) []table {
	t.Helper()
	first, last := map[string]int{}, map[string]int{}
	for i, l := range ls {
		key := ""
		for _, v := range tableOf(t, l, points).values {
			key += strconv.Itoa(v) + " "
		}
		if _, twice := first[key]; !twice {
			first[key] = i
		}
		last[key] = i
	}
	var out []table
	for key, i := range first {
		out = append(out, tableOf(t, ls[i], points))
		if last[key] != i {
			out = append(out, tableOf(t, ls[last[key]], points))
		}
	}
	return out
}

// atMost compares two levels at each point.
func atMost(a, b table) bool {
	for i, v := range a.values {
		if v > b.values[i] {
			return false
		}
	}
	return true
}

// caseOf is the number of the case in which those values are.
func caseOf(values []int) int {
	n := 0
	for i, v := range values {
		if v == 0 {
			n += 1 << i
		}
	}
	return n
}

// example is G3 word for word. The first case is that of a point at which a is not at most b.
func example(a, b table, points [][]int) []int {
	first := maxInt
	for i, at := range points {
		if a.values[i] > b.values[i] {
			first = min(first, caseOf(at))
		}
	}
	params := len(points[0])
	zero, out := make([]bool, params), make([]int, params)
	for i := range params {
		zero[i] = first&(1<<i) != 0
		if !zero[i] {
			out[i] = 1
		}
	}
	x, _ := flat.Flatten(a.l, zero)
	y, _ := flat.Flatten(b.l, zero)
	for i := range params {
		if x.Offs[i] > y.Offs[i] {
			out[i] = y.Const + 2
			for _, off := range y.Offs {
				out[i] = max(out[i], off+3)
			}
			return out
		}
	}
	return out
}

func flatOf(n int, offs ...int) api.Flat { return api.Flat{Const: n, Offs: offs} }

func sameFlat(a, b api.Flat) bool { return a.Const == b.Const && slices.Equal(a.Offs, b.Offs) }

func sameCases(as, bs []api.Flat) bool { return slices.EqualFunc(as, bs, sameFlat) }

func checkCases(t *testing.T, l api.Level, params int, want ...api.Flat) {
	t.Helper()
	if got, e := Cases(l, params); !sameCases(got, want) || e != api.OK {
		t.Errorf("Cases(%v, %d) = %v, %d; want %v", l, params, got, e, want)
	}
}

func checkLeq(t *testing.T, a, b api.Level, params int) {
	t.Helper()
	if is, values, e := Leq(a, b, params); !is || len(values) != 0 || e != api.OK {
		t.Errorf("Leq(%v, %v, %d) = %v, %v, %d; want true", a, b, params, is, values, e)
	}
}

// checkNot: the values are as many as the parameters.
func checkNot(t *testing.T, a, b api.Level, want ...int) {
	t.Helper()
	if is, values, e := Leq(a, b, len(want)); is || !slices.Equal(values, want) || e != api.OK {
		t.Errorf("Leq(%v, %v, %d) = %v, %v, %d; want %v", a, b, len(want), is, values, e, want)
	}
}

func checkEqual(t *testing.T, a, b api.Level, params int, want bool) {
	t.Helper()
	if is, e := Equal(a, b, params); is != want || e != api.OK {
		t.Errorf("Equal(%v, %v, %d) = %v, %d; want %v", a, b, params, is, e, want)
	}
}

func casesRefused(l api.Level, params int) bool {
	fs, e := Cases(l, params)
	return len(fs) == 0 && e == api.ErrArg
}

func pairRefused(a, b api.Level, params int) bool {
	less, values, e := Leq(a, b, params)
	is, e2 := Equal(a, b, params)
	return !less && len(values) == 0 && e == api.ErrArg && !is && e2 == api.ErrArg
}

// checkRefused: wrong is refused by each call, in each place, and beside itself.
func checkRefused(t *testing.T, wrong, right api.Level, params int) {
	t.Helper()
	if !casesRefused(wrong, params) {
		t.Errorf("Cases(%v, %d) is not ErrArg alone", wrong, params)
	}
	if !pairRefused(wrong, right, params) || !pairRefused(right, wrong, params) || !pairRefused(wrong, wrong, params) {
		t.Errorf("Leq or Equal of %v and %v with %d parameters is not ErrArg alone", wrong, right, params)
	}
}

func TestG1Examples(t *testing.T) {
	l := node(api.Imax, up(1, param(0)), param(1))
	checkCases(t, l, 2, flatOf(0, 1, 0), flatOf(0, -1, 0), flatOf(0, -1, -1), flatOf(0, -1, -1))
	checkCases(t, zero(), 0, flatOf(0))
	checkCases(t, up(11, zero()), 0, flatOf(11))
	checkCases(t, node(api.Max, up(3, zero()), param(0)), 1, flatOf(3, 0), flatOf(3, -1))
	checkCases(t, up(2, param(2)), 3,
		flatOf(0, -1, -1, 2), flatOf(0, -1, -1, 2), flatOf(0, -1, -1, 2), flatOf(0, -1, -1, 2),
		flatOf(2, -1, -1, -1), flatOf(2, -1, -1, -1), flatOf(2, -1, -1, -1), flatOf(2, -1, -1, -1))
}

// The case of a flat is told by what parameters occur: all of them do in the maximum of all, if they aren't 0.
func TestG1Order(t *testing.T) {
	for params := range 6 {
		l := zero()
		for n := range params {
			l = node(api.Max, l, up(n, param(n)))
		}
		got, e := Cases(l, params)
		if len(got) != 1<<params || e != api.OK {
			t.Fatalf("%d parameters: %d cases, %d", params, len(got), e)
		}
		for n, f := range got {
			for i, off := range f.Offs {
				if want := n>>i&1 == 0; want != (off == i) || want == (off == -1) {
					t.Errorf("case %d of %d parameters: %v", n, params, f)
				}
			}
		}
	}
}

func TestG1IsFlatten(t *testing.T) {
	for _, l := range someLevels(2, 2) {
		var want []api.Flat
		for _, zero := range [][]bool{{false, false}, {true, false}, {false, true}, {true, true}} {
			f, _ := flat.Flatten(l, zero)
			want = append(want, f)
		}
		checkCases(t, l, 2, want...)
	}
}

// Whoever ranges over the cases may leave early.
func TestG1CasesStop(t *testing.T) {
	for stop := range 32 {
		seen := 0
		for n, zero := range cases(5) {
			if n != seen || len(zero) != 5 {
				t.Fatalf("case %d: %d, %v", seen, n, zero)
			}
			if seen++; n == stop {
				break
			}
		}
		if seen != stop+1 {
			t.Errorf("%d cases, up to case %d", seen, stop)
		}
	}
}

func TestG1G2G4RefuseLevels(t *testing.T) {
	for _, wrong := range []api.Level{
		{}, leaf(-1, 0), leaf(7, 0), leaf(minInt, 0), leaf(maxInt, 0), leaf(api.Zero, 1), {Kind: api.Succ, N: 1, Kids: []api.Level{zero()}},
		param(-1), param(2), param(minInt), param(maxInt), leaf(api.Meta, 0), leaf(api.Meta, 1), leaf(api.Meta, -1), leaf(api.Meta, 9),
		node(api.Zero, zero()), node(api.Param, zero()), node(api.Succ), node(api.Succ, zero(), zero()),
		node(api.Max, zero()), node(api.Imax, zero(), zero(), zero()), up(12, zero()), full(6, zero()),
	} {
		for _, right := range []api.Level{zero(), param(1), up(11, param(0))} {
			checkRefused(t, wrong, right, 2)
			checkRefused(t, up(2, wrong), right, 2)
			checkRefused(t, node(api.Max, zero(), wrong), right, 2)
			checkRefused(t, node(api.Imax, wrong, zero()), right, 2)
		}
	}
}

func TestG1G2G4RefuseCounts(t *testing.T) {
	for _, params := range []int{-1, -2, -64, minInt, 6, 7, 40, 62, 63, 64, 1 << 31, maxInt} {
		checkRefused(t, zero(), zero(), params)
		checkRefused(t, param(0), zero(), params)
		checkRefused(t, leaf(api.Meta, 0), param(5), params)
	}
	for params := range 6 {
		checkRefused(t, param(params), zero(), params)
		checkRefused(t, leaf(api.Meta, 0), zero(), params)
		checkEqual(t, zero(), zero(), params, true)
		for n := range params {
			checkEqual(t, param(n), param(n), params, true)
		}
	}
}

func TestG1G2G4Limits(t *testing.T) {
	deep := up(11, param(0))
	checkCases(t, deep, 1, flatOf(0, 11), flatOf(11, -1))
	checkLeq(t, deep, deep, 1)
	checkRefused(t, up(1, deep), deep, 1)
	many := func(n int) api.Level { // 63 + 31 + 3 + n levels
		return node(api.Max, full(5, param(4)), node(api.Max, full(4, zero()), up(n, param(0))))
	}
	checkEqual(t, many(3), node(api.Max, param(4), up(3, param(0))), 5, true)
	checkNot(t, many(3), many(2), 5, 1, 1, 1, 1)
	checkRefused(t, many(4), many(3), 5)
}

// Levels that contain themselves are refused, too. They aren't printed, since that would not end.
func TestG1G2G4End(t *testing.T) {
	for _, kind := range []int{api.Succ, api.Max, api.Imax} {
		kids := make([]api.Level, min(kind-api.Succ, 1)+1)
		for i := range kids {
			kids[i] = api.Level{Kind: kind, Kids: kids}
		}
		if l := kids[0]; !casesRefused(l, 1) || !pairRefused(l, zero(), 1) || !pairRefused(zero(), l, 1) || !pairRefused(l, l, 1) {
			t.Errorf("kind %d: not ErrArg alone", kind)
		}
	}
}

func TestG2AtMost(t *testing.T) {
	a, b := param(0), param(1)
	checkLeq(t, zero(), zero(), 0)
	checkLeq(t, up(4, zero()), up(4, zero()), 0)
	checkLeq(t, zero(), a, 1)
	checkLeq(t, a, up(1, a), 1)
	checkLeq(t, a, node(api.Max, b, a), 2)
	checkLeq(t, a, node(api.Imax, b, a), 2)
	checkLeq(t, node(api.Imax, a, b), node(api.Max, a, b), 2)
	checkLeq(t, node(api.Imax, up(3, a), zero()), zero(), 2)
	checkLeq(t, node(api.Imax, a, up(1, b)), node(api.Max, a, up(1, b)), 2)
	checkLeq(t, node(api.Max, a, up(1, b)), node(api.Imax, a, up(1, b)), 2)
	// It depends on the case what is the greatest.
	checkLeq(t, node(api.Imax, up(1, zero()), a), a, 1)
	checkLeq(t, node(api.Imax, up(2, zero()), a), up(1, a), 1)
	checkLeq(t, node(api.Imax, a, node(api.Imax, b, a)), node(api.Max, b, a), 2)
	checkLeq(t, node(api.Imax, node(api.Imax, a, b), a), node(api.Imax, b, a), 2)
}

func TestG3Examples(t *testing.T) {
	a, b := param(0), param(1)
	checkNot(t, a, up(1, zero()), 3)
	checkNot(t, up(1, zero()), zero())
	checkNot(t, up(1, a), a, 3)
	checkNot(t, a, b, 3, 1)
	checkNot(t, b, a, 1, 3)
	checkNot(t, up(2, a), a, 3)
	checkNot(t, up(11, a), up(10, a), 13)
	// The constant and the offsets of the second level, if they are the greatest; the latter of a parameter that is absent, too.
	checkNot(t, a, up(2, zero()), 4)
	checkNot(t, a, up(10, b), 13, 1)
	checkNot(t, a, node(api.Max, up(5, b), up(9, zero())), 11, 1)
	checkNot(t, a, node(api.Max, up(7, b), up(8, zero())), 10, 1)
	checkNot(t, a, zero(), 2)
	checkNot(t, node(api.Max, up(9, a), up(8, b)), zero(), 2, 1)
	// The first parameter, of several.
	checkNot(t, node(api.Max, a, b), zero(), 2, 1)
	checkNot(t, node(api.Max, a, up(4, b)), up(1, a), 1, 4)
	checkNot(t, node(api.Max, node(api.Max, a, up(1, b)), up(2, param(2))), node(api.Max, up(1, a), b), 1, 4, 1)
	// No offset is greater.
	checkNot(t, up(3, zero()), node(api.Max, a, b), 1, 1)
	checkNot(t, node(api.Max, up(7, zero()), up(2, a)), up(3, a), 1)
	checkNot(t, up(3, zero()), up(2, zero()), 1, 1, 1, 1, 1)
}

// The first case does, even if there are others; and a parameter that is 0 in it has the value 0.
func TestG3Cases(t *testing.T) {
	a, b, c := param(0), param(1), param(2)
	checkNot(t, up(1, zero()), a, 0)
	checkNot(t, up(2, zero()), up(1, a), 0)
	checkNot(t, up(1, zero()), b, 1, 0)
	checkNot(t, up(1, zero()), node(api.Max, a, b), 0, 0)
	checkNot(t, up(1, zero()), node(api.Imax, a, b), 1, 0)
	checkNot(t, a, node(api.Imax, a, b), 2, 0)
	checkNot(t, a, node(api.Imax, up(3, a), b), 2, 0)
	checkNot(t, b, node(api.Imax, b, a), 0, 2)
	checkNot(t, c, node(api.Imax, c, b), 1, 0, 2)
	checkNot(t, c, node(api.Imax, node(api.Imax, c, b), a), 0, 1, 2)
	checkNot(t, up(1, node(api.Max, a, c)), node(api.Max, up(2, node(api.Imax, c, b)), up(3, a)), 1, 0, 6)
	checkNot(t, c, node(api.Max, node(api.Imax, c, a), node(api.Imax, c, b)), 0, 0, 2)
	checkNot(t, node(api.Imax, up(1, zero()), param(4)), node(api.Max, node(api.Imax, param(4), a), param(3)), 0, 1, 1, 1, 3)
}

// comparePairs holds G2 to G5 against the values of the levels, which go beyond all constants, so that each offset decides
// somewhere.
func comparePairs(t *testing.T, as, bs []table, points [][]int) {
	t.Helper()
	params := len(points[0])
	for _, a := range as {
		for _, b := range bs {
			less, more := atMost(a, b), atMost(b, a)
			checkEqual(t, a.l, b.l, params, less && more)
			xs, _ := Cases(a.l, params)
			ys, _ := Cases(b.l, params)
			if sameCases(xs, ys) != (less && more) {
				t.Errorf("%v and %v: their Cases are %v and %v", a.l, b.l, xs, ys)
			}
			if less {
				checkLeq(t, a.l, b.l, params)
				continue
			}
			want := example(a, b, points)
			checkNot(t, a.l, b.l, want...)
			checkGreater(t, a.l, b.l, want)
		}
	}
}

func checkGreater(t *testing.T, a, b api.Level, values []int) {
	t.Helper()
	x, e := level.Eval(a, values, nil)
	y, e2 := level.Eval(b, values, nil)
	if x <= y || e != api.OK || e2 != api.OK {
		t.Errorf("%v is %d (%d) and %v is %d (%d) for %v", a, x, e, b, y, e2, values)
	}
}

func TestG5AllSmallLevels(t *testing.T) {
	for params := range 3 {
		points := slices.Collect(grid(params, 7))
		all := tables(t, someLevels(2, params), points)
		comparePairs(t, all, all, points)
	}
}

func TestG5ThreeParameters(t *testing.T) {
	points := slices.Collect(grid(3, 5))
	all := tables(t, someLevels(1, 3), points)
	comparePairs(t, all, all, points)
}

func TestG5GreatLevels(t *testing.T) {
	var all []table
	points := slices.Collect(grid(5, 4))
	for turn := range 5 {
		l := param(turn)
		for n := range 4 {
			l = node(api.Max+(n+turn)%2, node(api.Imax, param((n*3+turn)%5), up(n%2, zero())), node(api.Imax, up(1, param((n+1)%5)), l))
		}
		all = append(all, tableOf(t, l, points), tableOf(t, node(api.Imax, l, param((turn+2)%5)), points))
	}
	comparePairs(t, all, all, points)
}

// Results are new memory, none of which they share with each other. Memory beyond the length of a slice is to stay as it is.
func TestArgumentsStay(t *testing.T) {
	build := func() api.Level {
		room := []api.Level{up(2, param(0)), node(api.Max, param(1), up(1, param(0))), param(1)}
		return node(api.Imax, room[:2]...)
	}
	l, copied := build(), build()
	got, _ := Cases(l, 2)
	want, _ := Cases(l, 2)
	for i := range got {
		for j := range got[i].Offs {
			got[i].Offs[j] = 77
		}
		got[i] = api.Flat{Const: 77}
		if !sameCases(got[i+1:], want[i+1:]) {
			t.Fatalf("Cases shares memory: %v", got)
		}
	}
	_, values, _ := Leq(l, up(1, param(1)), 2)
	for i := range values {
		values[i] = 77
	}
	Equal(l, param(1), 2)
	if !level.Same(l, copied) || !level.Same(l.Kids[:3][2], param(1)) {
		t.Errorf("changed: %v", l)
	}
	checkCases(t, l, 2, want...)
	checkNot(t, l, up(1, param(1)), 4, 1)
}
