package flat

import (
	"iter"
	"slices"
	"testing"

	"stereobate/api"
	"stereobate/level"
)

const (
	minInt = -1 << 63
	maxInt = 1<<63 - 1
)

func leaf(kind, n int) api.Level { return api.Level{Kind: kind, N: n} }

func param(n int) api.Level { return leaf(api.Param, n) }

func node(kind int, kids ...api.Level) api.Level { return api.Level{Kind: kind, Kids: kids} }

func zero() api.Level { return leaf(api.Zero, 0) }

// up puts n Succs around l.
func up(n int, l api.Level) api.Level {
	for range n {
		l = node(api.Succ, l)
	}
	return l
}

// full is a tree of Max and Imax over l with 2^height times l and 2^height - 1 other levels.
func full(height int, l api.Level) api.Level {
	if height == 0 {
		return l
	}
	return node(api.Max+height%2, full(height-1, l), full(height-1, l))
}

// someLevels is all levels of at most so much height over two parameters.
func someLevels(height int) []api.Level {
	all := []api.Level{zero(), param(0), param(1)}
	if height == 0 {
		return all
	}
	below := someLevels(height - 1)
	for _, a := range below {
		all = append(all, node(api.Succ, a))
		for _, b := range below {
			all = append(all, node(api.Max, a, b), node(api.Imax, a, b))
		}
	}
	return all
}

// cases is all cases of so many parameters.
func cases(params int) [][]bool {
	var all [][]bool
	for bits := range 1 << params {
		c := make([]bool, params)
		for i := range c {
			c[i] = bits>>i&1 == 1
		}
		all = append(all, c)
	}
	return all
}

// grid yields all lists of so many numbers from low to high.
func grid(count, low, high int) iter.Seq[[]int] {
	return func(yield func([]int) bool) {
		ns := slices.Repeat([]int{low}, count)
		for {
			if !yield(slices.Clone(ns)) {
				return
			}
			i := 0
			for i < count && ns[i] == high {
				ns[i] = low
				i++
			}
			if i == count {
				return
			}
			ns[i]++
		}
	}
}

// inCase is values with 0 for the parameters that are 0 in the case.
func inCase(values []int, c []bool) []int {
	out := slices.Clone(values)
	for i := range out {
		if c[i] {
			out[i] = 0
		}
	}
	return out
}

func flatOf(n int, offs ...int) api.Flat { return api.Flat{Const: n, Offs: offs} }

func same(a, b api.Flat) bool { return a.Const == b.Const && slices.Equal(a.Offs, b.Offs) }

// validFlats is all valid flats with so many Offs, each at most high, and Const at most high + 3.
func validFlats(count, high int) []api.Flat {
	var all []api.Flat
	for offs := range grid(count, -1, high) {
		for n := range high + 4 {
			if f := flatOf(n, offs...); spelt(f) {
				all = append(all, f)
			}
		}
	}
	return all
}

// spelt is F1 word for word. It shares no step with Right.
func spelt(f api.Flat) bool {
	some, greater := false, true
	for _, off := range f.Offs {
		if off < -1 || off > 1000 {
			return false
		}
		some = some || off >= 0
		greater = greater && f.Const > off+1
	}
	return len(f.Offs) <= 5 && f.Const >= 0 && f.Const <= 1000 && (!some || f.Const == 0 || greater)
}

// wrongFlats is flats that aren't valid, each for one reason.
func wrongFlats() []api.Flat {
	return []api.Flat{
		flatOf(-1), flatOf(1001), flatOf(minInt), flatOf(maxInt), flatOf(-1, -1), flatOf(1001, -1), flatOf(-1, 0), flatOf(1001, 0),
		flatOf(0, -2), flatOf(0, 1001), flatOf(0, minInt), flatOf(0, maxInt), flatOf(5, 0, -2), flatOf(5, 0, maxInt), flatOf(1000, 1001),
		flatOf(0, 0, 0, 0, 0, -2), flatOf(0, -2, 0, 0, 0, 0), flatOf(0, -1, -1, -1, -1, 1001),
		flatOf(1, 0), flatOf(4, 3), flatOf(3, 3), flatOf(1000, 999), flatOf(1000, 1000), flatOf(4, 0, 3), flatOf(4, 3, 0), flatOf(1, -1, 0), flatOf(5, 0, 1, 2, 3, 4),
		flatOf(0, 0, 0, 0, 0, 0, 0), flatOf(0, -1, -1, -1, -1, -1, -1), {Offs: make([]int, 1<<16)},
	}
}

func TestF1Edges(t *testing.T) {
	for _, f := range []api.Flat{
		{}, {Offs: []int{}}, flatOf(1), flatOf(1000), flatOf(0, -1), flatOf(1, -1), flatOf(1000, -1), flatOf(0, 0), flatOf(0, 1000), flatOf(1000, 998),
		flatOf(2, 0), flatOf(5, 3), flatOf(5, 3, -1, 0), flatOf(0, 1000, -1, 1000), flatOf(0, -1, -1, -1, -1, -1), flatOf(1, -1, -1, -1, -1, -1), flatOf(6, 0, 1, 2, 3, 4),
	} {
		if !Right(f) {
			t.Errorf("Right(%v) is false", f)
		}
	}
	for _, f := range wrongFlats() {
		if Right(f) {
			t.Errorf("Right(%v) is true", f)
		}
	}
}

func TestF1AllSmallFlats(t *testing.T) {
	for count := range 4 {
		for offs := range grid(count, -2, 4) {
			for n := -2; n < 9; n++ {
				if f := flatOf(n, offs...); Right(f) != spelt(f) {
					t.Errorf("Right(%v) = %v", f, Right(f))
				}
			}
		}
	}
}

func checkFlatten(t *testing.T, l api.Level, c []bool, want api.Flat) {
	t.Helper()
	if got, e := Flatten(l, c); !same(got, want) || e != api.OK {
		t.Errorf("Flatten(%v, %v) = %v, %d; want %v", l, c, got, e, want)
	}
}

func TestF2Example(t *testing.T) {
	l := node(api.Imax, up(1, param(0)), param(1))
	checkFlatten(t, l, []bool{false, true}, flatOf(0, -1, -1))
	checkFlatten(t, l, []bool{true, true}, flatOf(0, -1, -1))
	checkFlatten(t, l, []bool{false, false}, flatOf(0, 1, 0))
	checkFlatten(t, l, []bool{true, false}, flatOf(0, -1, 0))
}

func TestF2Kinds(t *testing.T) {
	some, none := []bool{false, false}, []bool{true, true}
	a, b := up(2, param(0)), up(1, param(1))
	checkFlatten(t, zero(), nil, api.Flat{})
	checkFlatten(t, zero(), some, flatOf(0, -1, -1))
	checkFlatten(t, param(1), some, flatOf(0, -1, 0))
	checkFlatten(t, param(1), none, flatOf(0, -1, -1))
	checkFlatten(t, a, some, flatOf(0, 2, -1))
	checkFlatten(t, a, none, flatOf(2, -1, -1))
	checkFlatten(t, node(api.Max, a, b), some, flatOf(0, 2, 1))
	checkFlatten(t, node(api.Max, a, b), none, flatOf(2, -1, -1))
	checkFlatten(t, node(api.Imax, a, zero()), some, flatOf(0, -1, -1))
	checkFlatten(t, node(api.Imax, zero(), a), some, flatOf(0, 2, -1))
	checkFlatten(t, node(api.Imax, a, b), none, flatOf(2, -1, -1))
	checkFlatten(t, node(api.Imax, a, param(1)), none, flatOf(0, -1, -1))
	checkFlatten(t, node(api.Imax, a, node(api.Imax, b, param(1))), []bool{false, true}, flatOf(0, -1, -1))
	checkFlatten(t, node(api.Imax, a, node(api.Imax, param(1), b)), []bool{false, true}, flatOf(0, 2, -1))
	checkFlatten(t, node(api.Imax, up(1, zero()), node(api.Max, param(0), param(1))), []bool{true, false}, flatOf(0, -1, 0))
}

// A constant that the parameters reach in any case is left out, and one that they need not reach stays.
func TestF2Constants(t *testing.T) {
	for n := range 11 {
		for off := range 11 {
			kept := 0
			if n > off+1 {
				kept = n
			}
			constant, offset := up(n, zero()), up(off, param(0))
			checkFlatten(t, node(api.Max, constant, offset), []bool{false}, flatOf(kept, off))
			checkFlatten(t, node(api.Max, offset, constant), []bool{false}, flatOf(kept, off))
			checkFlatten(t, node(api.Max, offset, constant), []bool{true}, flatOf(max(n, off), -1))
			checkFlatten(t, node(api.Imax, constant, offset), []bool{false, true}, flatOf(kept, off, -1))
		}
	}
	checkFlatten(t, up(3, node(api.Max, up(4, zero()), up(1, param(0)))), []bool{false}, flatOf(7, 4))
	checkFlatten(t, node(api.Max, up(6, param(1)), up(3, node(api.Max, up(4, zero()), up(1, param(0))))), []bool{false, false}, flatOf(0, 4, 6))
	checkFlatten(t, node(api.Max, up(5, param(1)), up(3, node(api.Max, up(4, zero()), up(1, param(0))))), []bool{false, false}, flatOf(7, 4, 5))
}

func TestF2ParameterCounts(t *testing.T) {
	for params := range 6 {
		l, offs := up(3, zero()), slices.Repeat([]int{-1}, params)
		for _, c := range cases(params) {
			checkFlatten(t, l, c, flatOf(3, offs...))
		}
		for n := range params {
			want := slices.Clone(offs)
			want[n] = 2
			checkFlatten(t, up(2, param(n)), make([]bool, params), flatOf(0, want...))
		}
	}
}

// checkCase compares the flat of l in a case with l itself, for all values from 1 to high.
func checkCase(t *testing.T, l api.Level, c []bool, high int) {
	t.Helper()
	f, e := Flatten(l, c)
	if e != api.OK || !spelt(f) || len(f.Offs) != len(c) {
		t.Fatalf("Flatten(%v, %v) = %v, %d", l, c, f, e)
	}
	for i, off := range f.Offs {
		if c[i] && off != -1 {
			t.Fatalf("Flatten(%v, %v) = %v, in which %d occurs", l, c, f, i)
		}
	}
	for values := range grid(len(c), 1, high) {
		values = inCase(values, c)
		want, _ := level.Eval(l, values, nil)
		if got, e := Value(f, values); got != want || e != api.OK {
			t.Fatalf("Value(Flatten(%v, %v), %v) = %d, %d; want %d", l, c, values, got, e, want)
		}
	}
}

func TestF2AllSmallLevels(t *testing.T) {
	for _, l := range someLevels(2) {
		for _, c := range cases(2) {
			checkCase(t, l, c, 6)
		}
	}
}

func TestF2GreatLevels(t *testing.T) {
	mixed := param(0)
	for n := range 5 {
		mixed = node(api.Max+n%2, up(n, param((n*3+1)%5)), node(api.Imax, up(n+1, zero()), mixed))
	}
	for _, l := range []api.Level{mixed, node(api.Imax, up(3, param(2)), node(api.Imax, param(4), node(api.Imax, param(1), param(3)))), full(4, up(1, param(3)))} {
		for _, c := range cases(5) {
			checkCase(t, l, c, 3)
		}
	}
}

func TestF2Limits(t *testing.T) {
	checkFlatten(t, up(11, zero()), []bool{false}, flatOf(11, -1))
	checkFlatten(t, up(11, param(0)), []bool{false}, flatOf(0, 11))
	checkFlatten(t, node(api.Max, up(10, param(1)), zero()), make([]bool, 5), flatOf(0, -1, 10, -1, -1, -1))
	checkFlattenRefuses(t, up(12, param(0)), []bool{false})
	checkFlattenRefuses(t, node(api.Max, up(11, param(1)), zero()), make([]bool, 5))
	many := func(n int) api.Level { // 63 + 31 + 3 + n levels
		return node(api.Max, full(5, param(4)), node(api.Max, full(4, zero()), up(n, param(0))))
	}
	checkFlatten(t, many(3), make([]bool, 5), flatOf(0, 3, -1, -1, -1, 0))
	checkFlattenRefuses(t, many(4), make([]bool, 5))
}

func checkFlattenRefuses(t *testing.T, l api.Level, c []bool) {
	t.Helper()
	if f, e := Flatten(l, c); f.Const != 0 || len(f.Offs) != 0 || e != api.ErrArg {
		t.Errorf("Flatten(%v, %v) = %v, %d; want ErrArg alone", l, c, f, e)
	}
}

func TestF2RefusesLevels(t *testing.T) {
	for _, wrong := range []api.Level{
		{}, leaf(-1, 0), leaf(7, 0), leaf(minInt, 0), leaf(maxInt, 0), leaf(api.Zero, 1), {Kind: api.Succ, N: 1, Kids: []api.Level{zero()}},
		param(-1), param(2), param(minInt), param(maxInt), leaf(api.Meta, 0), leaf(api.Meta, 1), leaf(api.Meta, -1), leaf(api.Meta, 9),
		node(api.Zero, zero()), node(api.Param, zero()), node(api.Succ), node(api.Succ, zero(), zero()),
		node(api.Max, zero()), node(api.Imax, zero(), zero(), zero()), up(12, zero()), full(6, zero()),
	} {
		for _, c := range cases(2) {
			checkFlattenRefuses(t, wrong, c)
			checkFlattenRefuses(t, up(2, wrong), c)
			checkFlattenRefuses(t, node(api.Max, zero(), wrong), c)
			checkFlattenRefuses(t, node(api.Imax, wrong, zero()), c)
		}
	}
}

func TestF2RefusesCounts(t *testing.T) {
	for params := range 8 {
		c := make([]bool, params)
		for n := range 8 {
			if n >= params || params > 5 {
				checkFlattenRefuses(t, param(n), c)
			}
		}
		if params > 5 {
			checkFlattenRefuses(t, zero(), c)
		}
	}
	checkFlattenRefuses(t, zero(), make([]bool, 1<<16))
}

// Levels that contain themselves are refused, too. They aren't printed, since that would not end.
func TestF2Ends(t *testing.T) {
	for _, kind := range []int{api.Succ, api.Max, api.Imax} {
		kids := make([]api.Level, min(kind-api.Succ, 1)+1)
		for i := range kids {
			kids[i] = api.Level{Kind: kind, Kids: kids}
		}
		if f, e := Flatten(kids[0], []bool{false}); f.Const != 0 || len(f.Offs) != 0 || e != api.ErrArg {
			t.Errorf("kind %d: %v, %d; want ErrArg alone", kind, f, e)
		}
	}
}

func checkValue(t *testing.T, f api.Flat, params []int, want int) {
	t.Helper()
	if got, e := Value(f, params); got != want || e != api.OK {
		t.Errorf("Value(%v, %v) = %d, %d; want %d", f, params, got, e, want)
	}
}

func checkValueRefuses(t *testing.T, f api.Flat, params []int) {
	t.Helper()
	if got, e := Value(f, params); got != 0 || e != api.ErrArg {
		t.Errorf("Value(%v, %v) = %d, %d; want ErrArg alone", f, params, got, e)
	}
}

func TestF3Values(t *testing.T) {
	checkValue(t, api.Flat{}, nil, 0)
	checkValue(t, flatOf(7), nil, 7)
	checkValue(t, flatOf(0, -1), []int{9}, 0)
	checkValue(t, flatOf(3, -1), []int{9}, 3)
	checkValue(t, flatOf(0, 0), []int{0}, 0)
	checkValue(t, flatOf(0, 0), []int{9}, 9)
	checkValue(t, flatOf(0, 4), []int{0}, 4)
	checkValue(t, flatOf(6, 4), []int{0}, 6)
	checkValue(t, flatOf(6, 4), []int{2}, 6)
	checkValue(t, flatOf(6, 4), []int{3}, 7)
	checkValue(t, flatOf(0, 1, -1, 2), []int{5, 99, 3}, 6)
	checkValue(t, flatOf(0, 1, -1, 2), []int{5, 99, 5}, 7)
	checkValue(t, flatOf(0, 0, 0, 0, 0, 0), []int{1, 2, 3, 2, 1}, 3)
	checkValue(t, flatOf(0, 1000), []int{1 << 40}, 1<<40+1000)
	checkValue(t, flatOf(1000, -1), []int{1 << 40}, 1000)
}

func TestF3Refuses(t *testing.T) {
	for _, wrong := range wrongFlats() {
		checkValueRefuses(t, wrong, make([]int, len(wrong.Offs)))
		checkValueRefuses(t, wrong, slices.Repeat([]int{1}, len(wrong.Offs)))
	}
	for offs := range 6 {
		for params := range 8 {
			if offs != params {
				checkValueRefuses(t, flatOf(0, make([]int, offs)...), make([]int, params))
			}
		}
		for n := range offs {
			for _, bad := range []int{-1, 1<<40 + 1, minInt, maxInt} {
				params := slices.Repeat([]int{1}, offs)
				params[n] = bad
				checkValueRefuses(t, flatOf(0, make([]int, offs)...), params)
				checkValueRefuses(t, flatOf(0, slices.Repeat([]int{-1}, offs)...), params)
			}
		}
	}
}

func checkLeq(t *testing.T, a, b api.Flat, want bool) {
	t.Helper()
	if got := Leq(a, b); got != want {
		t.Errorf("Leq(%v, %v) = %v", a, b, got)
	}
}

func TestF4Edges(t *testing.T) {
	checkLeq(t, api.Flat{}, api.Flat{}, true)
	checkLeq(t, flatOf(1), flatOf(0), false)
	checkLeq(t, flatOf(1, -1), flatOf(0, 0), true)
	checkLeq(t, flatOf(2, -1), flatOf(0, 0), false)
	checkLeq(t, flatOf(0, 0), flatOf(1000, -1), false)
	checkLeq(t, flatOf(0, 0), flatOf(2, 0), true)
	checkLeq(t, flatOf(2, 0), flatOf(0, 0), false)
	checkLeq(t, flatOf(2, 0), flatOf(0, 1), true)
	checkLeq(t, flatOf(0, 1000, 1000, 1000, 1000, 1000), flatOf(0, 1000, 1000, 1000, 1000, 999), false)
	checkLeq(t, flatOf(0, 1000, 1000, 1000, 1000, 1000), flatOf(0, 1000, 1000, 1000, 1000, 1000), true)
	checkLeq(t, flatOf(0, 0, -1), flatOf(0, -1, 1000), false)
	checkLeq(t, flatOf(9, 0, 3), flatOf(0, 8, 3), true)
	checkLeq(t, flatOf(1000, -1), flatOf(0, 999), true)
	checkLeq(t, flatOf(1000, -1), flatOf(0, 998), false)
}

func TestF4Refuses(t *testing.T) {
	for _, wrong := range wrongFlats() {
		low, high := slices.Repeat([]int{-1}, len(wrong.Offs)), slices.Repeat([]int{1000}, len(wrong.Offs))
		checkLeq(t, flatOf(0, low...), wrong, false)
		checkLeq(t, wrong, flatOf(0, high...), false)
		checkLeq(t, wrong, wrong, false)
	}
	for a := range 6 {
		for b := range 6 {
			low, high := slices.Repeat([]int{-1}, a), slices.Repeat([]int{1000}, b)
			checkLeq(t, flatOf(0, low...), flatOf(0, high...), a == b)
		}
	}
}

// The values go beyond all constants, so that each offset decides somewhere.
func TestF4AllSmallFlats(t *testing.T) {
	for count, high := range []int{6, 4, 2} {
		flats := validFlats(count, high)
		for _, a := range flats {
			for _, b := range flats {
				want := true
				for values := range grid(count, 1, 2*high+5) {
					x, _ := Value(a, values)
					y, _ := Value(b, values)
					want = want && x <= y
				}
				checkLeq(t, a, b, want)
			}
		}
	}
}

// Two levels have the same flat in a case if and only if they have the same values there: the flat is the only one.
func TestF5OneFlatForEachValue(t *testing.T) {
	for _, c := range cases(2) {
		flats, values := map[string]api.Flat{}, map[string]string{}
		for _, l := range someLevels(2) {
			f, _ := Flatten(l, c)
			key := ""
			for at := range grid(2, 1, 7) {
				n, _ := level.Eval(l, inCase(at, c), nil)
				key += string(rune('0' + n))
			}
			if g, twice := flats[key]; twice && !same(f, g) {
				t.Errorf("%v in %v: %v and %v have the same values", l, c, f, g)
			}
			name := string(rune('0'+f.Const)) + string(rune('1'+f.Offs[0])) + string(rune('1'+f.Offs[1]))
			if other, twice := values[name]; twice && other != key {
				t.Errorf("%v in %v: %v has values of two kinds", l, c, f)
			}
			flats[key], values[name] = f, key
		}
	}
}

func TestF5EqualFlats(t *testing.T) {
	for count := range 4 {
		flats := validFlats(count, 2)
		for _, a := range flats {
			for _, b := range flats {
				if (Leq(a, b) && Leq(b, a)) != same(a, b) {
					t.Errorf("%v and %v: Leq is %v and %v", a, b, Leq(a, b), Leq(b, a))
				}
			}
		}
	}
}

// Memory beyond the length of a slice is to stay as it is, too.
func TestArgumentsStay(t *testing.T) {
	room, offs, params := []bool{false, true, true}, []int{0, 3, 8}, []int{4, 1, -9}
	l := node(api.Imax, up(2, param(0)), node(api.Max, param(1), up(1, param(0))))
	copied := node(api.Imax, up(2, param(0)), node(api.Max, param(1), up(1, param(0))))
	f, _ := Flatten(l, room[:2])
	Value(api.Flat{Offs: offs[:2]}, params[:2])
	Leq(api.Flat{Offs: offs[:2]}, api.Flat{Offs: offs[1:]})
	for i := range f.Offs {
		f.Offs[i] = 77
	}
	if !slices.Equal(room, []bool{false, true, true}) || !slices.Equal(offs, []int{0, 3, 8}) || !slices.Equal(params, []int{4, 1, -9}) || !level.Same(l, copied) {
		t.Errorf("changed: %v, %v, %v, %v", room, offs, params, l)
	}
	checkFlatten(t, l, room[:2], flatOf(0, 2, -1))
}
