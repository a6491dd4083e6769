package lcode

import (
	"slices"
	"strings"
	"testing"

	"stereobate/api"
	"stereobate/level"
)

const (
	minInt = -1 << 63
	maxInt = 1<<63 - 1
)

func leaf(kind, n int) api.Level { return api.Level{Kind: kind, N: n} }

func node(kind int, kids ...api.Level) api.Level { return api.Level{Kind: kind, Kids: kids} }

func zero() api.Level { return leaf(api.Zero, 0) }

// up puts n Succs around l.
func up(n int, l api.Level) api.Level {
	for range n {
		l = node(api.Succ, l)
	}
	return l
}

// full is a tree of Max and Imax with 2^(height+1) - 1 levels.
func full(height int) api.Level {
	if height == 0 {
		return zero()
	}
	return node(api.Max+height%2, full(height-1), full(height-1))
}

// fullText is the encoding of full, written out by hand.
func fullText(height int) string {
	if height == 0 {
		return "\x01"
	}
	head := "\x03"
	if height%2 == 1 {
		head = "\x04"
	}
	return head + fullText(height-1) + fullText(height-1)
}

// sized is a level of so many levels, 97 or more, and its encoding.
func sized(count int) (api.Level, string) {
	n := count - (1 + 63 + 1 + 31 + 1)
	l := node(api.Max, full(5), node(api.Imax, full(4), up(n, zero())))
	return l, "\x03" + fullText(5) + "\x04" + fullText(4) + strings.Repeat("\x02", n) + "\x01"
}

func checkPut(t *testing.T, l api.Level, want string) {
	t.Helper()
	if s, e := Put(l); s != want || e != api.OK {
		t.Errorf("Put(%v) = %q, %d; want %q", l, s, e, want)
	}
}

func checkPutRefuses(t *testing.T, l api.Level) {
	t.Helper()
	if s, e := Put(l); s != "" || e != api.ErrArg {
		t.Errorf("Put(%v) = %q, %d; want ErrArg", l, s, e)
	}
}

func checkGet(t *testing.T, s string, at int, want api.Level, next int) {
	t.Helper()
	if l, end, e := Get(s, at); !level.Same(l, want) || end != next || e != api.OK {
		t.Errorf("Get(%q, %d) = %v, %d, %d; want %v, %d", s, at, l, end, e, want, next)
	}
}

func checkGetRefuses(t *testing.T, s string, at int, want api.Errno) {
	t.Helper()
	if l, end, e := Get(s, at); !level.Same(l, api.Level{}) || end != 0 || e != want {
		t.Errorf("Get(%q, %d) = %v, %d, %d; want %d alone", s, at, l, end, e, want)
	}
}

// written is levels of all kinds, with their encodings.
func written() map[string]api.Level {
	u, m := leaf(api.Param, 2), leaf(api.Meta, 7)
	all := map[string]api.Level{
		"\x01":                              zero(),
		"\x02\x01":                          up(1, zero()),
		"\x02\x05\x03":                      up(1, leaf(api.Param, 3)), // the chapter's example
		"\x03\x05\x02\x06\x07":              node(api.Max, u, m),
		"\x03\x06\x07\x05\x02":              node(api.Max, m, u),
		"\x04\x05\x02\x06\x07":              node(api.Imax, u, m),
		"\x04\x06\x07\x05\x02":              node(api.Imax, m, u),
		"\x03\x03\x01\x05\x02\x06\x07":      node(api.Max, node(api.Max, zero(), u), m),
		"\x03\x01\x03\x05\x02\x06\x07":      node(api.Max, zero(), node(api.Max, u, m)),
		"\x04\x02\x02\x01\x03\x01\x02\x01":  node(api.Imax, up(2, zero()), node(api.Max, zero(), up(1, zero()))),
		strings.Repeat("\x02", 11) + "\x01": up(11, zero()),
		fullText(5):                         full(5),
	}
	for n := range 5 {
		all["\x05"+string([]byte{byte(n)})] = leaf(api.Param, n)
	}
	for n := range 10 {
		all["\x06"+string([]byte{byte(n)})] = leaf(api.Meta, n)
	}
	for count := 97; count <= 100; count++ {
		l, s := sized(count)
		all[s] = l
	}
	return all
}

func TestC1PutEncodes(t *testing.T) {
	for s, l := range written() {
		checkPut(t, l, s)
	}
	checkPut(t, api.Level{Kind: api.Zero, Kids: []api.Level{}}, "\x01")
}

// wrong is levels that aren't valid, each for one reason.
func wrong() []api.Level {
	all := []api.Level{
		{}, leaf(-1, 0), leaf(7, 0), leaf(minInt, 0), leaf(maxInt, 0),
		leaf(api.Param, -1), leaf(api.Param, 5), leaf(api.Meta, -1), leaf(api.Meta, 10), leaf(api.Param, maxInt), leaf(api.Meta, minInt),
		leaf(api.Zero, 1), {Kind: api.Succ, N: 1, Kids: []api.Level{zero()}}, {Kind: api.Max, N: -1, Kids: []api.Level{zero(), zero()}},
		node(api.Zero, zero()), node(api.Param, zero()), node(api.Meta, zero()), node(api.Succ), node(api.Succ, zero(), zero()),
		node(api.Max), node(api.Max, zero()), node(api.Imax, zero()), node(api.Imax, zero(), zero(), zero()),
		up(12, zero()), full(6),
	}
	over, _ := sized(101)
	return append(all, over)
}

func TestC1PutRefuses(t *testing.T) {
	for _, l := range wrong() {
		checkPutRefuses(t, l)
		checkPutRefuses(t, up(1, l))
		checkPutRefuses(t, node(api.Max, l, zero()))
		checkPutRefuses(t, node(api.Imax, zero(), l))
	}
}

// A level that contains itself is refused, too. It isn't printed, since that would not end.
func TestC1PutEnds(t *testing.T) {
	for _, kind := range []int{api.Succ, api.Max, api.Imax} {
		kids := make([]api.Level, min(kind-api.Succ, 1)+1)
		for i := range kids {
			kids[i] = api.Level{Kind: kind, Kids: kids}
		}
		if s, e := Put(kids[0]); s != "" || e != api.ErrArg {
			t.Errorf("Put: %q, %d; want ErrArg", s, e)
		}
	}
}

func TestC2GetReads(t *testing.T) {
	for s, l := range written() {
		checkGet(t, s, 0, l, len(s))
		checkGet(t, "\xff\x00"+s, 2, l, 2+len(s))
	}
	checkGet(t, "\x02\x05\x03", 1, leaf(api.Param, 3), 3)
	checkGet(t, "\x06\x03\x01\x01", 1, node(api.Max, zero(), zero()), 4)
}

func TestC2GetRefusesPlaces(t *testing.T) {
	for _, at := range []int{minInt, -2, -1, 4, 5, maxInt} {
		checkGetRefuses(t, "\x01\x01\x01", at, api.ErrArg)
	}
	checkGetRefuses(t, "", -1, api.ErrArg)
	checkGetRefuses(t, "", 1, api.ErrArg)
}

func TestC2GetMissesBytes(t *testing.T) {
	checkGetRefuses(t, "", 0, api.ErrEnd)
	checkGetRefuses(t, "\x01", 1, api.ErrEnd)
	for s := range written() {
		for n := range len(s) {
			checkGetRefuses(t, s[:n], 0, api.ErrEnd)
			checkGetRefuses(t, "\x01"+s[:n], 1, api.ErrEnd)
		}
	}
	for _, s := range []string{"\x80", "\xff\xff\xff\xff\xff\xff", "\x05\x80", "\x06\x81\x82", "\x02\x83", "\x03\x01\xff"} {
		checkGetRefuses(t, s, 0, api.ErrEnd)
	}
}

func TestC2GetRefusesKinds(t *testing.T) {
	for _, kind := range []string{
		"\x00", "\x07", "\x08", "\x7f", "\x80\x01", "\x81\x01", "\x86\x02", "\x80\x80\x80\x80\x80\x20", // numbers, but of no kind
		"\x81\x00", "\x80\x80\x00", "\x81\x80\x80\x80\x80\x20", "\x80\x80\x80\x80\x80\x80\x01", // no numbers
	} {
		for _, rest := range []string{"", "\x01\x01"} {
			checkGetRefuses(t, kind+rest, 0, api.ErrByte)
			checkGetRefuses(t, "\x01\x01"+kind+rest, 2, api.ErrByte)
			checkGetRefuses(t, strings.Repeat("\x02", 11)+kind+rest, 0, api.ErrByte)
			checkGetRefuses(t, "\x03"+kind+rest, 0, api.ErrByte)
			checkGetRefuses(t, "\x04\x01"+kind+rest, 0, api.ErrByte)
		}
	}
}

func TestC2GetRefusesNumbers(t *testing.T) {
	for _, n := range []string{"\x0a", "\x0b", "\x7f", "\x80\x01", "\x85\x01", "\x80\x80\x80\x80\x80\x20", "\x81\x00", "\xff\xff\xff\xff\xff\x7f", "\x80\x80\x80\x80\x80\x80\x00"} {
		for _, kind := range []string{"\x05", "\x06"} {
			checkGetRefuses(t, kind+n, 0, api.ErrByte)
			checkGetRefuses(t, strings.Repeat("\x02", 11)+kind+n, 0, api.ErrByte)
			checkGetRefuses(t, "\x04\x05\x04"+kind+n+"\x01", 0, api.ErrByte)
		}
	}
	for n := byte(5); n < 10; n++ {
		checkGetRefuses(t, string([]byte{5, n}), 0, api.ErrByte)
		checkGet(t, string([]byte{6, n}), 0, leaf(api.Meta, int(n)), 2)
	}
}

func TestC2GetRefusesDepth(t *testing.T) {
	for n := range 16 {
		for text, l := range map[string]api.Level{"\x01": zero(), "\x05\x04": leaf(api.Param, 4), "\x06\x09": leaf(api.Meta, 9)} {
			s := strings.Repeat("\x02", n) + text
			left, right := "\x03"+s+"\x01", "\x04\x01"+s
			if n <= 10 {
				checkGet(t, left, 0, node(api.Max, up(n, l), zero()), len(left))
				checkGet(t, right, 0, node(api.Imax, zero(), up(n, l)), len(right))
			} else {
				checkGetRefuses(t, left, 0, api.ErrLong)
				checkGetRefuses(t, right, 0, api.ErrLong)
			}
			if n <= 11 {
				checkGet(t, s, 0, up(n, l), len(s))
			} else {
				checkGetRefuses(t, s, 0, api.ErrLong)
			}
		}
	}
}

func TestC2GetRefusesSize(t *testing.T) {
	l, s := sized(100)
	checkGet(t, s+s, 0, l, len(s))
	checkGet(t, s+s, len(s), l, 2*len(s))
	for count := 101; count <= 105; count++ {
		_, s := sized(count)
		checkGetRefuses(t, s, 0, api.ErrLong)
	}
	checkGetRefuses(t, fullText(6), 0, api.ErrLong)
	checkGetRefuses(t, fullText(10), 0, api.ErrLong)
}

// At the beginning of a level the limits come before what its bytes are, and before their lack.
func TestC2FirstErrorWins(t *testing.T) {
	_, s := sized(101)
	full := s[:len(s)-1] // 100 levels, and one that is still to come
	for _, rest := range []string{"", "\x00", "\x07", "\x80", "\x80\x00", "\x05", "\x05\x05"} {
		checkGetRefuses(t, strings.Repeat("\x02", 12)+rest, 0, api.ErrLong)
		checkGetRefuses(t, full+rest, 0, api.ErrLong)
	}
	checkGetRefuses(t, "\x03\x00"+strings.Repeat("\x02", 12), 0, api.ErrByte)
	checkGetRefuses(t, "\x03"+strings.Repeat("\x02", 12)+"\x00", 0, api.ErrLong)
	checkGetRefuses(t, "\x03\x05\x07", 0, api.ErrByte)
	checkGetRefuses(t, full[:len(full)-1]+"\x00", 0, api.ErrByte) // the hundredth level
	checkGetRefuses(t, full[:len(full)-1], 0, api.ErrEnd)
}

// plainGet reads by a list of how deep the levels are that are still to come, instead of by nested calls.
// It tells the errors of texts whose bytes are all below 128.
func plainGet(s string) (int, api.Errno) {
	at, count := 0, 0
	for todo := []int{0}; len(todo) > 0; count++ {
		deep := todo[len(todo)-1]
		todo = todo[:len(todo)-1]
		if deep > 11 || count == 100 {
			return 0, api.ErrLong
		}
		if at == len(s) {
			return 0, api.ErrEnd
		}
		kind := s[at]
		at++
		switch {
		case kind < 1 || kind > 6:
			return 0, api.ErrByte
		case kind == 2:
			todo = append(todo, deep+1)
		case kind == 3 || kind == 4:
			todo = append(todo, deep+1, deep+1)
		case kind > 4 && at == len(s):
			return 0, api.ErrEnd
		case kind > 4 && s[at] >= 5*(kind-4):
			return 0, api.ErrByte
		case kind > 4:
			at++
		}
	}
	return at, api.OK
}

// eachText calls f with every text of at most left more bytes from the given ones.
func eachText(text, from string, left int, f func(string)) {
	f(text)
	if left == 0 {
		return
	}
	for i := range len(from) {
		eachText(text+from[i:i+1], from, left-1, f)
	}
}

func checkAgainstPlain(t *testing.T, s string) {
	t.Helper()
	next, errno := plainGet(s)
	if errno != api.OK {
		checkGetRefuses(t, s, 0, errno)
		return
	}
	l, end, e := Get(s, 0)
	if e != api.OK || end != next {
		t.Errorf("Get(%q, 0): %d, %d; want %d", s, end, e, next)
		return
	}
	checkPut(t, l, s[:next])
}

func TestC2AllShortTexts(t *testing.T) {
	eachText("", "\x00\x01\x02\x03\x04\x05\x06\x07\x09\x0a", 5, func(s string) { checkAgainstPlain(t, s) })
	eachText("\x03", "\x01\x02\x03\x06", 7, func(s string) { checkAgainstPlain(t, s) })
}

// Long texts from a fixed sequence of numbers reach the limits in many ways.
func TestC2ManyLongTexts(t *testing.T) {
	seen := map[api.Errno]int{}
	x := uint32(1)
	for range 20000 {
		bytes := make([]byte, 260)
		for i := range bytes {
			x = x*1664525 + 1013904223
			bytes[i] = "\x01\x01\x01\x01\x01\x02\x02\x03\x03\x03\x04\x04\x04\x05\x06\x01"[x>>28]
		}
		checkAgainstPlain(t, string(bytes))
		_, e := plainGet(string(bytes))
		seen[e]++
	}
	if seen[api.OK] == 0 || seen[api.ErrLong] == 0 || seen[api.ErrByte] == 0 {
		t.Errorf("the texts are too much alike: %v", seen)
	}
}

// someLevels is all levels of at most so much height over two leaves of each kind.
func someLevels(height int) []api.Level {
	all := []api.Level{zero(), leaf(api.Param, 1), leaf(api.Param, 4), leaf(api.Meta, 1), leaf(api.Meta, 9)}
	if height == 0 {
		return all
	}
	below := someLevels(height - 1)
	for _, a := range below {
		all = append(all, node(api.Succ, a))
		for _, b := range below {
			all = append(all, node(api.Max, a, b), node(api.Imax, a, b))
		}
	}
	return all
}

func TestC3GetUndoesPut(t *testing.T) {
	all := someLevels(2)
	for _, l := range written() {
		all = append(all, l)
	}
	for _, l := range all {
		s, e := Put(l)
		if e != api.OK {
			t.Fatalf("Put(%v): %d", l, e)
		}
		for _, before := range []string{"", "\x00", "\x03\x01", "\xff"} {
			for _, after := range []string{"", "\x00", "\x01\x02", "\xff", s} {
				checkGet(t, before+s+after, len(before), l, len(before)+len(s))
			}
		}
	}
}

// Sorted texts: if one is a prefix of any other, it is a prefix of the next one.
func TestC3NoPrefixes(t *testing.T) {
	var texts []string
	for _, l := range someLevels(2) {
		s, _ := Put(l)
		texts = append(texts, s)
	}
	slices.Sort(texts)
	for i := range len(texts) - 1 {
		if strings.HasPrefix(texts[i+1], texts[i]) {
			t.Errorf("%q begins with %q", texts[i+1], texts[i])
		}
	}
}

// Neither the argument nor the memory behind its slices changes.
func TestArgumentsStay(t *testing.T) {
	build := func() []api.Level {
		return []api.Level{up(2, leaf(api.Param, 0)), node(api.Imax, leaf(api.Meta, 1), zero()), leaf(api.Param, 77), full(2)}
	}
	kids := build()
	checkPut(t, api.Level{Kind: api.Max, Kids: kids[:2]}, "\x03\x02\x02\x05\x00\x04\x06\x01\x01")
	checkPutRefuses(t, api.Level{Kind: api.Max, Kids: kids[:3]})
	if !slices.EqualFunc(kids, build(), level.Same) {
		t.Errorf("changed: %v", kids)
	}
}

// The lists of one level, and of two answers, share no memory: to append to one or to write into it leaves the others alone.
func TestGetGivesNewMemory(t *testing.T) {
	const s = "\x03\x03\x01\x01\x03\x01\x02\x01"
	l, _, _ := Get(s, 0)
	_ = append(l.Kids[0].Kids, leaf(api.Param, 3))
	_ = append(l.Kids, leaf(api.Param, 3))
	l.Kids[0].Kids[1] = leaf(api.Param, 3)
	want := node(api.Max, node(api.Max, zero(), leaf(api.Param, 3)), node(api.Max, zero(), up(1, zero())))
	if !level.Same(l, want) {
		t.Errorf("after writing: %v", l)
	}
	checkGet(t, s, 0, node(api.Max, node(api.Max, zero(), zero()), want.Kids[1]), len(s))
}

func FuzzGetAndPut(f *testing.F) {
	f.Add("\x02\x05\x03", 0)
	f.Add("ab\x03\x01\x06\x09c", 2)
	f.Add("\x80\x00", 0)
	f.Fuzz(func(t *testing.T, s string, at int) {
		l, next, e := Get(s, at)
		if e != api.OK {
			checkGetRefuses(t, s, at, e)
			return
		}
		checkPut(t, l, s[at:next])
	})
}
