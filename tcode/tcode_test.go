package tcode

import (
	"slices"
	"strings"
	"testing"

	"stereobate/api"
	"stereobate/lcode"
	"stereobate/octet"
	"stereobate/term"
)

const (
	minInt = -1 << 63
	maxInt = 1<<63 - 1
)

func leaf(kind, n int) api.Level { return api.Level{Kind: kind, N: n} }

func param(n int) api.Level { return leaf(api.Param, n) }

func meta(n int) api.Level { return leaf(api.Meta, n) }

func zero() api.Level { return leaf(api.Zero, 0) }

func node(kind int, kids ...api.Level) api.Level { return api.Level{Kind: kind, Kids: kids} }

// up puts n Succs around l.
func up(n int, l api.Level) api.Level {
	for range n {
		l = node(api.Succ, l)
	}
	return l
}

// full is a tree of Max with 2^(height+1) - 1 levels.
func full(height int) api.Level {
	if height == 0 {
		return zero()
	}
	return node(api.Max, full(height-1), full(height-1))
}

func v(n int) api.Term { return api.Term{Kind: api.Var, N: n} }

func sort(l ...api.Level) api.Term { return api.Term{Kind: api.Sort, Levels: l} }

// point is a term without variables, and pointText its encoding.
func point() api.Term { return sort(zero()) }

const pointText = "\x02\x01"

func con(n int, ls ...api.Level) api.Term { return api.Term{Kind: api.Const, N: n, Levels: ls} }

func of(kind int, kids ...api.Term) api.Term { return api.Term{Kind: kind, Kids: kids} }

func app(a, b api.Term) api.Term { return of(api.App, a, b) }

func lam(a, b api.Term) api.Term { return of(api.Lam, a, b) }

func pi(a, b api.Term) api.Term { return of(api.Pi, a, b) }

func let(a, b, c api.Term) api.Term { return of(api.Let, a, b, c) }

// spot is a place in a term of a kind that has kids, and tells whether it is below a binder.
type spot struct {
	kind, kids, at int
	binds          bool
}

func spots() []spot {
	return []spot{
		{api.App, 2, 0, false}, {api.App, 2, 1, false},
		{api.Lam, 2, 0, false}, {api.Lam, 2, 1, true},
		{api.Pi, 2, 0, false}, {api.Pi, 2, 1, true},
		{api.Let, 3, 0, false}, {api.Let, 3, 1, false}, {api.Let, 3, 2, true},
	}
}

// around puts t into n terms, each in the spot, beside terms without variables.
func (s spot) around(n int, t api.Term) api.Term {
	for range n {
		kids := slices.Repeat([]api.Term{point()}, s.kids)
		kids[s.at] = t
		t = of(s.kind, kids...)
	}
	return t
}

// text is the encoding of what around returns, if the given text is that of t.
func (s spot) text(n int, text string) string {
	return strings.Repeat(string([]byte{byte(s.kind)})+strings.Repeat(pointText, s.at), n) + text + strings.Repeat(strings.Repeat(pointText, s.kids-1-s.at), n)
}

// sized is a term of so many terms, which must be odd, with t at all its ends, and its encoding, if text is that of t.
func sized(count int, t api.Term, text string) (api.Term, string) {
	if count == 1 {
		return t, text
	}
	first := (count - 1) / 2
	if first%2 == 0 {
		first--
	}
	a, aText := sized(first, t, text)
	b, bText := sized(count-1-first, t, text)
	return app(a, b), "\x04" + aText + bText
}

// most is a term of 600 terms, and its encoding.
func most() (api.Term, string) {
	t, text := sized(597, v(3), "\x01\x03")
	return let(v(0), v(1), t), "\x07\x01\x00\x01\x01" + text
}

// checkPut doesn't print the term, which may be great.
func checkPut(t *testing.T, x api.Term, want string) {
	t.Helper()
	if s, e := Put(x); s != want || e != api.OK {
		t.Errorf("Put = %q, %d; want %q", s, e, want)
	}
}

// checkPutRefuses doesn't print the term, which may be endless.
func checkPutRefuses(t *testing.T, what string, x api.Term) {
	t.Helper()
	if s, e := Put(x); s != "" || e != api.ErrArg {
		t.Errorf("%s: Put = %q, %d; want ErrArg", what, s, e)
	}
}

func checkGet(t *testing.T, s string, at int, want api.Term, next int) {
	t.Helper()
	if x, end, e := Get(s, at); !term.Same(x, want) || end != next || e != api.OK {
		t.Errorf("Get(%q, %d) = %v, %d, %d; want %v, %d", s, at, x, end, e, want, next)
	}
}

func checkGetRefuses(t *testing.T, s string, at int, want api.Errno) {
	t.Helper()
	if x, end, e := Get(s, at); !term.Same(x, api.Term{}) || end != 0 || e != want {
		t.Errorf("Get(%q, %d) = %v, %d, %d; want %d alone", s, at, x, end, e, want)
	}
}

// written is terms of all kinds, with their encodings.
func written() map[string]api.Term {
	a, b, c := v(3), sort(param(2)), con(7, meta(4))
	const aText, bText, cText = "\x01\x03", "\x02\x05\x02", "\x03\x07\x01\x06\x04"
	all := map[string]api.Term{
		"\x05\x02\x01\x01\x00":     lam(sort(zero()), v(0)), // the chapter's example
		"\x01\x00":                 v(0),
		"\x01\x7f":                 v(127),
		"\x01\x80\x01":             v(128),
		"\x01\xe7\x07":             v(999),
		"\x02\x04\x02\x01\x06\x09": sort(node(api.Imax, up(1, zero()), meta(9))),
		"\x02" + strings.Repeat("\x02", 11) + "\x01": sort(up(11, zero())),
		"\x03\x00\x00":                 con(0),
		"\x03\x13\x00":                 con(19),
		"\x03\x01\x02\x05\x04\x02\x01": con(1, param(4), up(1, zero())),
		"\x03\x01\x02\x02\x01\x05\x04": con(1, up(1, zero()), param(4)),
		"\x03\x05\x05\x05\x00\x05\x01\x05\x02\x05\x03\x05\x04": con(5, param(0), param(1), param(2), param(3), param(4)),
		"\x04" + aText + bText:                                 app(a, b),
		"\x04" + bText + aText:                                 app(b, a),
		"\x05" + bText + cText:                                 lam(b, c),
		"\x05" + cText + bText:                                 lam(c, b),
		"\x06" + cText + aText:                                 pi(c, a),
		"\x06" + aText + cText:                                 pi(a, c),
		"\x07" + aText + bText + cText:                         let(a, b, c),
		"\x07" + cText + aText + bText:                         let(c, a, b),
		"\x06\x05" + aText + bText + "\x04" + cText + aText:    pi(lam(a, b), app(c, a)),
	}
	for n := range 20 {
		all["\x03"+string([]byte{byte(n)})+"\x01\x01"] = con(n, zero())
	}
	for _, s := range spots() {
		all[s.text(29, aText)] = s.around(29, a)
		all[s.text(3, cText)] = s.around(3, c)
	}
	t, text := most()
	all[text] = t
	return all
}

func TestO1PutEncodes(t *testing.T) {
	for s, x := range written() {
		checkPut(t, x, s)
	}
	checkPut(t, api.Term{Kind: api.Var, N: 1, Levels: []api.Level{}, Kids: []api.Term{}}, "\x01\x01")
}

// The longest encoding: all of a term's levels are as long as may be.
func TestO1PutEncodesLongTerms(t *testing.T) {
	l := node(api.Max, full(5), node(api.Max, full(3), node(api.Max, full(3), param(4))))
	text := "\x03\x13\x05" + strings.Repeat(levelText(t, l), 5)
	x, want := sized(599, con(19, l, l, l, l, l), text)
	checkPut(t, x, want)
	checkGet(t, want, 0, x, len(want))
}

func levelText(t *testing.T, l api.Level) string {
	s, e := lcode.Put(l)
	if e != api.OK {
		t.Fatalf("lcode.Put(%v): %d", l, e)
	}
	return s
}

// wrong is terms that aren't well-formed, each for one reason.
func wrong() map[string]api.Term {
	over, _ := sized(601, point(), pointText)
	two := []api.Term{point(), point()}
	all := map[string]api.Term{
		"nothing": {}, "kind -1": {Kind: -1}, "kind 8": {Kind: 8}, "least kind": {Kind: minInt}, "greatest kind": {Kind: maxInt},
		"Var -1": v(-1), "Var 1001": v(1001), "greatest Var": v(maxInt), "least Var": v(minInt),
		"Const -1": con(-1), "Const 20": con(20), "greatest Const": con(maxInt),
		"named Sort":          {Kind: api.Sort, N: 1, Levels: []api.Level{zero()}},
		"named App":           {Kind: api.App, N: 1, Kids: two},
		"named Let":           {Kind: api.Let, N: -1, Kids: append(two, point())},
		"no level":            sort(),
		"two levels":          sort(zero(), zero()),
		"six levels":          con(0, slices.Repeat([]api.Level{zero()}, 6)...),
		"Var's level":         {Kind: api.Var, Levels: []api.Level{zero()}},
		"App's level":         {Kind: api.App, Levels: []api.Level{zero()}, Kids: two},
		"wrong level":         sort(param(5)),
		"Const's wrong level": con(0, zero(), meta(10)),
		"deep level":          sort(up(12, zero())),
		"great level":         sort(full(6)),
		"Var's kid":           {Kind: api.Var, Kids: []api.Term{point()}},
		"Sort's kid":          {Kind: api.Sort, Levels: []api.Level{zero()}, Kids: []api.Term{point()}},
		"Const's kid":         {Kind: api.Const, Kids: []api.Term{point()}},
		"App's one kid":       of(api.App, point()),
		"App's three kids":    of(api.App, point(), point(), point()),
		"Lam's no kid":        of(api.Lam),
		"Pi's three kids":     of(api.Pi, point(), point(), point()),
		"Let's two kids":      of(api.Let, point(), point()),
		"great":               over,
	}
	for i, s := range spots() {
		all["deep "+string([]byte{'a' + byte(i)})] = s.around(30, point())
	}
	return all
}

func TestO1PutRefuses(t *testing.T) {
	checkPutRefuses(t, "Var 1000", v(1000))
	for what, x := range wrong() {
		checkPutRefuses(t, what, x)
		for _, s := range spots() {
			checkPutRefuses(t, what, s.around(1, x))
		}
	}
}

// A Var may be greater by the number of the binders that it is below.
func TestO1PutAtVariables(t *testing.T) {
	for _, s := range spots() {
		if !s.binds {
			checkPut(t, s.around(2, v(999)), s.text(2, "\x01\xe7\x07"))
			checkPutRefuses(t, "Var 1000", s.around(2, v(1000)))
			continue
		}
		checkPut(t, s.around(1, v(1000)), s.text(1, "\x01\xe8\x07"))
		checkPut(t, s.around(2, v(1001)), s.text(2, "\x01\xe9\x07"))
		checkPut(t, s.around(29, v(1028)), s.text(29, "\x01\x84\x08"))
		checkPutRefuses(t, "Var 1002", s.around(2, v(1002)))
	}
}

// A term that contains itself is refused, too.
func TestO1PutEnds(t *testing.T) {
	for _, s := range spots() {
		kids := slices.Repeat([]api.Term{point()}, s.kids)
		kids[s.at] = api.Term{Kind: s.kind, Kids: kids}
		checkPutRefuses(t, "endless", kids[s.at])
		for i := range kids {
			kids[i] = api.Term{Kind: s.kind, Kids: kids}
		}
		checkPutRefuses(t, "endless in all places", kids[0])
	}
}

func TestO2GetReads(t *testing.T) {
	for s, x := range written() {
		checkGet(t, s, 0, x, len(s))
		checkGet(t, "\xff\x00"+s, 2, x, 2+len(s))
		checkGet(t, "\x04"+s+s, 1, x, 1+len(s))
	}
	checkGet(t, "\x05\x02\x01\x01\x00", 1, point(), 3)
	checkGet(t, "\x05\x02\x01\x01\x00", 3, v(0), 5)
}

func TestO2GetRefusesPlaces(t *testing.T) {
	for _, at := range []int{minInt, -2, -1, 5, 6, maxInt} {
		checkGetRefuses(t, "\x01\x01\x01\x01", at, api.ErrArg)
	}
	checkGetRefuses(t, "", -1, api.ErrArg)
	checkGetRefuses(t, "", 1, api.ErrArg)
}

func TestO2GetMissesBytes(t *testing.T) {
	checkGetRefuses(t, "", 0, api.ErrEnd)
	checkGetRefuses(t, "\x01\x01", 2, api.ErrEnd)
	for s := range written() {
		for n := range min(len(s), 400) {
			checkGetRefuses(t, s[:n], 0, api.ErrEnd)
			checkGetRefuses(t, "\x01"+s[:n], 1, api.ErrEnd)
		}
	}
	for _, s := range []string{"\x80", "\xff\xff\xff\xff\xff\xff", "\x01\x80", "\x01\xe8", "\x02\x80", "\x02\x05\x81", "\x03\x81", "\x03\x00\x85", "\x03\x00\x01\x83", "\x04\x01\x00\xff"} {
		checkGetRefuses(t, s, 0, api.ErrEnd)
	}
}

// checkRefusesBytes puts the text, and what may follow, into many places.
func checkRefusesBytes(t *testing.T, text string) {
	t.Helper()
	for _, rest := range []string{"", "\x01\x01\x01\x01", "\x00\xff"} {
		checkGetRefuses(t, text+rest, 0, api.ErrByte)
		checkGetRefuses(t, "\x01\x01"+text+rest, 2, api.ErrByte)
		for _, s := range spots() {
			checkGetRefuses(t, s.text(1, text+rest), 0, api.ErrByte)
			checkGetRefuses(t, s.text(29, text+rest), 0, api.ErrByte)
		}
	}
}

func TestO2GetRefusesKinds(t *testing.T) {
	for _, kind := range []string{
		"\x00", "\x08", "\x09", "\x7f", "\x80\x01", "\x81\x01", "\x87\x02", "\x80\x80\x80\x80\x80\x20", // numbers, but of no kind
		"\x81\x00", "\x80\x80\x00", "\x81\x80\x80\x80\x80\x20", "\x80\x80\x80\x80\x80\x80\x01", // no numbers
	} {
		checkRefusesBytes(t, kind)
	}
}

func TestO2GetRefusesNumbers(t *testing.T) {
	for _, n := range []string{"\x81\x00", "\xe7\x87\x00", "\x80\x80\x80\x80\x80\x20", "\x81\x80\x80\x80\x80\x20", "\xff\xff\xff\xff\xff\x7f", "\x80\x80\x80\x80\x80\x80\x00"} {
		for _, before := range []string{"\x01", "\x03", "\x03\x01"} {
			checkRefusesBytes(t, before+n)
		}
	}
	for _, n := range []string{"\x14", "\x15", "\x7f", "\x80\x01"} {
		checkRefusesBytes(t, "\x03"+n)
		checkRefusesBytes(t, "\x03"+n+"\x00")
	}
	for _, n := range []string{"\x06", "\x07", "\x13", "\x80\x01"} {
		checkRefusesBytes(t, "\x03\x01"+n)
		checkRefusesBytes(t, "\x03\x01"+n+strings.Repeat("\x01", 6))
	}
}

// A Var may be greater by the number of the binders that it is below, and only by that.
func TestO2GetAtVariables(t *testing.T) {
	for _, s := range spots() {
		for n := range 30 {
			bound := 1000
			if s.binds {
				bound += n
			}
			for _, i := range []int{999, bound - 1, bound, bound + 1, 1029, 1030} {
				number, _ := octet.Put(i)
				text := s.text(n, "\x01"+number)
				if i < bound {
					checkGet(t, text, 0, s.around(n, v(i)), len(text))
				} else {
					checkGetRefuses(t, text, 0, api.ErrByte)
				}
			}
		}
	}
}

// Different binders are counted together, and those that a Var is not below are not counted.
func TestO2GetCountsBinders(t *testing.T) {
	const before = "\x05\x02\x01\x06\x02\x01\x07\x02\x01\x02\x01" // Lam, Pi and Let, up to the body
	checkGet(t, before+"\x01\xea\x07", 0, lam(point(), pi(point(), let(point(), point(), v(1002)))), len(before)+3)
	checkGetRefuses(t, before+"\x01\xeb\x07", 0, api.ErrByte)
	checkGetRefuses(t, before+"\x04\x01\x00\x01\xeb\x07", 0, api.ErrByte)
	checkGetRefuses(t, "\x04\x05\x02\x01\x01\xe8\x07\x01\xe8\x07", 0, api.ErrByte)
	checkGet(t, "\x04\x05\x02\x01\x01\xe8\x07\x01\xe7\x07", 0, app(lam(point(), v(1000)), v(999)), 10)
}

func TestO2GetReadsLevels(t *testing.T) {
	for text, l := range map[string]api.Level{"\x05\x04": param(4), "\x06\x09": meta(9), strings.Repeat("\x02", 11) + "\x01": up(11, zero())} {
		for count := range 6 {
			s := "\x03\x02" + string([]byte{byte(count)}) + strings.Repeat(text, count)
			checkGet(t, s+"\x01", 0, con(2, slices.Repeat([]api.Level{l}, count)...), len(s))
		}
		checkGet(t, "\x02"+text+text, 0, sort(l), 1+len(text))
	}
}

func TestO2GetRefusesLevels(t *testing.T) {
	great := "\x03" + levelText(t, full(5)) + levelText(t, full(5)) // 127 levels
	for text, want := range map[string]api.Errno{
		"\x00": api.ErrByte, "\x07": api.ErrByte, "\x05\x05": api.ErrByte, "\x06\x0a": api.ErrByte, "\x02\x02\x08": api.ErrByte, "\x81\x00": api.ErrByte,
		strings.Repeat("\x02", 12) + "\x01": api.ErrLong, great: api.ErrLong,
		"": api.ErrEnd, "\x02": api.ErrEnd, "\x05": api.ErrEnd, "\x03\x01": api.ErrEnd, "\x85": api.ErrEnd,
	} {
		for _, before := range []string{"\x02", "\x03\x00\x01", "\x03\x00\x02\x01", "\x03\x13\x05\x05\x04\x06\x09\x01\x02\x01"} {
			checkGetRefuses(t, before+text, 0, want)
			checkGetRefuses(t, "\x04\x01\x00"+before+text, 0, want)
			checkGetRefuses(t, "\x01\x00"+before+text, 2, want)
		}
	}
}

func TestO2GetRefusesDepth(t *testing.T) {
	for _, s := range spots() {
		for n := range 40 {
			text := s.text(n, pointText)
			if n < 30 {
				checkGet(t, text, 0, s.around(n, point()), len(text))
			} else {
				checkGetRefuses(t, text, 0, api.ErrLong)
			}
		}
	}
}

func TestO2GetRefusesSize(t *testing.T) {
	x, s := most()
	checkGet(t, s+s, 0, x, len(s))
	checkGet(t, s+s, len(s), x, 2*len(s))
	for count := 599; count <= 605; count += 2 {
		x, s := sized(count, point(), pointText)
		if count < 600 {
			checkGet(t, s, 0, x, len(s))
		} else {
			checkGetRefuses(t, s, 0, api.ErrLong)
		}
	}
	_, s = sized(597, point(), pointText)
	for _, before := range []string{"\x04\x05\x02\x01\x01\x00", "\x07\x02\x01\x04\x02\x01\x01\x00"} {
		checkGetRefuses(t, before+s, 0, api.ErrLong)
	}
	_, s = sized(5001, point(), pointText)
	checkGetRefuses(t, s, 0, api.ErrLong)
}

// At the beginning of a term the limits come before what its bytes are, and before their lack.
func TestO2FirstErrorWins(t *testing.T) {
	_, s := sized(601, point(), pointText)
	whole := s[:len(s)-len(pointText)] // 600 terms, and one that is still to come
	for _, rest := range []string{"", "\x00", "\x08", "\x80", "\x80\x00", "\x01", "\x01\x80", "\x03\x14", "\x02\x07"} {
		for _, p := range spots() {
			before, _, _ := strings.Cut(p.text(30, "!"), "!")
			checkGetRefuses(t, before+rest, 0, api.ErrLong)
		}
		checkGetRefuses(t, whole+rest, 0, api.ErrLong)
	}
	deep := strings.Repeat("\x04", 30)
	for _, wrong := range []string{"\x00", "\x01\x81\x00", "\x03\x14", "\x03\x00\x06", "\x02\x00", "\x05\x08"} {
		checkGetRefuses(t, "\x04"+wrong+deep, 0, api.ErrByte)
		checkGetRefuses(t, "\x04"+deep+wrong, 0, api.ErrLong)
		checkGetRefuses(t, "\x04"+wrong, 0, api.ErrByte)
	}
	checkGetRefuses(t, whole[:len(whole)-len(pointText)]+"\x02\x00", 0, api.ErrByte) // in the last of the 600
	checkGetRefuses(t, whole[:len(whole)-1], 0, api.ErrEnd)
	checkGetRefuses(t, "\x03\x14\x06", 0, api.ErrByte)
	checkGetRefuses(t, "\x03\x14"+"\x80", 0, api.ErrByte)
	checkGetRefuses(t, "\x03\x00\x02"+strings.Repeat("\x02", 12)+"\x00", 0, api.ErrLong)
	checkGetRefuses(t, "\x04\x02\x07\x02"+strings.Repeat("\x02", 12), 0, api.ErrByte)
}

// todo is a term that is still to come, in plainGet.
type todo struct{ deep, binders int }

// plainGet reads by a list of the terms that are still to come, instead of by nested calls.
func plainGet(s string) (int, api.Errno) {
	at := 0
	number := func(bound int) (int, api.Errno) {
		n, next, e := octet.Get(s, at)
		at = next
		if e == api.OK && n >= bound {
			e = api.ErrByte
		}
		return n, e
	}
	list := []todo{{}}
	for count := 0; len(list) > 0; count++ {
		x := list[len(list)-1]
		list = list[:len(list)-1]
		if x.deep >= 30 || count >= 600 {
			return 0, api.ErrLong
		}
		kind, e := number(8)
		levels, below := 0, todo{x.deep + 1, x.binders}
		switch {
		case e != api.OK:
			return 0, e
		case kind == api.Var:
			_, e = number(1000 + x.binders)
		case kind == api.Sort:
			levels = 1
		case kind == api.Const:
			if _, e = number(20); e == api.OK {
				levels, e = number(6)
			}
		case kind == api.App:
			list = append(list, below, below)
		case kind == api.Lam || kind == api.Pi:
			list = append(list, todo{x.deep + 1, x.binders + 1}, below)
		case kind == api.Let:
			list = append(list, todo{x.deep + 1, x.binders + 1}, below, below)
		default:
			e = api.ErrByte
		}
		for i := 0; i < levels && e == api.OK; i++ {
			_, at, e = lcode.Get(s, at)
		}
		if e != api.OK {
			return 0, e
		}
	}
	return at, api.OK
}

// checkAgainstPlain checks O3's second half as well.
func checkAgainstPlain(t *testing.T, s string) api.Errno {
	t.Helper()
	next, errno := plainGet(s)
	if errno != api.OK {
		checkGetRefuses(t, s, 0, errno)
		return errno
	}
	x, end, e := Get(s, 0)
	if e != api.OK || end != next {
		t.Errorf("Get(%q, 0): %d, %d; want %d", s, end, e, next)
		return errno
	}
	checkPut(t, x, s[:next])
	return errno
}

// eachText calls f with every text of at most left more bytes from the given ones.
func eachText(text, from string, left int, f func(string)) {
	f(text)
	if left == 0 {
		return
	}
	for i := range len(from) {
		eachText(text+from[i:i+1], from, left-1, f)
	}
}

func TestO2AllShortTexts(t *testing.T) {
	check := func(s string) { checkAgainstPlain(t, s) }
	eachText("", "\x00\x01\x02\x03\x04\x05\x06\x07\x08\x14", 5, check)
	eachText("", "\x01\x02\x03\x05", 8, check)
	eachText("\x05\x02\x01", "\x01\x07\xe7\xe8\xe9\x80", 5, check)
}

// Long texts from a fixed sequence of numbers reach the limits in many ways.
func TestO2ManyLongTexts(t *testing.T) {
	const from = "\x01\x01\x01\x01\x01\x02\x01\x02\x04\x04\x04\x05\x06\x07\x03\x01"
	seen := map[api.Errno]int{}
	x := uint32(1)
	for range 20000 {
		var text []byte
		for range 1500 {
			x = x*1664525 + 1013904223
			text = append(text, from[x>>28])
		}
		seen[checkAgainstPlain(t, string(text))]++
	}
	if seen[api.OK] == 0 || seen[api.ErrLong] == 0 || seen[api.ErrByte] == 0 {
		t.Errorf("the texts are too much alike: %v", seen)
	}
}

// someTerms is all terms of at most so much height over some without kids.
func someTerms(height int) []api.Term {
	all := []api.Term{v(0), v(999), point(), sort(meta(9)), con(0), con(19, param(4), up(1, zero()))}
	if height == 0 {
		return all
	}
	below := someTerms(height - 1)
	for i, a := range below {
		for _, b := range below {
			all = append(all, app(a, b), lam(a, b), pi(a, b), let(a, b, below[(i+1)%len(below)]))
		}
	}
	return all
}

func checkGetUndoesPut(t *testing.T, x api.Term) {
	t.Helper()
	s, e := Put(x)
	if e != api.OK {
		t.Fatalf("Put: %d", e)
	}
	for _, after := range []string{"", "\x00", "\x01\x02", "\xff", s} {
		checkGet(t, s+after, 0, x, len(s))
		checkGet(t, "\xff\x04"+s+after, 2, x, 2+len(s))
	}
}

func TestO3GetUndoesPut(t *testing.T) {
	for _, x := range someTerms(1) {
		checkGetUndoesPut(t, x)
		for _, s := range spots() {
			checkGetUndoesPut(t, s.around(2, x))
		}
	}
	for _, x := range written() {
		checkGetUndoesPut(t, x)
	}
}

// Sorted texts: if one is a prefix of any other, it is a prefix of the next one.
func TestO3NoPrefixes(t *testing.T) {
	var texts []string
	for _, x := range someTerms(1) {
		s, _ := Put(x)
		texts = append(texts, s)
	}
	slices.Sort(texts)
	for i := range len(texts) - 1 {
		if strings.HasPrefix(texts[i+1], texts[i]) {
			t.Errorf("%q begins with %q", texts[i+1], texts[i])
		}
	}
}

// Neither the argument nor the memory behind its slices changes.
func TestArgumentsStay(t *testing.T) {
	build := func() ([]api.Term, []api.Level) {
		return []api.Term{v(1), con(2, zero()), v(1001), point()}, []api.Level{param(1), up(1, meta(2)), param(5), zero()}
	}
	kids, levels := build()
	checkPut(t, of(api.App, kids[:2]...), "\x04\x01\x01\x03\x02\x01\x01")
	checkPutRefuses(t, "wrong kid", of(api.Let, kids[:3]...))
	checkPut(t, con(3, levels[:2]...), "\x03\x03\x02\x05\x01\x02\x06\x02")
	checkPutRefuses(t, "wrong level", con(3, levels[:3]...))
	oldKids, oldLevels := build()
	if !slices.EqualFunc(kids, oldKids, term.Same) || !term.Same(con(0, levels...), con(0, oldLevels...)) {
		t.Errorf("changed: %v, %v", kids, levels)
	}
}

// The lists of one term, and of two answers, share no memory: to append to one or to write into it leaves the others alone.
func TestGetGivesNewMemory(t *testing.T) {
	const s = "\x04\x04\x01\x00\x03\x00\x02\x01\x01\x04\x01\x00\x03\x00\x02\x01\x01"
	same := app(v(0), con(0, zero(), zero()))
	x, _, _ := Get(s, 0)
	_ = append(x.Kids[0].Kids, v(7))
	_ = append(x.Kids, v(7))
	_ = append(x.Kids[0].Kids[1].Levels, param(3))
	x.Kids[0].Kids[0] = v(7)
	x.Kids[0].Kids[1].Levels[1] = param(3)
	if want := app(app(v(7), con(0, zero(), param(3))), same); !term.Same(x, want) {
		t.Errorf("after writing: %v", x)
	}
	checkGet(t, s, 0, app(same, same), len(s))
}

func FuzzGetAndPut(f *testing.F) {
	f.Add("\x05\x02\x01\x01\x00", 0)
	f.Add("ab\x07\x01\x06\x03\x13\x02\x01\x05\x04\x02\x02\x01c", 2)
	f.Add("\x80\x00", 0)
	f.Fuzz(func(t *testing.T, s string, at int) {
		x, next, e := Get(s, at)
		if e != api.OK {
			checkGetRefuses(t, s, at, e)
			return
		}
		checkPut(t, x, s[at:next])
		checkAgainstPlain(t, s[at:])
	})
}
