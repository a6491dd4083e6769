package octet

import (
	"slices"
	"strings"
	"testing"

	"stereobate/api"
)

const (
	minInt = -1 << 63
	maxInt = 1<<63 - 1
)

// edges are the numbers around which the count of digits, or the answer, changes.
func edges() []int {
	ns := []int{0, 1, 2, 5, 300, 1000, 65521, 123456789, api.MaxNum - 1, api.MaxNum}
	for bits := 7; bits <= 35; bits += 7 {
		ns = append(ns, 1<<bits-1, 1<<bits, 1<<bits+1)
	}
	return ns
}

// spell writes digits out by division, independently of the program's shifts.
func spell(n int) string {
	if n < 128 {
		return string([]byte{byte(n)})
	}
	return string([]byte{byte(n%128 + 128)}) + spell(n/128)
}

func checkPut(t *testing.T, n int, want string) {
	t.Helper()
	if s, e := Put(n); s != want || e != api.OK {
		t.Errorf("Put(%d) = %q, %d; want %q", n, s, e, want)
	}
}

func checkGet(t *testing.T, s string, at, n, next int) {
	t.Helper()
	if m, end, e := Get(s, at); m != n || end != next || e != api.OK {
		t.Errorf("Get(%q, %d) = %d, %d, %d; want %d, %d", s, at, m, end, e, n, next)
	}
}

func checkRefused(t *testing.T, s string, at int, want api.Errno) {
	t.Helper()
	if n, end, e := Get(s, at); n != 0 || end != 0 || e != want {
		t.Errorf("Get(%q, %d) = %d, %d, %d; want 0, 0, %d", s, at, n, end, e, want)
	}
}

func TestA1PutEncodes(t *testing.T) {
	checkPut(t, 0, "\x00")
	checkPut(t, 127, "\x7f")
	checkPut(t, 128, "\x80\x01")
	checkPut(t, 255, "\xff\x01")
	checkPut(t, 300, "\xac\x02")
	checkPut(t, 1<<14-1, "\xff\x7f")
	checkPut(t, 1<<14, "\x80\x80\x01")
	checkPut(t, 1<<35-1, "\xff\xff\xff\xff\x7f")
	checkPut(t, 1<<35, "\x80\x80\x80\x80\x80\x01")
	checkPut(t, api.MaxNum-1, "\xff\xff\xff\xff\xff\x1f")
	checkPut(t, api.MaxNum, "\x80\x80\x80\x80\x80\x20")
	for _, n := range edges() {
		checkPut(t, n, spell(n))
	}
	for n := range 1 << 15 {
		checkPut(t, n, spell(n))
	}
}

func TestA1DigitsCanBeStoppedAndRepeated(t *testing.T) {
	seq := digits(1 << 14)
	for b := range seq {
		if b != 0x80 {
			t.Errorf("first byte %d", b)
		}
		break
	}
	for range 2 {
		if got := string(slices.Collect(seq)); got != "\x80\x80\x01" {
			t.Errorf("digits: %q", got)
		}
	}
}

func TestA1PutRefuses(t *testing.T) {
	for _, n := range []int{-1, -128, -api.MaxNum, minInt, api.MaxNum + 1, api.MaxNum + 128, 1 << 42, maxInt} {
		if s, e := Put(n); s != "" || e != api.ErrArg {
			t.Errorf("Put(%d) = %q, %d; want ErrArg", n, s, e)
		}
	}
}

func TestA2GetReads(t *testing.T) {
	checkGet(t, "\x00", 0, 0, 1)
	checkGet(t, "\x00\x00", 0, 0, 1)
	checkGet(t, "\x00\x00", 1, 0, 2)
	checkGet(t, "\x7f\x00", 0, 127, 1)
	checkGet(t, "\xac\x02", 0, 300, 2)
	checkGet(t, "\xac\x02", 1, 2, 2)
	checkGet(t, "xy\xac\x02z", 2, 300, 4)
	checkGet(t, "\x80\x01\x00", 0, 128, 2)
	checkGet(t, "\x80\x80\x01", 0, 1<<14, 3)
	checkGet(t, "\xff\xff\xff\xff\xff\x1f", 0, api.MaxNum-1, 6)
	checkGet(t, "\x80\x80\x80\x80\x80\x20\x01", 0, api.MaxNum, 6)
}

func TestA2GetRefusesPlaces(t *testing.T) {
	for _, at := range []int{-1, 4, 5, minInt, maxInt} {
		checkRefused(t, "abc", at, api.ErrArg)
	}
	checkRefused(t, "", -1, api.ErrArg)
	checkRefused(t, "", 1, api.ErrArg)
}

func TestA2GetMissesBytes(t *testing.T) {
	checkRefused(t, "", 0, api.ErrEnd)
	checkRefused(t, "abc", 3, api.ErrEnd)
	for n := 1; n <= 6; n++ {
		checkRefused(t, strings.Repeat("\x80", n), 0, api.ErrEnd)
		checkRefused(t, "a"+strings.Repeat("\xff", n), 1, api.ErrEnd)
	}
}

func TestA2GetRefusesBytes(t *testing.T) {
	for n := 1; n <= 7; n++ {
		checkRefused(t, strings.Repeat("\x80", n)+"\x00", 0, api.ErrByte)
		checkRefused(t, strings.Repeat("\xff", n)+"\x00\x01", 0, api.ErrByte)
	}
	checkRefused(t, "\x81\x80\x80\x80\x80\x20", 0, api.ErrByte)
	checkRefused(t, "\x80\x80\x80\x80\x80\x21", 0, api.ErrByte)
	checkRefused(t, "\x80\x80\x80\x80\x80\x40", 0, api.ErrByte)
	checkRefused(t, "\xff\xff\xff\xff\xff\x7f", 0, api.ErrByte)
	for _, last := range []string{"\x00", "\x01", "\x7f", "\x80", "\xff"} {
		checkRefused(t, strings.Repeat("\x80", 6)+last, 0, api.ErrByte)
		checkRefused(t, "ab"+strings.Repeat("\xff", 6)+last+"c", 2, api.ErrByte)
	}
}

func TestA3Sum(t *testing.T) {
	for s, want := range map[string]int{
		"":                 0,
		"\x00":             1,
		"\x00\x00":         32,
		"\x00\x00\x00":     993,
		"\xff":             256,
		"a":                98,
		"ab":               3137,
		"ba":               3167,
		"\xff\xff\xff":     57645,
		"\xff\xff\xff\xff": 18184,
		"\xc3\xa9":         6246,
		"\x3b\xf5\xea":     0, // 65521 before the modulus is taken
	} {
		if got := Sum(s); got != want {
			t.Errorf("Sum(%q) = %d; want %d", s, got, want)
		}
	}
}

// The checksum of a text with one more byte follows from the one of the text, as A3 says, and stays below the modulus.
func TestA3SumSteps(t *testing.T) {
	s, want := "", 0
	for i := range 3000 {
		b := byte(i * 37)
		s += string([]byte{b})
		want = (want*31 + int(b) + 1) % 65521
		if got := Sum(s); got != want {
			t.Fatalf("Sum of %d bytes = %d; want %d", i+1, got, want)
		}
	}
}

func TestA4GetUndoesPut(t *testing.T) {
	for _, n := range edges() {
		s, e := Put(n)
		if e != api.OK {
			t.Fatalf("Put(%d): %d", n, e)
		}
		for _, before := range []string{"", "\x00", "\x80", "\xff\xff\xff\xff\xff\xff\xff", "text"} {
			for _, after := range []string{"", "\x00", "\x01", "\x80", "\xff\xff\xff\xff\xff\xff\xff", "text"} {
				checkGet(t, before+s+after, len(before), n, len(before)+len(s))
			}
		}
	}
}

// eachText calls f with every text of at most left more bytes from the given ones.
func eachText(text, from string, left int, f func(string)) {
	f(text)
	if left == 0 {
		return
	}
	for i := range len(from) {
		eachText(text+from[i:i+1], from, left-1, f)
	}
}

func TestA4PutGivesWhatGetRead(t *testing.T) {
	read := 0
	eachText("", "\x00\x01\x20\x7f\x80\xff", 7, func(s string) {
		n, next, e := Get(s, 0)
		if e != api.OK {
			return
		}
		read++
		if n < 0 || n > api.MaxNum || next < 1 || next > len(s) {
			t.Fatalf("Get(%q, 0) = %d, %d", s, n, next)
		}
		checkPut(t, n, s[:next])
	})
	if read == 0 {
		t.Error("no text was read")
	}
}

func FuzzGetAndPut(f *testing.F) {
	f.Add("\xac\x02", 0)
	f.Add("ab\x80\x80\x80\x80\x80\x20c", 2)
	f.Add("\x80\x00", 0)
	f.Fuzz(func(t *testing.T, s string, at int) {
		n, next, e := Get(s, at)
		if e != api.OK {
			checkRefused(t, s, at, e)
			return
		}
		checkPut(t, n, s[at:next])
	})
}
