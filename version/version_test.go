package version_test

import (
	"math"
	"strconv"
	"strings"
	"testing"

	"lading/api"
	"lading/version"
)

// of returns a version.
func of(major, minor, patch int) api.Version {
	return api.Version{Major: major, Minor: minor, Patch: patch}
}

// texts are the texts of some valid versions.
var texts = map[string]api.Version{
	"0.0.0": {}, "1.2.3": of(1, 2, 3), "0.0.1": of(0, 0, 1), "0.1.0": of(0, 1, 0), "1.0.0": of(1, 0, 0), "10.20.30": of(10, 20, 30),
	"9.10.99": of(9, 10, 99), "100.1000.10000": of(100, 1000, 10000), "1048576.0.10": of(1<<20, 0, 10), "0.1048576.0": of(0, 1<<20, 0),
	"5.5.1048576": of(5, 5, 1<<20), "1048576.1048576.1048576": of(1<<20, 1<<20, 1<<20), "1048575.1048575.1048575": of(1<<20-1, 1<<20-1, 1<<20-1),
	"999999.7.0": of(999999, 7, 0), "1000000.0.0": of(1000000, 0, 0),
}

// noText requires that a string is the text of no version.
func noText(t *testing.T, s string) {
	t.Helper()
	if v, ok := version.Parse(s); ok || v != (api.Version{}) {
		t.Errorf("Parse of %.60q returns %v, %v", s, v, ok)
	}
}

// P12.1, P12.6: valid versions and their texts.
func TestTexts(t *testing.T) {
	for s, v := range texts {
		if !version.Right(v) {
			t.Errorf("%v is not right", v)
		}
		if got := version.Print(v); got != s {
			t.Errorf("Print of %v returns %q, not %q", v, got, s)
		}
		if got, ok := version.Parse(s); got != v || !ok {
			t.Errorf("Parse of %q returns %v, %v, not %v", s, got, ok, v)
		}
	}
}

// P12.1: what is valid is so in each place, to the unit of the limits.
func TestRight(t *testing.T) {
	for n, want := range map[int]bool{
		math.MinInt: false, math.MinInt + 1: false, -1 << 32: false, -2: false, -1: false, 0: true, 1: true, 2: true, 9: true, 10: true, api.MaxPart - 1: true,
		api.MaxPart: true, api.MaxPart + 1: false, api.MaxPart + 2: false, 2 * api.MaxPart: false, 1 << 32: false, 1<<32 + 1: false, math.MaxInt - 1: false, math.MaxInt: false,
	} {
		for _, v := range []api.Version{of(n, 0, 0), of(0, n, 0), of(0, 0, n), of(n, 1, 2), of(3, n, 4), of(5, 6, n), of(n, n, n), of(n, api.MaxPart, 1), of(7, n, api.MaxPart)} {
			if version.Right(v) != want {
				t.Errorf("Right of %v is not %v", v, want)
			}
			if s := version.Print(v); (s != "") != want {
				t.Errorf("Print of %v returns %q", v, s)
			}
		}
	}
}

// P12.1: strings that are nearly texts.
func TestNoTexts(t *testing.T) {
	for _, s := range []string{
		"", ".", "..", "...", "1", "1.", ".1", "1.2", "1.2.", ".1.2", "1..2", "1..", "..1", ".1.", "1.2.3.", ".1.2.3", "1.2.3.4", "1.2..3", "1..2.3", "1.2.3..", "0.0", "0.0.0.0",
		"01.2.3", "1.02.3", "1.2.03", "00.0.0", "0.00.0", "0.0.00", "000", "1.2.3a", "a1.2.3", "1.2.x", "x.2.3", "1.x.3", "a.b.c", "v1.2.3", "1.2.3-1", "1.2.3+1",
		"-1.2.3", "1.-2.3", "1.2.-3", "-0.0.0", "0.-0.0", "0.0.-0", "+1.2.3", "1.+2.3", "1.2.+3", "+0.0.0", "0.0.+0", "+.+.+", "-.-.-", "--1.2.3",
		" 1.2.3", "1.2.3 ", "1 .2.3", "1. 2.3", "1.2. 3", " ", "\t1.2.3", "1.2.3\n", "\n1.2.3", "1.2.3\x00", "\x001.2.3", "1\x00.2.3", "1.2.3\r",
		"1,2,3", "1.2,3", "1:2:3", "1/2/3", "1\n2\n3", "1 2 3", "123", "1_0.2.3", "1.1_0.3", "0x1.2.3", "1.0x2.3", "0b1.0.0", "0o7.0.0", "1e3.0.0", "1.2.1e1", "1.5e0.1",
		"1048577.0.0", "0.1048577.0", "0.0.1048577", "1048577.1048577.1048577", "2097152.0.0", "10485760.0.0", "01048576.0.0", "9999999.0.0",
		"4294967296.0.0", "4294967297.2.3", "1.18446744073709551617.3", "18446744073709551616.0.0", "9223372036854775807.0.0", "9223372036854775808.0.0", "-9223372036854775808.0.0",
		"1.99999999999999999999.1", "0.0." + strings.Repeat("9", 100), strings.Repeat("0", 100) + ".0.0", strings.Repeat("0", 20) + "1.2.3",
		"\u0967.\u0968.\u0969", "1.2.\uff13", "1\uff0e2\uff0e3", "\u00b2.0.0", "1.2.3\u200b", "\xff.0.0", "0.0.\x80", "inf.0.0", "nan.0.0", "1.2.3;", "(1.2.3)", "\"1.2.3\"", "'1'.2.3",
	} {
		noText(t, s)
	}
}

// P12.1: each byte changed, added and removed; what is still a text has one version.
func TestTextBytes(t *testing.T) {
	for s := range texts {
		for i := range len(s) + 1 {
			for c := range 256 {
				sameText(t, s[:i]+string([]byte{byte(c)})+s[i:])
				if i < len(s) {
					sameText(t, s[:i]+string([]byte{byte(c)})+s[i+1:])
				}
			}
			if i < len(s) {
				sameText(t, s[:i]+s[i+1:])
			}
		}
	}
}

// P12.1: each number that a valid version may have, and those around them, in each place.
func TestEveryNumber(t *testing.T) {
	for n := -3; n <= api.MaxPart+3; n++ {
		digits := strconv.Itoa(n)
		want := n >= 0 && n <= api.MaxPart
		v, s := of(n, 7, 0), digits+".7.0"
		switch n % 3 {
		case 1:
			v, s = of(7, n, 0), "7."+digits+".0"
		case 2:
			v, s = of(7, 0, n), "7.0."+digits
		}
		got, ok := version.Parse(s)
		if version.Right(v) != want || ok != want || ok && (got != v || version.Print(v) != s) || !ok && (got != api.Version{} || version.Print(v) != "") {
			t.Fatalf("%v and %q: Right is %v, Parse returns %v, %v, Print returns %q", v, s, version.Right(v), got, ok, version.Print(v))
		}
	}
}

// P12.1, P1: long strings.
func TestLongStrings(t *testing.T) {
	const n = 1 << 23
	for _, part := range []string{"0", "1", ".", "9", "1.", ".0", "-", "+", "a", " "} {
		long := strings.Repeat(part, n)
		for _, s := range []string{long, long + ".0.0", "0." + long + ".0", "0.0." + long, "0.0.0" + long, long + "0.0.0"} {
			noText(t, s)
		}
	}
}

// ascending are versions, each less than the next one.
var ascending = []api.Version{
	of(math.MinInt, math.MinInt, math.MinInt), of(math.MinInt, math.MaxInt, 0), of(math.MinInt+1, math.MinInt, 0), of(-1<<32, 5, 5), of(-2, 0, 0), of(-1, 9, 9), of(-1, 10, 0),
	of(0, math.MinInt, 7), of(0, -1, math.MaxInt), of(0, 0, math.MinInt), of(0, 0, math.MinInt+1), of(0, 0, -1), of(0, 0, 0), of(0, 0, 1), of(0, 0, 2), of(0, 0, 10),
	of(0, 0, api.MaxPart), of(0, 0, api.MaxPart+1), of(0, 0, math.MaxInt), of(0, 1, math.MinInt), of(0, 1, 0), of(0, 1, 1), of(0, 2, 0), of(0, 10, 0), of(0, math.MaxInt, 0),
	of(1, math.MinInt, math.MaxInt), of(1, -5, 1<<40), of(1, 0, 0), of(1, 0, 1<<62), of(1, 1, 0), of(1, 2, 3), of(1, 2, 4), of(1, 3, 2), of(2, 0, 0), of(2, 1, 3), of(3, 2, 1), of(10, 0, 0),
	of(api.MaxPart, 0, 0), of(api.MaxPart, api.MaxPart, api.MaxPart), of(api.MaxPart, api.MaxPart, api.MaxPart+1), of(api.MaxPart+1, 0, 0), of(1<<32, 0, 0), of(1<<32+1, 0, 0),
	of(math.MaxInt-1, math.MaxInt, 0), of(math.MaxInt, math.MinInt, 0), of(math.MaxInt, 0, 0), of(math.MaxInt, math.MaxInt, math.MaxInt-1), of(math.MaxInt, math.MaxInt, math.MaxInt),
}

// P12.1: versions are compared by Major, then by Minor, then by Patch, valid or not.
func TestCompare(t *testing.T) {
	for i, a := range ascending {
		for k, b := range ascending {
			want := 0
			if i < k {
				want = -1
			} else if i > k {
				want = 1
			}
			if got := version.Compare(a, b); got != want {
				t.Errorf("Compare of %v and %v returns %d, not %d", a, b, got, want)
			}
		}
	}
}

// everyVersion returns all versions with some ascending numbers, ascending.
func everyVersion(numbers ...int) []api.Version {
	var l []api.Version
	for _, a := range numbers {
		for _, b := range numbers {
			for _, c := range numbers {
				l = append(l, of(a, b, c))
			}
		}
	}
	return l
}

// P12.6: Compare is a total order of all versions with some numbers.
func TestTotalOrder(t *testing.T) {
	l := everyVersion(math.MinInt, -1, 0, 1, math.MaxInt)
	for i, a := range l {
		for k, b := range l {
			ab := version.Compare(a, b)
			if ab < -1 || ab > 1 || ab != -version.Compare(b, a) || (ab == 0) != (a == b) || (ab < 0) != (i < k) {
				t.Fatalf("Compare of %v and %v returns %d", a, b, ab)
			}
			for _, c := range l {
				if ab <= 0 && version.Compare(b, c) <= 0 && version.Compare(a, c) > 0 {
					t.Fatalf("%v, %v and %v are in no order", a, b, c)
				}
			}
		}
	}
}

// P12.2: which part has grown.
func TestBump(t *testing.T) {
	for _, x := range []struct {
		old, now api.Version
		want     int
	}{
		{of(1, 2, 3), of(1, 2, 4), 1}, {of(1, 2, 3), of(1, 2, 9), 1}, {of(1, 2, 3), of(1, 3, 0), 2}, {of(1, 2, 3), of(1, 3, 3), 2}, {of(1, 2, 3), of(1, 3, 9), 2},
		{of(1, 2, 3), of(2, 0, 0), 3}, {of(1, 2, 3), of(2, 2, 3), 3}, {of(1, 2, 3), of(2, 9, 9), 3}, {of(1, 2, 3), of(3, 1, 4), 3}, {of(1, 2, 3), of(1, 9, 1), 2},
		{of(1, 2, 3), of(1, 2, 3), 0}, {of(1, 2, 3), of(1, 2, 2), 0}, {of(1, 2, 3), of(1, 1, 9), 0}, {of(1, 2, 3), of(0, 9, 9), 0}, {of(1, 2, 3), of(0, 2, 3), 0}, {of(1, 2, 3), of(1, 1, 3), 0},
		{of(0, 0, 0), of(0, 0, 0), 0}, {of(0, 0, 0), of(0, 0, 1), 1}, {of(0, 0, 0), of(0, 1, 0), 2}, {of(0, 0, 0), of(1, 0, 0), 3}, {of(0, 0, 1), of(0, 0, 0), 0},
		{of(0, 0, 0), of(0, 0, api.MaxPart), 1}, {of(0, 0, 0), of(0, api.MaxPart, 0), 2}, {of(0, 0, 0), of(api.MaxPart, 0, 0), 3},
		{of(0, 0, 0), of(0, 0, api.MaxPart+1), 0}, {of(0, 0, 0), of(0, api.MaxPart+1, 0), 0}, {of(0, 0, 0), of(api.MaxPart+1, 0, 0), 0}, {of(0, 0, 0), of(1, 0, -1), 0}, {of(0, 0, 0), of(1, -1, 0), 0},
		{of(-1, 0, 0), of(1, 0, 0), 0}, {of(0, -1, 0), of(1, 0, 0), 0}, {of(0, 0, -1), of(1, 0, 0), 0}, {of(0, 0, -1), of(0, 0, 1), 0}, {of(0, 0, -2), of(0, 0, -1), 0}, {of(-2, 0, 0), of(-1, 0, 0), 0},
		{of(0, 0, api.MaxPart+1), of(0, 1, 0), 0}, {of(0, api.MaxPart+1, 0), of(1, 0, 0), 0}, {of(api.MaxPart+1, 0, 0), of(api.MaxPart+2, 0, 0), 0}, {of(api.MaxPart, 0, 0), of(api.MaxPart+1, 0, 0), 0},
		{of(api.MaxPart, api.MaxPart, api.MaxPart-1), of(api.MaxPart, api.MaxPart, api.MaxPart), 1}, {of(api.MaxPart, api.MaxPart, api.MaxPart), of(api.MaxPart, api.MaxPart, api.MaxPart), 0},
		{of(math.MinInt, 0, 0), of(math.MaxInt, 0, 0), 0}, {of(0, 0, 0), of(math.MaxInt, 0, 0), 0}, {of(math.MinInt, 0, 0), of(0, 0, 0), 0},
	} {
		if got := version.Bump(x.old, x.now); got != x.want {
			t.Errorf("Bump of %v and %v returns %d, not %d", x.old, x.now, got, x.want)
		}
	}
}

// P12.2, P12.8: all versions of some numbers; of two that are greater than an old one, the greater one has no lesser Bump.
func TestEveryBump(t *testing.T) {
	l := everyVersion(-1, 0, 1, 2, api.MaxPart, api.MaxPart+1)
	for _, old := range l {
		last := 0
		for _, now := range l {
			got := version.Bump(old, now)
			if want := bumped(old, now); got != want {
				t.Fatalf("Bump of %v and %v returns %d, not %d", old, now, got, want)
			}
			// The versions of l ascend, and those that are not valid are greater than none.
			if got != 0 {
				if got < last {
					t.Fatalf("Bump of %v and %v returns %d, and of a lesser version %d", old, now, got, last)
				}
				last = got
			}
		}
	}
}

// The examples of the chapter.
func TestExamples(t *testing.T) {
	if s := version.Print(of(1, 2, 3)); s != "1.2.3" {
		t.Error(s)
	}
	noText(t, "1.02.3")
	noText(t, "1.2")
	for i, now := range []api.Version{of(1, 2, 3), of(1, 2, 9), of(1, 3, 0), of(2, 0, 0)} {
		if got := version.Bump(of(1, 2, 3), now); got != i {
			t.Error(now, got)
		}
	}
	wide := version.Norm([]api.Range{{Lo: of(1, 0, 0), Hi: of(2, 0, 0)}, {Lo: of(2, 0, 0), Hi: of(3, 0, 0)}, {Lo: of(5, 0, 0), Hi: of(4, 0, 0)}})
	same(t, wide, api.Range{Lo: of(1, 0, 0), Hi: of(3, 0, 0)})
	rest := version.Minus(wide, []api.Range{{Lo: of(1, 5, 0), Hi: of(2, 0, 0)}})
	same(t, rest, api.Range{Lo: of(1, 0, 0), Hi: of(1, 5, 0)}, api.Range{Lo: of(2, 0, 0), Hi: of(3, 0, 0)})
	same(t, version.Common(rest, []api.Range{{Lo: of(1, 4, 0), Hi: of(2, 1, 0)}}), api.Range{Lo: of(1, 4, 0), Hi: of(1, 5, 0)}, api.Range{Lo: of(2, 0, 0), Hi: of(2, 1, 0)})
	if v, ok := version.Newest([]api.Version{of(1, 0, 0), of(2, 9, 9), of(3, 0, 0)}, wide); v != of(2, 9, 9) || !ok {
		t.Error(v, ok)
	}
}
