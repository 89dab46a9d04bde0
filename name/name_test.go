package name_test

import (
	"strings"
	"testing"

	"lading/api"
	"lading/name"
)

// right requires what Right says of a string.
func right(t *testing.T, s string, want bool) {
	t.Helper()
	if got := name.Right(s); got != want {
		t.Errorf("Right of %.60q returns %v", s, got)
	}
}

// alike requires what Confusable says of two strings, in both orders.
func alike(t *testing.T, a, b string, want bool) {
	t.Helper()
	if name.Confusable(a, b) != want || name.Confusable(b, a) != want {
		t.Errorf("Confusable of %.60q and %.60q returns %v, %v, not %v", a, b, name.Confusable(a, b), name.Confusable(b, a), want)
	}
}

// P10.1: names that are right.
func TestRight(t *testing.T) {
	for _, s := range []string{
		"a", "z", "m", "ab", "a0", "a9", "z5", "a-b", "a-0", "a-9", "a-b-c", "a0-1b", "lib", "http2", "a-b-c-d-e-f-g-h-i-j",
		"rn", "vv", "x86-64", strings.Repeat("z", 19), strings.Repeat("z", 20), "a" + strings.Repeat("9", 19), "a-" + strings.Repeat("b", 18),
		strings.Repeat("b", 18) + "-c",
	} {
		right(t, s, true)
	}
}

// P10.1: strings that are no right names.
func TestNotRight(t *testing.T) {
	for _, s := range []string{
		"", "-", "--", "---", "-a", "a-", "a--b", "a---b", "a-b-", "--a", "a--", "a-b--c", "0", "9", "9a", "0-a", "1", "A", "Z", "aB", "a_b",
		"a b", " a", "a ", "a.b", "a/b", "a\n", "\na", "a\x00", "\x00", "`", "{", "a`", "a{", "a:", "a@", "a\x7f", "é", "aé", "a\xff", "\x80",
		"a\u2010b", strings.Repeat("z", 21), "a" + strings.Repeat("9", 20), strings.Repeat("b", 19) + "-c", strings.Repeat("a", 20) + "-",
		strings.Repeat("a", 19) + "-", strings.Repeat("a", 1000000), strings.Repeat("a-", 10) + "a", strings.Repeat("a-", 10),
	} {
		right(t, s, false)
	}
}

// P10.1: every byte, as the first one, the last one, between others and alone.
func TestRightBytes(t *testing.T) {
	for i := range 256 {
		s := string([]byte{byte(i)})
		letter := strings.Contains("abcdefghijklmnopqrstuvwxyz", s)
		digit := strings.Contains("0123456789", s)
		right(t, s, letter)
		right(t, s+"a", letter)
		right(t, "a"+s, letter || digit)
		right(t, "a"+s+"a", letter || digit || s == "-")
		right(t, "abcdefghi"+s+"9876543210", letter || digit || s == "-")
		right(t, "abcdefghij"+s+"9876543210", false)
	}
}

// P10.1: the skeleton, with the first row that applies, in one pass.
func TestSkeleton(t *testing.T) {
	for s, want := range map[string]string{
		"": "", "a": "a", "abc": "abc",
		"rn": "m", "vv": "w", "-": "", "0": "o", "1": "l", "i": "l", "l": "l", "o": "o", "m": "m", "w": "w", "r": "r", "n": "n", "v": "v",
		"nr": "nr", "rr": "rr", "nn": "nn", "rnrn": "mm", "rrn": "rm", "rnn": "mn", "rrnn": "rmn", "rnr": "mr", "r-n": "rn", "rn-": "m", "-rn": "m",
		"vvv": "wv", "vvvv": "ww", "vvvvv": "wwv", "v-v": "vv", "v-vv": "vw", "vv-v": "wv", "avv": "aw", "vva": "wa", "rvvn": "rwn", "vrnv": "vmv",
		"---": "", "a--b": "ab", "-a-": "a", "00": "oo", "1i": "ll", "i1l": "lll", "0o": "oo", "10": "lo", "r1n": "rln",
		"corn-vvi1": "comwll", "l0g": "log", "X y": "X y", "RN": "RN", "VV": "VV", "I": "I", "O": "O", "2": "2", "9": "9", "_": "_",
		"\x00": "\x00", "\xff": "\xff", "é1": "él", "r\xffn": "r\xffn", "ı": "ı",
	} {
		if got := name.Skeleton(s); got != want {
			t.Errorf("Skeleton of %q returns %q, not %q", s, got, want)
		}
	}
}

// P10.1: every byte that the table does not name is appended as it is.
func TestSkeletonBytes(t *testing.T) {
	for i := range 256 {
		s := string([]byte{byte(i)})
		want := s
		switch s {
		case "-":
			want = ""
		case "0":
			want = "o"
		case "1", "i":
			want = "l"
		}
		if got := name.Skeleton("a" + s + "a"); got != "a"+want+"a" || name.Skeleton(s) != want || name.Skeleton(s+s+"a"+s) != name.Skeleton(s+s)+"a"+want {
			t.Errorf("Skeleton of a, %q, a returns %q", s, got)
		}
	}
}

// P10.1: strings that look alike, and strings that do not.
func TestConfusable(t *testing.T) {
	for _, pair := range [][2]string{
		{"", ""}, {"", "-"}, {"-", "---"}, {"a", "a"}, {"modern", "modem"}, {"l0g", "1og"}, {"l0g", "iog"}, {"log", "l-o-g"}, {"rn", "m"}, {"rn", "-m-"},
		{"vv", "w"}, {"i", "1"}, {"i", "l"}, {"1", "l"}, {"0", "o"}, {"vvv", "wv"}, {"a--b", "ab"}, {"corn-vvi1", "comwll"}, {"X y", "X y"}, {"a-", "a"},
		{"r-n", "r--n"}, {"rrn", "rm"}, {"v-v", "v--v"}, {"corn1", "com-i"},
	} {
		alike(t, pair[0], pair[1], true)
	}
	for _, pair := range [][2]string{
		{"", "a"}, {"-", "a"}, {"a", "b"}, {"a", "A"}, {"a", "ab"}, {"ab", "b"}, {"ab", "ba"}, {"r-n", "m"}, {"r-n", "rn"}, {"v-v", "w"}, {"v-v", "vv"}, {"vvv", "vw"},
		{"I", "l"}, {"O", "0"}, {"m", "n"}, {"nr", "m"}, {"2", "z"}, {"a_b", "ab"}, {"rnn", "rm"}, {"log", "logs"}, {"rn", "r"}, {"rn", "n"}, {"vv", "v"},
		{"a", "a "}, {"i", "ii"}, {"", "\x00"}, {"u", "v"}, {"cl", "d"},
	} {
		alike(t, pair[0], pair[1], false)
	}
}

// P10.1: the first of the names is found, and what it says if there is none.
func TestGuard(t *testing.T) {
	for i, x := range []struct {
		names []string
		name  string
		want  string
		ok    bool
	}{
		{nil, "a", "", false},
		{[]string{}, "", "", false},
		{[]string{"a"}, "a", "a", true},
		{[]string{"abc", "l0g", "log"}, "1og", "l0g", true},
		{[]string{"abc", "log", "l0g"}, "l0g", "log", true},
		{[]string{"log", "abc"}, "l-0-g", "log", true},
		{[]string{"abc", "def", "iog"}, "log", "iog", true},
		{[]string{"abc", "def", "iog"}, "lo", "", false},
		{[]string{"abc", "def", "iog"}, "logs", "", false},
		{[]string{"A", "a b", "a--b", "ab"}, "a-b", "a--b", true},
		{[]string{"a", "-"}, "", "-", true},
		{[]string{"a", "", "-"}, "--", "", true},
		{[]string{"a", "b"}, "", "", false},
		{[]string{"modern"}, "modem", "modern", true},
		{[]string{"mode-rn"}, "modem", "mode-rn", true},
		{[]string{"moder-n"}, "modem", "", false},
	} {
		if got, ok := name.Guard(x.names, x.name); got != x.want || ok != x.ok {
			t.Errorf("%d: Guard returns %q, %v, not %q, %v", i, got, ok, x.want, x.ok)
		}
	}
}

// The examples of the chapter.
func TestExamples(t *testing.T) {
	if s := name.Skeleton("corn-vvi1"); s != "comwll" {
		t.Error(s)
	}
	if !name.Confusable("modern", "modem") {
		t.Error("modern and modem do not look alike")
	}
	for _, s := range []string{"a--b", "9a", "a-"} {
		right(t, s, false)
	}
	if e := name.Free([]string{"libo"}, nil, "lib0", 0); e != api.ErrClash {
		t.Error(e)
	}
	holds, e := name.Drop(nil, "geo", 9)
	if before, after := name.Free(nil, holds, "ge0", 8), name.Free(nil, holds, "ge0", 9); e != api.OK || before != api.ErrHold || after != api.OK {
		t.Error(e, before, after)
	}
}

// P10.1, P1: long strings take no more time than their bytes.
func TestLongStrings(t *testing.T) {
	const n = 1 << 22
	for part, want := range map[string]string{"rn": "m", "vv": "w", "-": "", "0": "o", "a": "a", "1": "l", "i": "l"} {
		s, skeleton := strings.Repeat(part, n), strings.Repeat(want, n)
		if name.Skeleton(s) != skeleton {
			t.Errorf("the skeleton of %d times %q is another one", n, part)
		}
		alike(t, s, skeleton, true)
		alike(t, s, skeleton+"x", false)
		right(t, s, false)
	}
}
