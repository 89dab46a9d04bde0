package claim_test

import (
	"math"
	"slices"
	"strings"
	"testing"

	"lading/api"
	"lading/claim"
)

func of(kind, n, time int, text string) api.Claim {
	return api.Claim{Kind: kind, N: n, Time: time, Text: text}
}

// row is a kind of claims: the Text of one of its claims, and the greatest N, Time and length of the Text of those that are valid.
type row struct {
	kind               int
	text               string
	mostN, mostT, most int
}

func rows() []row {
	return []row{
		{api.CmEntry, "1:a,x", 199999, 0, 20000},
		{api.CmSize, "", 200000, 1073741824, 0},
		{api.CmAbsent, "a", 200000, 0, 20000},
		{api.CmBuilt, "a", 1073741824, 0, 20000},
		{api.CmRan, "a", 1073741824, 1073741824, 20000},
	}
}

// edges are ints around a limit and far from it: those that keep to it, and those that do not.
func edges(most int) (in, out []int) {
	for _, n := range []int{
		0, 1, 2, most / 2, most - 1, most, most + 1, most + 2, -1, -2, -most, 199999, 200000, 200001, 1 << 30, 1<<30 + 1, 1 << 31, 1 << 32, 1<<32 + 1,
		-1 << 32, math.MaxInt - 1, math.MaxInt, math.MinInt, math.MinInt + 1, math.MinInt + most,
	} {
		if n >= 0 && n <= most {
			in = append(in, n)
		} else {
			out = append(out, n)
		}
	}
	return in, out
}

// isRight requires that a claim is valid, has this text, and is read from it.
func isRight(t *testing.T, c api.Claim, text string) {
	t.Helper()
	if !claim.Right(c) {
		t.Errorf("%.80q is not valid", text)
	}
	if s := claim.Text(c); s != text {
		t.Errorf("the text of %.80q is %.80q", text, s)
	}
	if got, e := claim.Read(text); got != c || e != api.OK {
		t.Errorf("Read of %.80q returns %.80q, %d", text, written(got), e)
	}
}

// isWrong requires that a claim is not valid, has no text, and is not read from what would be its text.
func isWrong(t *testing.T, c api.Claim) {
	t.Helper()
	if claim.Right(c) {
		t.Errorf("%.80q is valid", written(c))
	}
	if s := claim.Text(c); s != "" {
		t.Errorf("the text of %.80q is %.80q", written(c), s)
	}
	isNoText(t, written(c))
}

// isNoText requires that nothing is read from a string.
func isNoText(t *testing.T, s string) {
	t.Helper()
	if got, e := claim.Read(s); got != (api.Claim{}) || e != api.ErrForm {
		t.Errorf("Read of %.80q returns %.80q, %d", s, written(got), e)
	}
}

// P6.1: the texts of some valid claims, as they are written.
func TestTexts(t *testing.T) {
	long := strings.Repeat("x", 19996)
	for text, c := range map[string]api.Claim{
		"0;2;0;5:1:a,x,":                     of(api.CmEntry, 2, 0, "1:a,x"),
		"0;0;0;3:0:,,":                       of(api.CmEntry, 0, 0, "0:,"),
		"0;10;0;7:4::,;0,,":                  of(api.CmEntry, 10, 0, "4::,;0,"),
		"0;7;0;21:9:0;0;0;0:,,1;2;3;0:,,":    of(api.CmEntry, 7, 0, "9:0;0;0;0:,,1;2;3;0:,"),
		"0;199999;0;20000:1:a," + long + ",": of(api.CmEntry, 199999, 0, "1:a,"+long),
		"1;0;0;0:,":                          of(api.CmSize, 0, 0, ""),
		"1;3;7;0:,":                          of(api.CmSize, 3, 7, ""),
		"1;200000;1073741824;0:,":            of(api.CmSize, 200000, 1<<30, ""),
		"2;5;0;0:,":                          of(api.CmAbsent, 5, 0, ""),
		"2;0;0;4:1:a,,":                      of(api.CmAbsent, 0, 0, "1:a,"),
		"2;200000;0;1:a,":                    of(api.CmAbsent, 200000, 0, "a"),
		"3;1;0;0:,":                          of(api.CmBuilt, 1, 0, ""),
		"3;7;0;9:4;0;0;0:,,":                 of(api.CmBuilt, 7, 0, "4;0;0;0:,"),
		"3;1073741824;0;3:\x00\xff\n,":       of(api.CmBuilt, 1<<30, 0, "\x00\xff\n"),
		"4;0;0;20000:" + long + "1:a,,":      of(api.CmRan, 0, 0, long+"1:a,"),
		"4;12;345;2:é,":                      of(api.CmRan, 12, 345, "é"),
		"4;1073741824;1073741824;1:,,":       of(api.CmRan, 1<<30, 1<<30, ","),
	} {
		isRight(t, c, text)
	}
}

// P6.1: the N and the Time of a valid claim are from 0 to a limit of its kind, whatever the other fields are.
func TestNumbers(t *testing.T) {
	for _, k := range rows() {
		inN, outN := edges(k.mostN)
		inT, outT := edges(k.mostT)
		for _, n := range inN {
			for _, time := range inT {
				c := of(k.kind, n, time, k.text)
				isRight(t, c, written(c))
			}
			for _, time := range outT {
				isWrong(t, of(k.kind, n, time, k.text))
			}
		}
		for _, n := range outN {
			for _, time := range slices.Concat(inT, outT) {
				isWrong(t, of(k.kind, n, time, k.text))
			}
		}
	}
}

// P6.1: the Text of a valid claim has at most as many bytes as its kind permits, and may have any bytes.
func TestLengths(t *testing.T) {
	for _, k := range rows() {
		for _, n := range []int{0, 1, 2, 9, 10, 99, 100, 9999, 10000, 19998, 19999, 20000, 20001, 20002, 32768, 65535, 65536, 65541, 1 << 20} {
			for _, filler := range []string{"x", "\x00", "\xff", ",", ":", ";", "0", "1:a,"} {
				text := strings.Repeat(filler, n)[:n]
				if k.kind == api.CmEntry {
					// The key and its encoding are part of the Text.
					text = ("0:," + text)[:max(n, 3)]
				}
				c := of(k.kind, 1, 0, text)
				if len(text) <= k.most {
					isRight(t, c, written(c))
				} else {
					isWrong(t, c)
				}
			}
		}
	}
}

// P6.1: a number that is none of the kinds makes no claim valid.
func TestKinds(t *testing.T) {
	for _, kind := range []int{-1, -2, -5, 5, 6, 7, 10, 100, 256, 257, 1 << 31, 1 << 32, 1<<32 + 1, -1 << 32, math.MaxInt, math.MinInt, math.MinInt + 1, math.MinInt + 4} {
		for _, n := range []int{0, 1, -1, kind} {
			for _, time := range []int{0, 1, -1, kind} {
				for _, text := range []string{"", "a", "1:a,", "0:,"} {
					isWrong(t, of(kind, n, time, text))
				}
			}
		}
	}
}

// keyed are texts that have a key, with their keys.
func keyed() map[string]string {
	long := strings.Repeat("k", 19993)
	return map[string]string{
		"1:a,": "a", "1:a,x": "a", "1:a,,": "a", "3:a,b,": "a,b", "0:,": "", "0:,x": "", "0:,0:,": "", "2::,,": ":,", "1:,,": ",", "1::,": ":", "3:0:,,": "0:,",
		"4:1:a,,1:b,": "1:a,", "1:a,1:b,": "a", "10:0123456789,": "0123456789", "9:012345678,9": "012345678", "3:\x00\xff\n,\x00": "\x00\xff\n",
		"2:é,": "é", "1:\xc3,\xa9": "\xc3", "2:1:,": "1:", "1:a,\xff": "a", "19993:" + long + ",": long,
	}
}

// keyless are texts that have no key.
func keyless() []string {
	return []string{
		"", "a", ",", ":", ":,", "0", "0:", "0;", "0,", "0;,", "0:;", "0:a,", "1", "1:", "1:,", "1:a", "1:a;", "1:a:", "1;a,", "1a,", "1:ab,", "2:a,", "2:a,b", "3:ab,",
		"00:,", "01:a,", "-0:,", "-1:a,", "+1:a,", " 1:a,", "1 :a,", "x1:a,", ",1:a,", "1:é,", "a:a,", "\x001:a,", "0[]", "1[1:a,]", "1;1:a,", "10:a,", "5:1:a,",
		"4294967297:a,", "9223372036854775807:a,", "9223372036854775808:a,", "18446744073709551617:a,", "18446744073709551616:,",
		strings.Repeat("0", 100) + "1:a,", strings.Repeat("9", 100) + ":a,", "20000:" + strings.Repeat("k", 19999) + ",",
	}
}

// P6.2: Key returns the string with whose encoding a text begins; also of a text that is too long for an entry.
func TestKey(t *testing.T) {
	long := strings.Repeat("k", 1<<20)
	texts := keyed()
	texts["1048576:"+long+","] = long
	texts["1048576:"+long+",x"] = long
	texts["1:a,"+long] = "a"
	for text, key := range texts {
		if k, has := claim.Key(text); k != key || !has {
			t.Errorf("Key of %.60q returns %.60q, %v", text, k, has)
		}
	}
	for _, text := range append(keyless(), long, "1048577:"+long+",", "1048575:"+long+",", "1048576:"+long) {
		if k, has := claim.Key(text); k != "" || has {
			t.Errorf("Key of %.60q returns %.60q, %v", text, k, has)
		}
	}
}

// P6.1: the Text of an entry must have a key; that of the other kinds need not have one, and may.
func TestEntriesHaveKeys(t *testing.T) {
	for text := range keyed() {
		c := of(api.CmEntry, 1, 0, text)
		isRight(t, c, written(c))
	}
	for _, text := range keyless() {
		isWrong(t, of(api.CmEntry, 1, 0, text))
	}
	for _, kind := range []int{api.CmAbsent, api.CmBuilt, api.CmRan} {
		for text := range keyed() {
			c := of(kind, 1, 0, text)
			isRight(t, c, written(c))
		}
		for _, text := range keyless() {
			if len(text) <= 20000 {
				c := of(kind, 1, 0, text)
				isRight(t, c, written(c))
			}
		}
	}
}

// noTexts are strings that are not the text of a claim, most of them nearly one.
func noTexts() []string {
	return []string{
		"", ";", ";;;:,", "0", "1;3;7", "1;3;7;", "1;3;7;0", "1;3;7;0:", "1;3;7;0:,;", "1;3;7;0:,,", "1;3;7;0:,0:,", "1;3;7;0:,1;3;7;0:,", "1;3;7;0:, ", " 1;3;7;0:,",
		"1;3;7;1:a,", "1;03;7;0:,", "01;3;7;0:,", "1;3;07;0:,", "1;3;7;00:,", "00;2;0;5:1:a,x,", "0;2;0;05:1:a,x,", "0;2;00;5:1:a,x,", "-1;3;7;0:,", "1;-3;7;0:,",
		"1;3;-7;0:,", "1;-0;7;0:,", "-0;2;0;5:1:a,x,", "1;3;7;-0:,", "+1;3;7;0:,", "1;+3;7;0:,", "1,3,7,0:,", "1;3;7:0:,", "1;3;7;0;,", "1:3;7;0:,", "1;3;0:,", "1;3;7;7;0:,",
		"3;7;0:,", "1;;7;0:,", "1;3;;0:,", ";3;7;0:,", "1;3;7;:,", "5;0;0;0:,", "5;0;0;3:0:,,", "6;0;0;1:a,", "10;0;0;0:,", "256;0;0;3:0:,,", "4294967297;3;7;0:,",
		"18446744073709551617;3;7;0:,", "1;18446744073709551617;7;0:,", "1;3;18446744073709551617;0:,", "1;3;7;18446744073709551616:,", "9223372036854775808;3;7;0:,",
		"1;4294967296;7;0:,", "1;200001;7;0:,", "1;3;1073741825;0:,", "0;200000;0;3:0:,,", "0;2;1;5:1:a,x,", "0;2;0;1:a,", "0;2;0;0:,", "0;2;0;5:1:a,x", "0;2;0;4:1:a,x,",
		"0;2;0;6:1:a,x,", "0;2;0;1:a,x", "0;2;0;1:a,", "0;2;0;5:01:a,,", "2;200001;0;1:a,", "2;1;1;1:a,", "3;1073741825;0;1:a,", "3;1;1;1:a,", "4;1073741825;0;1:a,",
		"4;0;1073741825;1:a,", "4;0;0;20001:" + strings.Repeat("x", 20001) + ",", "2;0;0;20000:" + strings.Repeat("x", 20001) + ",", "3;0;0;20001:" + strings.Repeat("x", 20000) + ",",
		"0;0;0;20001:0:," + strings.Repeat("x", 19998) + ",", "1;3;7;0[]", "4[1;3;7;0;]", "9:1;3;7;0:,,", "\x00", "\xff", "1;3;7;0:,\x00", "1;\u0663;7;0:,", "1;3;7;0x0:,", "1;1e0;7;0:,",
		strings.Repeat("9", 10000), strings.Repeat("0;", 10000), "1;3;7;9223372036854775807:,",
	}
}

// P6.1: from whatever is not the text of a valid claim, nothing is read.
func TestNoTexts(t *testing.T) {
	for _, s := range noTexts() {
		isNoText(t, s)
	}
}

// rightClaims are valid claims of all kinds, all of them different.
func rightClaims() []api.Claim {
	var l []api.Claim
	for _, n := range []int{0, 1, 2, 3, 199999, 200000, 1 << 30} {
		for _, time := range []int{0, 1, 2, 1 << 30} {
			for _, text := range []string{"", "a", "b", "ab", "A", "0:,", "1:a,", "1:a,x", "1:b,", "3:a,b,", "2:ab,", "1:a", "01:a,", "4:1:a,,", strings.Repeat("x", 20000), "0:," + strings.Repeat("x", 19997)} {
				for kind := range api.CmKinds {
					if c := of(kind, n, time, text); rightModel(c) {
						l = append(l, c)
					}
				}
			}
		}
	}
	return l
}

// P6.5: Read of Text of a valid claim is this claim, and no two of them have the same text.
func TestReadInvertsText(t *testing.T) {
	texts := map[string]api.Claim{}
	for _, c := range rightClaims() {
		s := claim.Text(c)
		isRight(t, c, s)
		if other, there := texts[s]; there {
			t.Errorf("%.80q and %.80q have the same text", written(other), written(c))
		}
		texts[s] = c
	}
	if len(texts) < 500 {
		t.Errorf("only %d texts", len(texts))
	}
}

// P6.1 and P6.5: a text of which a byte is changed, added or removed is that of another claim, or of none.
func TestNearlyTexts(t *testing.T) {
	for _, c := range rightClaims() {
		s := claim.Text(c)
		if len(s) > 40 {
			continue
		}
		for i := range len(s) + 1 {
			checkRead(t, s[:i])
			checkRead(t, s[i:])
			for _, b := range []string{"0", "1", "2", "9", ";", ":", ",", "-", "a", "[", "\xff"} {
				checkRead(t, s[:i]+b+s[i:])
				if i < len(s) {
					checkRead(t, s[:i]+b+s[i+1:])
				}
			}
			if i < len(s) {
				checkRead(t, s[:i]+s[i+1:])
			}
		}
	}
}

// P6.1 and P6.2: of all short strings over bytes that matter those are read that are the text of a claim, and those have a key that begin with one.
func TestAllShortStrings(t *testing.T) {
	const alphabet, most = "01;:,", 6
	var walk func(s string)
	walk = func(s string) {
		checkRead(t, s)
		for _, front := range []string{"0;1;0;", "1;0;", "2;1;", "4;0;1;"} {
			checkRead(t, front+s)
		}
		checkRead(t, s+"0:,")
		checkRead(t, s+"0;0;0:,")
		for i := 0; i < len(alphabet) && len(s) < most && !t.Failed(); i++ {
			walk(s + alphabet[i:i+1])
		}
	}
	walk("")
}

// P6.4: what a call returns does not depend on the calls before it.
func TestPure(t *testing.T) {
	type results struct {
		right, clash bool
		text, key    string
		has          bool
		read         api.Claim
		e            api.Errno
	}
	call := func(a, b api.Claim) results {
		var r results
		r.right, r.clash, r.text = claim.Right(a), claim.Contradict(a, b), claim.Text(a)
		r.key, r.has = claim.Key(a.Text)
		r.read, r.e = claim.Read(written(a))
		return r
	}
	l := append(rightClaims()[:200], of(-1, 0, 0, ""), of(5, 1, 1, "0:,"), of(api.CmEntry, 200000, 0, "1:a,"), of(api.CmSize, 0, 0, "a"), of(api.CmRan, -1, -1, "a"))
	first := make([]results, len(l))
	for i := range l {
		first[i] = call(l[i], l[i/2])
	}
	for range 3 {
		for i := len(l) - 1; i >= 0; i-- {
			if got := call(l[i], l[i/2]); got != first[i] {
				t.Errorf("%.80q: %v, not %v", written(l[i]), got, first[i])
			}
		}
	}
}
