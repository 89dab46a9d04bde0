package claim_test

import (
	"math"
	"strings"
	"testing"

	"lading/api"
	"lading/claim"
)

// pair is two claims.
type pair struct{ a, b api.Claim }

// contradictions are pairs that contradict each other, some of each case of the document.
func contradictions() []pair {
	long := strings.Repeat("x", 19996)
	return []pair{
		{of(api.CmEntry, 2, 0, "1:a,x"), of(api.CmEntry, 2, 0, "1:a,y")},
		{of(api.CmEntry, 2, 0, "1:a,x"), of(api.CmEntry, 2, 0, "1:b,x")},
		{of(api.CmEntry, 2, 0, "1:a,x"), of(api.CmEntry, 2, 0, "1:a,")},
		{of(api.CmEntry, 0, 0, "0:,"), of(api.CmEntry, 0, 0, "0:,0:,")},
		{of(api.CmEntry, 199999, 0, "1:a,"+long), of(api.CmEntry, 199999, 0, "1:a,"+long[1:]+"y")},
		{of(api.CmSize, 3, 7, ""), of(api.CmSize, 2, 7, "")},
		{of(api.CmSize, 0, 0, ""), of(api.CmSize, 1, 0, "")},
		{of(api.CmSize, 200000, 1<<30, ""), of(api.CmSize, 199999, 1<<30, "")},
		{of(api.CmSize, 3, 7, ""), of(api.CmSize, 2, 8, "")},
		{of(api.CmSize, 3, 7, ""), of(api.CmSize, 4, 6, "")},
		{of(api.CmSize, 1, 0, ""), of(api.CmSize, 0, 1, "")},
		{of(api.CmSize, 200000, 0, ""), of(api.CmSize, 0, 1<<30, "")},
		{of(api.CmSize, 200000, 1<<30-1, ""), of(api.CmSize, 199999, 1<<30, "")},
		{of(api.CmAbsent, 3, 0, "a"), of(api.CmEntry, 2, 0, "1:a,x")},
		{of(api.CmAbsent, 3, 0, "a"), of(api.CmEntry, 0, 0, "1:a,")},
		{of(api.CmAbsent, 1, 0, ""), of(api.CmEntry, 0, 0, "0:,x")},
		{of(api.CmAbsent, 3, 0, "1:a,"), of(api.CmEntry, 1, 0, "4:1:a,,")},
		{of(api.CmAbsent, 200000, 0, "a"), of(api.CmEntry, 199999, 0, "1:a,"+long)},
		{of(api.CmAbsent, 200000, 0, long[:19990]), of(api.CmEntry, 0, 0, "19990:"+long[:19990]+",")},
		{of(api.CmBuilt, 1, 0, "a"), of(api.CmBuilt, 2, 0, "a")},
		{of(api.CmBuilt, 0, 0, ""), of(api.CmBuilt, 1<<30, 0, "")},
		{of(api.CmBuilt, 0, 0, long), of(api.CmBuilt, 1, 0, long)},
		{of(api.CmRan, 1, 4, "a"), of(api.CmRan, 1, 4, "b")},
		{of(api.CmRan, 0, 0, ""), of(api.CmRan, 0, 0, "a")},
		{of(api.CmRan, 1<<30, 1<<30, long), of(api.CmRan, 1<<30, 1<<30, long+"x")},
	}
}

// agreements are pairs of valid claims that do not contradict each other, most of them nearly.
func agreements() []pair {
	long := strings.Repeat("x", 19996)
	return []pair{
		{of(api.CmEntry, 2, 0, "1:a,x"), of(api.CmEntry, 3, 0, "1:a,y")},
		{of(api.CmEntry, 2, 0, "1:a,x"), of(api.CmEntry, 3, 0, "1:a,x")},
		{of(api.CmEntry, 2, 0, "1:a,x"), of(api.CmEntry, 2, 0, "1:a,x")},
		{of(api.CmSize, 3, 7, ""), of(api.CmSize, 3, 7, "")},
		{of(api.CmSize, 3, 7, ""), of(api.CmSize, 3, 8, "")},
		{of(api.CmSize, 3, 7, ""), of(api.CmSize, 4, 8, "")},
		{of(api.CmSize, 0, 0, ""), of(api.CmSize, 200000, 1<<30, "")},
		{of(api.CmSize, 200000, 0, ""), of(api.CmSize, 200000, 1<<30, "")},
		{of(api.CmAbsent, 2, 0, "a"), of(api.CmEntry, 2, 0, "1:a,x")},
		{of(api.CmAbsent, 0, 0, "a"), of(api.CmEntry, 0, 0, "1:a,x")},
		{of(api.CmAbsent, 199999, 0, "a"), of(api.CmEntry, 199999, 0, "1:a,x")},
		{of(api.CmAbsent, 3, 0, "b"), of(api.CmEntry, 2, 0, "1:a,x")},
		{of(api.CmAbsent, 3, 0, "x"), of(api.CmEntry, 2, 0, "1:a,x")},
		{of(api.CmAbsent, 3, 0, ""), of(api.CmEntry, 2, 0, "1:a,x")},
		{of(api.CmAbsent, 3, 0, "a"), of(api.CmEntry, 2, 0, "0:,")},
		{of(api.CmAbsent, 3, 0, "A"), of(api.CmEntry, 2, 0, "1:a,x")},
		{of(api.CmAbsent, 3, 0, "1:a,"), of(api.CmEntry, 2, 0, "1:a,")},
		{of(api.CmAbsent, 3, 0, "1:a,x"), of(api.CmEntry, 2, 0, "1:a,x")},
		{of(api.CmAbsent, 3, 0, "a"), of(api.CmEntry, 2, 0, "2:ab,")},
		{of(api.CmAbsent, 3, 0, "ab"), of(api.CmEntry, 2, 0, "1:a,b")},
		{of(api.CmAbsent, 3, 0, "a"), of(api.CmEntry, 2, 0, "1:b,1:a,")},
		{of(api.CmAbsent, 3, 0, "a"), of(api.CmAbsent, 2, 0, "a")},
		{of(api.CmAbsent, 3, 0, "a"), of(api.CmAbsent, 3, 0, "b")},
		{of(api.CmAbsent, 3, 0, "a"), of(api.CmSize, 2, 0, "")},
		{of(api.CmAbsent, 3, 0, ""), of(api.CmSize, 3, 0, "")},
		{of(api.CmEntry, 7, 0, "0:,"), of(api.CmSize, 3, 0, "")},
		{of(api.CmBuilt, 1, 0, "a"), of(api.CmBuilt, 1, 0, "a")},
		{of(api.CmBuilt, 1, 0, "a"), of(api.CmBuilt, 1, 0, "b")},
		{of(api.CmBuilt, 1, 0, "a"), of(api.CmBuilt, 2, 0, "b")},
		{of(api.CmBuilt, 1, 0, long), of(api.CmBuilt, 2, 0, long[1:])},
		{of(api.CmBuilt, 1, 0, "a"), of(api.CmRan, 2, 0, "a")},
		{of(api.CmBuilt, 1, 0, "1:a,"), of(api.CmEntry, 1, 0, "1:a,x")},
		{of(api.CmBuilt, 3, 0, "a"), of(api.CmEntry, 1, 0, "1:a,")},
		{of(api.CmBuilt, 1, 0, ""), of(api.CmSize, 2, 0, "")},
		{of(api.CmBuilt, 1, 0, "a"), of(api.CmAbsent, 2, 0, "a")},
		{of(api.CmRan, 1, 4, "a"), of(api.CmRan, 1, 4, "a")},
		{of(api.CmRan, 1, 4, "a"), of(api.CmRan, 2, 4, "b")},
		{of(api.CmRan, 1, 4, "a"), of(api.CmRan, 2, 4, "a")},
		{of(api.CmRan, 1, 4, "a"), of(api.CmRan, 1, 5, "b")},
		{of(api.CmRan, 1, 4, "a"), of(api.CmRan, 4, 1, "b")},
		{of(api.CmRan, 3, 7, ""), of(api.CmSize, 2, 7, "")},
		{of(api.CmRan, 3, 0, "a"), of(api.CmEntry, 2, 0, "1:a,x")},
		{of(api.CmRan, 2, 0, "1:a,y"), of(api.CmEntry, 2, 0, "1:a,x")},
		{of(api.CmRan, 3, 0, "a"), of(api.CmAbsent, 3, 0, "b")},
	}
}

// contradict requires what Contradict returns for two claims, in both orders.
func contradict(t *testing.T, p pair, want bool) {
	t.Helper()
	if claim.Contradict(p.a, p.b) != want || claim.Contradict(p.b, p.a) != want {
		t.Errorf("Contradict of %.80q and %.80q is not %v in both orders", written(p.a), written(p.b), want)
	}
}

// P6.3: claims contradict each other in the cases of the document, and in no others.
func TestContradict(t *testing.T) {
	for _, p := range contradictions() {
		contradict(t, p, true)
	}
	for _, p := range agreements() {
		contradict(t, p, false)
		if !claim.Right(p.a) || !claim.Right(p.b) {
			t.Errorf("%.80q or %.80q is not valid", written(p.a), written(p.b))
		}
	}
}

// spoiled are claims that differ from a valid one in one field, and are not valid.
func spoiled(c api.Claim) []api.Claim {
	var l []api.Claim
	for _, n := range []int{-1, 200000, 200001, 1<<30 + 1, math.MaxInt, math.MinInt} {
		l = append(l, of(n, c.N, c.Time, c.Text), of(c.Kind, n, c.Time, c.Text), of(c.Kind, c.N, n, c.Text))
	}
	for _, kind := range []int{api.CmKinds, c.Kind + 256, c.Kind - 256, c.Kind + 1<<32} {
		l = append(l, of(kind, c.N, c.Time, c.Text))
	}
	for _, text := range []string{"", "a", c.Text + strings.Repeat("x", 20001), "x" + c.Text} {
		l = append(l, of(c.Kind, c.N, c.Time, text))
	}
	l = append(l, of(c.Kind, c.N, c.Time+1, c.Text))
	var wrong []api.Claim
	for _, s := range l {
		if !rightModel(s) {
			wrong = append(wrong, s)
		}
	}
	return wrong
}

// P6.3: a claim that is not valid contradicts none.
func TestContradictOfWrongClaims(t *testing.T) {
	for _, p := range contradictions() {
		as, bs := spoiled(p.a), spoiled(p.b)
		for _, a := range as {
			contradict(t, pair{a, p.b}, false)
			contradict(t, pair{a, p.a}, false)
			contradict(t, pair{a, a}, false)
			for _, b := range bs {
				contradict(t, pair{a, b}, false)
			}
		}
		for _, b := range bs {
			contradict(t, pair{p.a, b}, false)
		}
	}
	for _, p := range []pair{
		{of(api.CmEntry, 2, 0, "x"), of(api.CmEntry, 2, 0, "1:a,y")},
		{of(api.CmEntry, 2, 0, "x"), of(api.CmEntry, 2, 0, "y")},
		{of(api.CmEntry, 2, 0, "a"), of(api.CmAbsent, 3, 0, "")},
		{of(api.CmEntry, 2, 1, "1:a,"), of(api.CmEntry, 2, 1, "1:b,")},
		{of(api.CmEntry, 200000, 0, "1:a,"), of(api.CmEntry, 200000, 0, "1:b,")},
		{of(api.CmEntry, -1, 0, "1:a,"), of(api.CmAbsent, 3, 0, "a")},
		{of(api.CmEntry, 199999, 0, "1:a,"), of(api.CmAbsent, 200001, 0, "a")},
		{of(api.CmSize, 3, -1, ""), of(api.CmSize, 2, 0, "")},
		{of(api.CmSize, 3, 0, "a"), of(api.CmSize, 2, 0, "a")},
		{of(api.CmSize, 0, 1, ""), of(api.CmSize, -1, 1, "")},
		{of(api.CmSize, 200001, 1, ""), of(api.CmSize, 200000, 1, "")},
		{of(api.CmSize, 1, 1<<30, ""), of(api.CmSize, 0, 1<<30+1, "")},
		{of(api.CmBuilt, 1, 1, "a"), of(api.CmBuilt, 2, 1, "a")},
		{of(api.CmBuilt, -1, 0, "a"), of(api.CmBuilt, 2, 0, "a")},
		{of(api.CmRan, 1<<30+1, 0, "a"), of(api.CmRan, 1<<30+1, 0, "b")},
		{of(api.CmRan, 0, -1, "a"), of(api.CmRan, 0, -1, "b")},
		{of(api.CmKinds, 0, 0, "a"), of(api.CmKinds, 0, 0, "b")},
		{of(-1, 0, 0, "a"), of(-1, 1, 0, "a")},
	} {
		contradict(t, p, false)
	}
}

// P6.3 and P6.6: all pairs of many claims, those that are not valid included, in both orders, and each with itself.
func TestAllPairs(t *testing.T) {
	l := rightClaims()
	for _, c := range l[:40] {
		l = append(l, spoiled(c)...)
	}
	for i, a := range l {
		for _, b := range l[:i+1] {
			checkPair(t, a, b)
		}
		if t.Failed() {
			return
		}
	}
}
