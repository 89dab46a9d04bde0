package claim_test

import (
	"fmt"
	"math/rand"
	"regexp"
	"strconv"
	"testing"

	"lading/api"
	"lading/claim"
)

// rightModel says in the document's words whether a claim is valid.
func rightModel(c api.Claim) bool {
	short := len(c.Text) <= 20000
	switch c.Kind {
	case api.CmEntry:
		_, has := keyModel(c.Text)
		return 0 <= c.N && c.N <= 199999 && c.Time == 0 && short && has
	case api.CmSize:
		return 0 <= c.N && c.N <= 200000 && 0 <= c.Time && c.Time <= 1073741824 && c.Text == ""
	case api.CmAbsent:
		return 0 <= c.N && c.N <= 200000 && c.Time == 0 && short
	case api.CmBuilt:
		return 0 <= c.N && c.N <= 1073741824 && c.Time == 0 && short
	case api.CmRan:
		return 0 <= c.N && c.N <= 1073741824 && 0 <= c.Time && c.Time <= 1073741824 && short
	}
	return false
}

// written is what the text of a claim would be if it were valid.
func written(c api.Claim) string {
	return fmt.Sprintf("%d;%d;%d;%d:%s,", c.Kind, c.N, c.Time, len(c.Text), c.Text)
}

var front = regexp.MustCompile(`^(0|[1-9][0-9]*):`)

// keyModel reads the key of a text with a regular expression.
func keyModel(text string) (string, bool) {
	m := front.FindStringSubmatch(text)
	if m == nil {
		return "", false
	}
	n, err := strconv.Atoi(m[1])
	rest := text[len(m[0]):]
	if err != nil || n >= len(rest) || rest[n] != ',' {
		return "", false
	}
	return rest[:n], true
}

var form = regexp.MustCompile(`^(?s)(0|[1-9][0-9]*);(0|[1-9][0-9]*);(0|[1-9][0-9]*);(0|[1-9][0-9]*):(.*),$`)

// readModel reads a text with a regular expression.
func readModel(s string) (api.Claim, api.Errno) {
	m := form.FindStringSubmatch(s)
	if m == nil {
		return api.Claim{}, api.ErrForm
	}
	var n [4]int
	for i := range n {
		k, err := strconv.Atoi(m[i+1])
		if err != nil {
			return api.Claim{}, api.ErrForm
		}
		n[i] = k
	}
	c := api.Claim{Kind: n[0], N: n[1], Time: n[2], Text: m[5]}
	if n[3] != len(c.Text) || !rightModel(c) {
		return api.Claim{}, api.ErrForm
	}
	return c, api.OK
}

// contradictModel goes through the cases of the document, for both orders.
func contradictModel(a, b api.Claim) bool {
	if !rightModel(a) || !rightModel(b) {
		return false
	}
	for range 2 {
		both := func(kind int) bool { return a.Kind == kind && b.Kind == kind }
		key, _ := keyModel(b.Text)
		switch {
		case both(api.CmEntry) && a.N == b.N && a.Text != b.Text,
			both(api.CmSize) && a.Time == b.Time && a.N != b.N,
			both(api.CmSize) && a.Time < b.Time && a.N > b.N,
			a.Kind == api.CmAbsent && b.Kind == api.CmEntry && b.N < a.N && key == a.Text,
			both(api.CmBuilt) && a.Text == b.Text && a.N != b.N,
			both(api.CmRan) && a.Time == b.Time && a.N == b.N && a.Text != b.Text:
			return true
		}
		a, b = b, a
	}
	return false
}

// checkClaim requires that Right, Text and Read do with a claim what the model does.
func checkClaim(t *testing.T, c api.Claim) {
	t.Helper()
	right, text, want, err := rightModel(c), "", api.Claim{}, api.ErrForm
	if right {
		text, want, err = written(c), c, api.OK
	}
	if claim.Right(c) != right {
		t.Errorf("Right of %.80q is %v", written(c), !right)
	}
	if s := claim.Text(c); s != text {
		t.Errorf("Text of %.80q is %.80q", written(c), s)
	}
	if got, e := claim.Read(written(c)); got != want || e != err {
		t.Errorf("Read of %.80q returns %.80q, %d", written(c), written(got), e)
	}
}

// checkRead requires that Read and Key do with a string what the model does, and that Text inverts Read.
func checkRead(t *testing.T, s string) {
	t.Helper()
	want, err := readModel(s)
	got, e := claim.Read(s)
	if got != want || e != err {
		t.Errorf("Read of %.80q returns %.80q, %d", s, written(got), e)
	}
	if e == api.OK && claim.Text(got) != s {
		t.Errorf("Text of what is read of %.80q is %.80q", s, claim.Text(got))
	}
	key, has := keyModel(s)
	if k, is := claim.Key(s); k != key || is != has {
		t.Errorf("Key of %.80q returns %.80q, %v", s, k, is)
	}
}

// checkPair requires that Contradict does with two claims, in both orders, what the model does, and that neither contradicts itself.
func checkPair(t *testing.T, a, b api.Claim) {
	t.Helper()
	want := contradictModel(a, b)
	if claim.Contradict(a, b) != want || claim.Contradict(b, a) != want {
		t.Errorf("Contradict of %.80q and %.80q is not %v in both orders", written(a), written(b), want)
	}
	if claim.Contradict(a, a) || claim.Contradict(b, b) {
		t.Errorf("%.80q or %.80q contradicts itself", written(a), written(b))
	}
}

// someClaim returns a claim, often a valid one; there are few, so that they often contradict each other.
func someClaim(pick func(n int) int) api.Claim {
	ints := []int{0, 1, 2, 3, 199999, 200000, 1 << 30, -1, 200001, 1<<30 + 1}
	words := []string{"1:a,", "0:,", "1:a,x", "1:b,", "a", "b", "", "1:a", "01:a,", "4:1:a,,"}
	c := api.Claim{Kind: pick(api.CmKinds), N: ints[pick(4)], Text: words[pick(6)]}
	switch c.Kind {
	case api.CmSize:
		c.Time, c.Text = ints[pick(4)], ""
	case api.CmRan:
		c.Time = ints[pick(4)]
	case api.CmEntry:
		c.Text = words[pick(4)]
	}
	switch pick(12) {
	case 0:
		c.N = ints[pick(len(ints))]
	case 1:
		c.Time = ints[pick(len(ints))]
	case 2:
		c.Text = words[pick(len(words))]
	case 3:
		c.Kind = pick(api.CmKinds+2) - 1
	}
	return c
}

// P6.1 to P6.6 for any claims.
func TestAnyClaims(t *testing.T) {
	pick := rand.New(rand.NewSource(6)).Intn
	for range 100000 {
		a, b := someClaim(pick), someClaim(pick)
		checkClaim(t, a)
		checkPair(t, a, b)
		if a.Kind != b.Kind && pick(2) == 0 {
			b.Kind = a.Kind
			checkPair(t, a, b)
		}
	}
}

// P6.1, P6.2 and P6.5, and P1, for any string.
func FuzzRead(f *testing.F) {
	for _, c := range rightClaims() {
		if len(c.Text) < 100 {
			f.Add(claim.Text(c))
			f.Add(c.Text)
		}
	}
	for _, s := range noTexts() {
		f.Add(s)
	}
	f.Fuzz(func(t *testing.T, s string) {
		checkRead(t, s)
		for kind := range api.CmKinds {
			checkClaim(t, of(kind, 0, 0, s))
			checkClaim(t, of(kind, 0, 0, strconv.Itoa(len(s))+":"+s+","))
		}
	})
}

// P6.1, P6.3 and P6.6, and P1, for any two claims.
func FuzzPairs(f *testing.F) {
	pick := rand.New(rand.NewSource(7)).Intn
	for range 200 {
		a, b := someClaim(pick), someClaim(pick)
		f.Add(a.Kind, a.N, a.Time, a.Text, b.Kind, b.N, b.Time, b.Text)
	}
	f.Fuzz(func(t *testing.T, kind, n, time int, text string, kind2, n2, time2 int, text2 string) {
		a, b := of(kind, n, time, text), of(kind2, n2, time2, text2)
		checkClaim(t, a)
		checkPair(t, a, b)
		b.Kind = a.Kind
		checkPair(t, a, b)
		b.N, b.Time = a.N, a.Time
		checkPair(t, a, b)
	})
}
