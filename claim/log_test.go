package claim_test

import (
	"math/rand"
	"slices"
	"strconv"
	"testing"

	"lading/api"
	"lading/claim"
)

// history is a log that only grows: its entries, and how many of them it had at each moment, or -1 if nothing is claimed of that moment.
type history struct {
	entries []string
	sizes   []int
}

// keyOf returns the key of an entry.
func keyOf(text string) string {
	key, _ := keyModel(text)
	return key
}

// holds reports whether a claim is true of the log.
func (h history) holds(c api.Claim) bool {
	switch c.Kind {
	case api.CmEntry:
		return c.N < len(h.entries) && h.entries[c.N] == c.Text
	case api.CmAbsent:
		return c.N <= len(h.entries) && !slices.ContainsFunc(h.entries[:c.N], func(text string) bool { return keyOf(text) == c.Text })
	}
	return h.sizes[c.Time] == c.N
}

// claims are all claims about the entries, the absence of keys and the sizes of the log that use some texts and their keys: those that are true of it, and those that are not.
func (h history) claims(texts []string) (yes, no []api.Claim) {
	var l []api.Claim
	for n := range len(h.entries) + 1 {
		for _, text := range texts {
			if n < len(h.entries) {
				l = append(l, of(api.CmEntry, n, 0, text))
			}
			if c := of(api.CmAbsent, n, 0, keyOf(text)); !slices.Contains(l, c) {
				l = append(l, c)
			}
		}
		for time, size := range h.sizes {
			if size >= 0 {
				l = append(l, of(api.CmSize, n, time, ""))
			}
		}
	}
	for _, c := range l {
		if h.holds(c) {
			yes = append(yes, c)
		} else {
			no = append(no, c)
		}
	}
	return yes, no
}

// checkHistory requires that no claims that are true of a log contradict each other, and that each one that is not contradicts one that is.
func checkHistory(t *testing.T, h history, texts []string) {
	t.Helper()
	yes, no := h.claims(texts)
	for i, a := range yes {
		for _, b := range yes[:i+1] {
			if claim.Contradict(a, b) || claim.Contradict(b, a) {
				t.Errorf("of the log %q with %v, %q and %q are true, and contradict each other", h.entries, h.sizes, written(a), written(b))
			}
		}
	}
	for _, a := range no {
		if !slices.ContainsFunc(yes, func(b api.Claim) bool { return claim.Contradict(a, b) && claim.Contradict(b, a) }) {
			t.Errorf("of the log %q with %v, %q is not true, and contradicts nothing that is", h.entries, h.sizes, written(a))
		}
	}
}

// growths are all ways in which a log can grow to at most most entries at some moments, of some of which nothing is claimed.
func growths(moments, least, most int) [][]int {
	if moments == 0 {
		return [][]int{nil}
	}
	var l [][]int
	for _, rest := range growths(moments-1, least, most) {
		l = append(l, append([]int{-1}, rest...))
	}
	for size := least; size <= most; size++ {
		for _, rest := range growths(moments-1, size, most) {
			l = append(l, append([]int{size}, rest...))
		}
	}
	return l
}

// P6.7 for all logs with up to three entries of four texts, however they grow at three moments.
func TestAllShortLogs(t *testing.T) {
	texts := []string{"0:,", "1:a,", "1:a,x", "1:b,a"}
	logs := [][]string{nil}
	for i := 0; i < len(logs); i++ {
		for _, sizes := range growths(3, 0, len(logs[i])) {
			checkHistory(t, history{logs[i], sizes}, texts)
		}
		if t.Failed() {
			return
		}
		for _, text := range texts {
			if len(logs[i]) < 3 {
				logs = append(logs, append(slices.Clone(logs[i]), text))
			}
		}
	}
	if len(logs) != 1+4+16+64 {
		t.Errorf("%d logs", len(logs))
	}
}

// P6.7 for longer logs, which grow at random.
func TestLongLogs(t *testing.T) {
	for seed := range int64(40) {
		pick := rand.New(rand.NewSource(seed)).Intn
		texts := []string{"0:,", "0:,0:,", "1:a,", "2:ab,", "1:a,b,", "4:1:a,,"}
		h := history{}
		for time := range 20 {
			for range pick(4) {
				text := texts[pick(len(texts))] + strconv.Itoa(pick(3))
				if pick(3) == 0 {
					text = "1:" + string(rune('c'+pick(20))) + "," + text
				}
				h.entries = append(h.entries, text)
				texts = append(texts, text)
			}
			h.sizes = append(h.sizes, len(h.entries))
			if pick(3) == 0 {
				h.sizes[time] = -1
			}
		}
		slices.Sort(texts)
		checkHistory(t, h, slices.Compact(texts))
	}
}

// P6.7 at the limits: the last entries of a log that is full, at the last moments.
func TestFullLog(t *testing.T) {
	last, before := of(api.CmEntry, 199999, 0, "1:a,"), of(api.CmEntry, 199998, 0, "1:b,")
	full, nearly := of(api.CmSize, 200000, 1<<30, ""), of(api.CmSize, 199999, 1<<30-1, "")
	absent, none := of(api.CmAbsent, 199999, 0, "a"), of(api.CmAbsent, 200000, 0, "c")
	yes := []api.Claim{last, before, full, nearly, absent, none}
	for _, a := range yes {
		for _, b := range yes {
			contradict(t, pair{a, b}, false)
		}
	}
	for _, p := range []pair{
		{of(api.CmEntry, 199999, 0, "1:a,x"), last},
		{of(api.CmEntry, 199998, 0, "1:a,"), before},
		{of(api.CmSize, 199999, 1<<30, ""), full},
		{of(api.CmSize, 200000, 1<<30-1, ""), nearly},
		{of(api.CmAbsent, 200000, 0, "a"), last},
		{of(api.CmAbsent, 199999, 0, "b"), before},
	} {
		contradict(t, p, true)
	}
}
