package name_test

import (
	"math/rand"
	"regexp"
	"slices"
	"strings"
	"testing"

	"lading/api"
	"lading/name"
)

// rightForm is a right name, apart from its length.
var rightForm = regexp.MustCompile(`^[a-z][a-z0-9]*(-[a-z0-9]+)*\z`)

// table is the table of the chapter; a Replacer goes over a string once, and takes the first pair that applies at each position.
var table = strings.NewReplacer("rn", "m", "vv", "w", "-", "", "0", "o", "1", "l", "i", "l")

// isRight reports whether a name is right.
func isRight(s string) bool {
	return len(s) <= 20 && rightForm.MatchString(s)
}

// firstAlike returns the first of some names that looks like a name.
func firstAlike(names []string, s string) (string, bool) {
	for _, other := range names {
		if table.Replace(other) == table.Replace(s) {
			return other, true
		}
	}
	return "", false
}

// isHeld reports whether one of the holds holds a name at a moment.
func isHeld(holds []api.Hold, s string, now int) bool {
	return slices.ContainsFunc(holds, func(h api.Hold) bool { return table.Replace(h.Name) == table.Replace(s) && now < h.Until })
}

// isFree returns the first error that applies.
func isFree(names []string, holds []api.Hold, s string, now int) api.Errno {
	_, clash := firstAlike(names, s)
	switch {
	case !isRight(s):
		return api.ErrName
	case slices.Contains(names, s):
		return api.ErrTwice
	case clash:
		return api.ErrClash
	case isHeld(holds, s, now):
		return api.ErrHold
	}
	return api.OK
}

// dropped returns what Drop should.
func dropped(holds []api.Hold, s string, until int) ([]api.Hold, api.Errno) {
	switch {
	case !isRight(s):
		return nil, api.ErrName
	case until < 0 || until > 1<<30:
		return nil, api.ErrArg
	}
	var l []api.Hold
	found := false
	for _, h := range holds {
		if h.Name == s && !found {
			found = true
			if until > h.Until {
				h.Until = until
			}
		}
		l = append(l, h)
	}
	if !found {
		l = append(l, api.Hold{Name: s, Until: until})
	}
	return l, api.OK
}

// sameString requires that Right and Skeleton say of a string what the model says.
func sameString(t *testing.T, s string) {
	t.Helper()
	if got := name.Right(s); got != isRight(s) {
		t.Fatalf("Right of %q returns %v", s, got)
	}
	if got := name.Skeleton(s); got != table.Replace(s) {
		t.Fatalf("Skeleton of %q returns %q, not %q", s, got, table.Replace(s))
	}
}

// sameCalls requires that all functions say of some names, holds and moments what the model says.
func sameCalls(t *testing.T, names []string, holds []api.Hold, s string, now int) {
	t.Helper()
	sameString(t, s)
	for _, other := range names {
		if got := name.Confusable(other, s); got != (table.Replace(other) == table.Replace(s)) {
			t.Fatalf("Confusable of %q and %q returns %v", other, s, got)
		}
	}
	got, ok := name.Guard(names, s)
	if want, there := firstAlike(names, s); got != want || ok != there {
		t.Fatalf("Guard of %q with %q returns %q, %v, not %q, %v", names, s, got, ok, want, there)
	}
	if got := name.Held(holds, s, now); got != isHeld(holds, s, now) {
		t.Fatalf("Held of %q at %d with %v returns %v", s, now, holds, got)
	}
	if e, want := name.Free(names, holds, s, now), isFree(names, holds, s, now); e != want {
		t.Fatalf("Free of %q at %d with %q and %v returns %d, not %d", s, now, names, holds, e, want)
	}
	l, e := name.Drop(holds, s, now)
	if want, f := dropped(holds, s, now); e != f || !slices.Equal(l, want) {
		t.Fatalf("Drop of %q until %d from %v returns %v, %d, not %v, %d", s, now, holds, l, e, want, f)
	}
}

// everyString calls f with every string of at most n of some bytes.
func everyString(bytes string, n int, f func(s string)) {
	var grow func(s string)
	grow = func(s string) {
		f(s)
		for i := 0; i < len(bytes) && len(s) < n; i++ {
			grow(s + bytes[i:i+1])
		}
	}
	grow("")
}

// P10.1: all short strings of the bytes that matter.
func TestEveryShortString(t *testing.T) {
	everyString("rnv-01iA", 6, func(s string) { sameString(t, s) })
	everyString("rnmvw-0o1ilz9A{\x00", 4, func(s string) { sameString(t, s) })
}

// P10.1, P10.6: all pairs of short strings: to look alike is reflexive, symmetric and transitive, since it is to have one skeleton.
func TestEveryPair(t *testing.T) {
	var l []string
	everyString("rnm-v1l", 3, func(s string) { l = append(l, s) })
	classes := map[string][]string{}
	for _, a := range l {
		if !name.Confusable(a, a) {
			t.Fatalf("%q does not look like itself", a)
		}
		classes[table.Replace(a)] = append(classes[table.Replace(a)], a)
		for _, b := range l {
			want := table.Replace(a) == table.Replace(b)
			if name.Confusable(a, b) != want || name.Confusable(b, a) != want {
				t.Fatalf("Confusable of %q and %q is not %v", a, b, want)
			}
		}
	}
	for _, class := range classes {
		for _, a := range class {
			for _, b := range class {
				if !name.Confusable(a, b) {
					t.Fatalf("%q and %q look like %q, but not like each other", a, b, class[0])
				}
			}
		}
	}
}

// P10.6: a string looks like one in which something is replaced, at every place where it can be.
func TestReplaced(t *testing.T) {
	everyString("rnv-01i", 6, func(s string) {
		for _, swap := range [][2]string{{"0", "o"}, {"1", "i"}, {"1", "l"}, {"i", "l"}, {"rn", "m"}} {
			for i := range s {
				rest, ok := strings.CutPrefix(s[i:], swap[0])
				if other := s[:i] + swap[1] + rest; ok && (!name.Confusable(s, other) || !name.Confusable(other, s)) {
					t.Fatalf("%q does not look like %q", s, other)
				}
			}
		}
	})
}

// pickString returns a string, most often one that is nearly a short name.
func pickString(pick func(n int) int) string {
	if pick(3) == 0 {
		return []string{"log", "l0g", "1og", "i-og", "modern", "modem", "corn", "com", "a", "a-b", "ab", "vv", "w", "a--b", "9", "", "-"}[pick(17)]
	}
	s := ""
	for range pick(5) + pick(2)*pick(20) {
		s += []string{"a", "r", "n", "rn", "m", "v", "vv", "w", "-", "0", "o", "1", "i", "l", "A", "\xff"}[pick(13+pick(4))]
	}
	return s
}

// pickMoment returns a moment, or a number that is none.
func pickMoment(pick func(n int) int) int {
	if pick(12) == 0 {
		return []int{-1 << 63, -1, api.MaxTime - 1, api.MaxTime, api.MaxTime + 1, 1<<63 - 1}[pick(6)]
	}
	return pick(8)
}

// compare calls all functions with what is picked.
func compare(t *testing.T, pick func(n int) int) {
	t.Helper()
	var names []string
	var holds []api.Hold
	for range pick(5) {
		names = append(names, pickString(pick))
	}
	for range pick(5) {
		holds = append(holds, api.Hold{Name: pickString(pick), Until: pickMoment(pick)})
	}
	for range 4 {
		s := pickString(pick)
		if len(names)+len(holds) > 0 && pick(3) == 0 {
			i := pick(len(names) + len(holds))
			if i < len(names) {
				s = names[i]
			} else {
				s = holds[i-len(names)].Name
			}
		}
		sameCalls(t, names, holds, s, pickMoment(pick))
	}
}

// P10.1 to P10.4: random calls.
func TestAnyCalls(t *testing.T) {
	for seed := range 30000 {
		compare(t, rand.New(rand.NewSource(int64(seed))).Intn)
	}
}

// P10.5: names are taken and given up as time goes by; those that are taken never look alike, nor like one that was held when they were taken.
func TestTaken(t *testing.T) {
	refused := map[api.Errno]int{}
	for seed := range 300 {
		r := rand.New(rand.NewSource(int64(seed)))
		var names []string
		var holds []api.Hold
		now := 0
		for range 150 {
			now += r.Intn(3)
			if len(names) > 0 && r.Intn(4) == 0 {
				i := r.Intn(len(names))
				l, e := name.Drop(holds, names[i], now+r.Intn(30))
				if e != api.OK {
					t.Fatal(e)
				}
				names, holds = slices.Delete(names, i, i+1), l
			}
			s := pickString(r.Intn)
			e := name.Free(names, holds, s, now)
			refused[e]++
			if e != api.OK {
				continue
			}
			if !isRight(s) || isHeld(holds, s, now) {
				t.Fatalf("%q was free at %d with %v", s, now, holds)
			}
			for _, other := range names {
				if table.Replace(other) == table.Replace(s) {
					t.Fatalf("%q was free with %q", s, names)
				}
			}
			names = append(names, s)
		}
	}
	if len(refused) != 5 {
		t.Errorf("only these errors: %v", refused)
	}
}

// P10.7: what is held at a moment is held at each earlier one, and a hold that is added frees no name.
func TestHeldLonger(t *testing.T) {
	for seed := range 3000 {
		pick := rand.New(rand.NewSource(int64(seed))).Intn
		var holds []api.Hold
		var tried []string
		for range 1 + pick(5) {
			tried = append(tried, pickString(pick))
			holds = append(holds, api.Hold{Name: tried[len(tried)-1], Until: pickMoment(pick)})
		}
		s := tried[pick(len(tried))]
		more, e := name.Drop(holds, s, pick(9))
		if e != api.OK {
			more = holds
		}
		for _, s := range append(tried, pickString(pick)) {
			held := true
			for now := -1; now < 10; now++ {
				before := held
				held = name.Held(holds, s, now)
				if held && !before {
					t.Fatalf("%q is held at %d by %v, but not earlier", s, now, holds)
				}
				if held && !name.Held(more, s, now) {
					t.Fatalf("%q is held at %d by %v, but not by %v", s, now, holds, more)
				}
			}
		}
	}
}

// P10.1, P10.6: any strings.
func FuzzStrings(f *testing.F) {
	f.Add("corn-vvi1", "comwll")
	f.Add("r-n", "m")
	f.Add("a--b", "vvv")
	f.Fuzz(func(t *testing.T, a, b string) {
		sameString(t, a)
		sameString(t, b)
		if name.Confusable(a, b) != (table.Replace(a) == table.Replace(b)) || !name.Confusable(a, table.Replace(a)) && !strings.ContainsAny(a, "v-r") {
			t.Errorf("Confusable of %q and %q returns %v", a, b, name.Confusable(a, b))
		}
	})
}

// P10.1 to P10.4: any calls.
func FuzzCalls(f *testing.F) {
	f.Add([]byte("\x02\x00\x01\x00\x02\x03\x00\x04\x05"))
	f.Add([]byte("names and holds and moments and more of them"))
	f.Fuzz(func(t *testing.T, data []byte) {
		compare(t, func(n int) int {
			if len(data) == 0 {
				return 0
			}
			b := data[0]
			data = data[1:]
			return int(b) % n
		})
	})
}
