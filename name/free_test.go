package name_test

import (
	"fmt"
	"math"
	"slices"
	"testing"

	"lading/api"
	"lading/name"
)

// hold returns a hold.
func hold(name string, until int) api.Hold {
	return api.Hold{Name: name, Until: until}
}

// P10.2: who is held, and up to when.
func TestHeld(t *testing.T) {
	holds := []api.Hold{hold("geo", 9), hold("ge0", 4), hold("com", 5), hold("corn", 7), hold("Not Right", 3), hold("-", 2), hold("past", math.MinInt), hold("ever", math.MaxInt), hold("minus", -3), hold("zero", 0)}
	for _, x := range []struct {
		name  string
		until int
	}{
		{"geo", 9}, {"ge0", 9}, {"g-e-o", 9}, {"com", 7}, {"corn", 7}, {"c0rn", 7}, {"Not Right", 3}, {"N0t R1ght", 3}, {"Not Rlght", 3}, {"", 2}, {"--", 2},
		{"past", math.MinInt}, {"ever", math.MaxInt}, {"m1nus", -3}, {"zer0", 0}, {"none", math.MinInt}, {"ge", math.MinInt}, {"geos", math.MinInt}, {"GEO", math.MinInt},
	} {
		for _, now := range []int{math.MinInt, math.MinInt + 1, -4, -3, -2, -1, 0, 1, 2, 3, 4, 5, 6, 7, 8, 9, 10, api.MaxTime, math.MaxInt - 1, math.MaxInt} {
			if got := name.Held(holds, x.name, now); got != (now < x.until) {
				t.Errorf("Held of %q at %d returns %v", x.name, now, got)
			}
		}
	}
	if name.Held(nil, "a", 0) || name.Held(nil, "", math.MinInt) || name.Held([]api.Hold{}, "a", -1) {
		t.Error("something is held by no holds")
	}
}

// P10.2: the errors of Free, each alone and together with those after it.
func TestFree(t *testing.T) {
	holds := []api.Hold{hold("geo", 9), hold("ge0", 4), hold("a--b", 9), hold("9", 9), hold("log", 9)}
	for i, x := range []struct {
		names []string
		holds []api.Hold
		name  string
		now   int
		want  api.Errno
	}{
		{nil, nil, "a", 0, api.OK},
		{nil, nil, "", 0, api.ErrName},
		{nil, nil, "a--b", 0, api.ErrName},
		{[]string{"a--b"}, holds, "a--b", 0, api.ErrName},
		{[]string{"9"}, holds, "9", 0, api.ErrName},
		{[]string{"aaaaaaaaaaaaaaaaaaaaa"}, nil, "aaaaaaaaaaaaaaaaaaaaa", 0, api.ErrName},
		{[]string{"a", "ab"}, nil, "ab", 0, api.ErrTwice},
		{[]string{"1og", "log"}, holds, "log", 0, api.ErrTwice},
		{[]string{"log", "1og"}, holds, "log", 100, api.ErrTwice},
		{[]string{"1og"}, nil, "log", 0, api.ErrClash},
		{[]string{"abc", "1og"}, holds, "log", 0, api.ErrClash},
		{[]string{"modem"}, nil, "modern", 0, api.ErrClash},
		{[]string{"libo"}, nil, "lib0", 0, api.ErrClash},
		{[]string{"a--b"}, nil, "a-b", 0, api.ErrClash},
		{nil, holds, "a-b", 8, api.ErrHold},
		{nil, holds, "a-b", 9, api.OK},
		{nil, holds, "geo", 8, api.ErrHold},
		{nil, holds, "ge0", 8, api.ErrHold},
		{nil, holds, "ge0", 9, api.OK},
		{nil, holds, "ge0", math.MinInt, api.ErrHold},
		{nil, holds, "ge0", math.MaxInt, api.OK},
		{[]string{"log"}, holds, "geom", 0, api.OK},
		{[]string{"abc", "def"}, holds, "xyz", -1, api.OK},
		{[]string{""}, []api.Hold{hold("", 9)}, "a", 0, api.OK},
	} {
		if e := name.Free(x.names, x.holds, x.name, x.now); e != x.want {
			t.Errorf("%d: Free of %q at %d returns %d, not %d", i, x.name, x.now, e, x.want)
		}
	}
}

// drop requires what Drop returns.
func drop(t *testing.T, holds []api.Hold, s string, until int, e api.Errno, want ...api.Hold) {
	t.Helper()
	got, f := name.Drop(holds, s, until)
	if f != e || !slices.Equal(got, want) {
		t.Errorf("Drop of %.60q until %d from %v returns %v, %d, not %v, %d", s, until, holds, got, f, want, e)
	}
	if e != api.OK && got != nil {
		t.Errorf("Drop of %.60q returns holds with an error", s)
	}
}

// P10.3: the errors in their order, and the limits to the unit.
func TestDropErrors(t *testing.T) {
	holds := []api.Hold{hold("geo", 9), hold("a--b", 3)}
	for _, s := range []string{"", "a--b", "9", "A", "-", "a-", "aaaaaaaaaaaaaaaaaaaaa"} {
		for _, until := range []int{math.MinInt, -1, 0, 5, api.MaxTime, api.MaxTime + 1, math.MaxInt} {
			drop(t, holds, s, until, api.ErrName)
		}
	}
	for _, until := range []int{math.MinInt, -2, -1, api.MaxTime + 1, api.MaxTime + 2, math.MaxInt} {
		drop(t, holds, "geo", until, api.ErrArg)
		drop(t, nil, "new", until, api.ErrArg)
	}
	for _, until := range []int{0, 1, api.MaxTime - 1, api.MaxTime} {
		drop(t, nil, "new", until, api.OK, hold("new", until))
		drop(t, holds, "geo", until, api.OK, hold("geo", max(9, until)), holds[1])
		drop(t, holds, "ge0", until, api.OK, holds[0], holds[1], hold("ge0", until))
	}
}

// P10.3: the first hold with this very name has the greater moment; one that only looks like it is no such hold.
func TestDrop(t *testing.T) {
	drop(t, []api.Hold{}, "a", 0, api.OK, hold("a", 0))
	drop(t, []api.Hold{hold("a", 3)}, "a", 2, api.OK, hold("a", 3))
	drop(t, []api.Hold{hold("a", 3)}, "a", 3, api.OK, hold("a", 3))
	drop(t, []api.Hold{hold("a", 3)}, "a", 4, api.OK, hold("a", 4))
	drop(t, []api.Hold{hold("a", -3)}, "a", 0, api.OK, hold("a", 0))
	drop(t, []api.Hold{hold("a", math.MaxInt)}, "a", 4, api.OK, hold("a", math.MaxInt))
	drop(t, []api.Hold{hold("b", 9), hold("a", 3), hold("a", 5)}, "a", 4, api.OK, hold("b", 9), hold("a", 4), hold("a", 5))
	drop(t, []api.Hold{hold("a", 3), hold("b", 1), hold("a", 5)}, "a", 9, api.OK, hold("a", 9), hold("b", 1), hold("a", 5))
	drop(t, []api.Hold{hold("a", 7), hold("a", 5)}, "a", 6, api.OK, hold("a", 7), hold("a", 5))
	drop(t, []api.Hold{hold("lo", 7), hold("x", 5)}, "io", 6, api.OK, hold("lo", 7), hold("x", 5), hold("io", 6))
	drop(t, []api.Hold{hold("l-o", 7), hold("lo", 5)}, "lo", 6, api.OK, hold("l-o", 7), hold("lo", 6))
	drop(t, []api.Hold{hold("", 7), hold("A", 5)}, "a", 6, api.OK, hold("", 7), hold("A", 5), hold("a", 6))
}

// P10.4, P3: nothing is written to the arguments, and the results share no memory with them or with each other.
func TestMemory(t *testing.T) {
	names := []string{"abc", "l0g", "beyond"}
	holds := []api.Hold{hold("geo", 9), hold("a", 3), hold("beyond", 100)}
	wantNames, wantHolds := slices.Clone(names), slices.Clone(holds)
	if _, ok := name.Guard(names[:2], "beyond"); ok || name.Held(holds[:2], "beyond", 0) || name.Free(names[:2], holds[:2], "beyond", 0) != api.OK {
		t.Error("an element beyond the length was read")
	}
	var results [][]api.Hold
	for range 2 {
		for _, s := range []string{"geo", "new", "beyond"} {
			l, e := name.Drop(holds[:2], s, 50)
			if e != api.OK {
				t.Fatal(e)
			}
			results = append(results, l)
		}
	}
	if !slices.Equal(names, wantNames) || !slices.Equal(holds, wantHolds) {
		t.Errorf("the arguments are now %v, %v", names, holds)
	}
	for i := range holds {
		holds[i] = hold("changed", -1)
	}
	before := fmt.Sprint(results[1:])
	for i := range results[0] {
		results[0][i] = hold("changed", -2)
	}
	_ = append(results[0], hold("more", 1))
	if after := fmt.Sprint(results[1:]); after != before {
		t.Errorf("the other results were %s, and are %s", before, after)
	}
	if fmt.Sprint(results[3:]) != "[[{geo 50} {a 3}] [{geo 9} {a 3} {new 50}] [{geo 9} {a 3} {beyond 50}]]" {
		t.Error(results[3:])
	}
}

// P10.1 to P10.3: as many names and holds as there can be facts.
func TestManyNames(t *testing.T) {
	names := make([]string, api.MaxFacts)
	holds := make([]api.Hold, api.MaxFacts)
	for i := range names {
		s := ""
		for rest := i; s == "" || rest > 0; rest /= 10 {
			s += "abcdefghjk"[rest%10 : rest%10+1]
		}
		names[i] = s + "-last"
		holds[i] = hold(s+"-held", i)
	}
	last := names[len(names)-1]
	if s, ok := name.Guard(names, last[:3]+"-"+last[3:]); s != last || !ok {
		t.Errorf("Guard returns %q, %v, not %q", s, ok, last)
	}
	heldLast := holds[len(holds)-1].Name
	for _, x := range []struct {
		name string
		now  int
		want api.Errno
	}{
		{last, 0, api.ErrTwice}, {last[:1] + "-" + last[1:], 0, api.ErrClash}, {heldLast, api.MaxFacts - 2, api.ErrHold}, {heldLast, api.MaxFacts - 1, api.OK}, {"other", 0, api.OK},
	} {
		if e := name.Free(names, holds, x.name, x.now); e != x.want {
			t.Errorf("Free of %q at %d returns %d, not %d", x.name, x.now, e, x.want)
		}
	}
	l, e := name.Drop(holds, heldLast, api.MaxTime)
	if e != api.OK || len(l) != len(holds) || l[len(l)-1] != hold(heldLast, api.MaxTime) || !slices.Equal(l[:len(l)-1], holds[:len(l)-1]) {
		t.Error(e, len(l))
	}
	l, e = name.Drop(holds, "other", 0)
	if e != api.OK || len(l) != len(holds)+1 || l[len(holds)] != hold("other", 0) || !slices.Equal(l[:len(holds)], holds) {
		t.Error(e, len(l))
	}
}
