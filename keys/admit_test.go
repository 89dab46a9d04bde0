package keys_test

import (
	"fmt"
	"reflect"
	"slices"
	"strconv"
	"testing"

	"lading/api"
	"lading/keys"
)

// admit requires what Admit returns.
func admit(t *testing.T, facts []api.Fact, registry []int, signers [][]int, n int, e api.Errno) {
	t.Helper()
	if got, f := keys.Admit(facts, registry, signers); got != n || f != e {
		t.Errorf("Admit of %d facts by %.200s returns %d, %d, not %d, %d", len(facts), fmt.Sprint(signers), got, f, n, e)
	}
}

// P11.3: the first fact that may not be added, and why.
func TestAdmit(t *testing.T) {
	l := []api.Fact{transfer("a", 1, 1), release("a"), advise("b"), transfer("b", 2, 2, 3), delegate("b", 6, 1, 7), release("b"), release("b"), release("b"), rotate("a", 1, 4), plain(api.FcYank, "a"), transfer("b", 1, 1), plain(api.FcVerdict, "none")}
	by := [][]int{{1}, {1}, {50}, {2, 3}, {3, 2}, {7}, {7}, {2, 3}, {1}, {4}, {2, 3}, {50, 51}}
	admit(t, l, []int{50}, by, 12, api.OK)
	admit(t, l, []int{50}, append(slices.Clone(by), []int{1}, nil), 12, api.OK)
	admit(t, nil, nil, nil, 0, api.OK)
	admit(t, nil, []int{50}, by, 0, api.OK)
	for n := range l {
		admit(t, l[:n], []int{50}, by, n, api.OK)
	}
	for i, x := range []struct {
		signers []int
		want    api.Errno
	}{
		{[]int{2}, api.ErrFew}, {[]int{7}, api.ErrFew}, {[]int{1}, api.ErrKey}, {[]int{2}, api.ErrFew}, {[]int{7, 2}, api.ErrFew}, {[]int{2}, api.ErrFew}, {[]int{3, 3}, api.ErrFew},
		{[]int{7}, api.ErrFew}, {[]int{4}, api.ErrFew}, {[]int{1}, api.ErrFew}, {[]int{1}, api.ErrFew}, {[]int{51}, api.ErrKey},
	} {
		changed := slices.Clone(by)
		changed[i] = x.signers
		admit(t, l, []int{50}, changed, i, x.want)
		changed[i] = nil
		admit(t, l, []int{50}, changed, i, x.want)
		admit(t, l, []int{50}, by[:i], i, x.want)
		wrong := slices.Clone(l)
		wrong[i].Kind = api.FcKinds
		admit(t, wrong, []int{50}, by, i, api.ErrArg)
	}
	admit(t, l[1:], []int{50}, by[1:], 0, api.ErrOwner)
	admit(t, l, nil, by, 2, api.ErrKey)
	admit(t, append([]api.Fact{advise("a")}, l...), []int{50}, append([][]int{{50}}, by...), 7, api.ErrFew)
}

// P11.3: a fact counts only after it was added: it does not permit itself.
func TestAdmitItself(t *testing.T) {
	admit(t, []api.Fact{transfer("a", 1, 1), rotate("a", 1, 2)}, nil, [][]int{{1}, {2}}, 1, api.ErrFew)
	admit(t, []api.Fact{transfer("a", 1, 1), transfer("a", 1, 2)}, nil, [][]int{{1}, {2}}, 1, api.ErrFew)
	admit(t, []api.Fact{rotate("a", 1, 2)}, nil, [][]int{{2}}, 0, api.ErrOwner)
	admit(t, []api.Fact{transfer("a", 1, 1), delegate("a", 2, 1, 7), release("a"), release("a")}, nil, [][]int{{1}, {1}, {7}, {7}}, 3, api.ErrFew)
	admit(t, []api.Fact{transfer("a", 1, 1), delegate("a", 3, 1, 7), release("a"), release("a")}, nil, [][]int{{1}, {1}, {7}, {7}}, 4, api.OK)
	admit(t, []api.Fact{transfer("a", 1, 1), delegate("a", 9, 1, 7), transfer("a", 1, 1), release("a")}, nil, [][]int{{1}, {1}, {1}, {7}}, 3, api.ErrFew)
	admit(t, []api.Fact{transfer("a", 1, 1), delegate("a", 9, 1, 7), rotate("a", 1, 2), release("a")}, nil, [][]int{{1}, {1}, {1}, {7}}, 4, api.OK)
}

// walk requires what Walk returns.
func walk(t *testing.T, facts []api.Fact, name string, chain []int, e api.Errno, need int, want ...int) {
	t.Helper()
	l, n, f := keys.Walk(facts, name, chain)
	if !slices.Equal(l, want) || n != need || f != e {
		t.Errorf("Walk of %q with %v returns %v, %d, %d, not %v, %d, %d", name, chain, l, n, f, want, need, e)
	}
}

// P11.4: the indices of the chain, and where it leads to.
func TestChain(t *testing.T) {
	l := mixed()
	for _, x := range []struct {
		name  string
		chain []int
	}{
		{"a", []int{0, 2, 5}}, {"b", []int{3, 13}}, {"c", []int{15}}, {"", nil}, {"A", nil}, {"aa", nil},
	} {
		for n := range len(l) + 1 {
			var want []int
			for _, i := range x.chain {
				if i < n {
					want = append(want, i)
				}
			}
			chain := keys.Chain(l[:n], x.name)
			if !slices.Equal(chain, want) {
				t.Errorf("Chain of %q after %d facts returns %v, not %v", x.name, n, chain, want)
			}
			if len(want) == 0 {
				walk(t, l[:n], x.name, nil, api.ErrOwner, 0)
				walk(t, l[:n], x.name, []int{}, api.ErrOwner, 0)
				continue
			}
			last := l[want[len(want)-1]]
			walk(t, l[:n], x.name, want, api.OK, last.Need, last.Keys...)
		}
	}
	l = []api.Fact{rotate("a", -1, 5, 5), rotate("", 0)}
	walk(t, l, "a", []int{0}, api.OK, -1, 5, 5)
	walk(t, l, "", []int{1}, api.OK, 0)
}

// P11.4: lists that are not the chain, also of names without one.
func TestWalkCheck(t *testing.T) {
	l := mixed()
	for _, chain := range [][]int{nil, {0}, {0, 2}, {0, 5}, {2, 5}, {5}, {0, 5, 2}, {2, 0, 5}, {0, 2, 2, 5}, {0, 2, 5, 5}, {0, 0, 2, 5}, {0, 1, 2, 5}, {0, 2, 5, 6}, {0, 2, 5, 18}, {-1, 0, 2, 5}, {0, 2, 4}, {1, 2, 5}, {0, 3, 5}, {-1}, {18}, {1 << 62}, {-1 << 63}} {
		walk(t, l, "a", chain, api.ErrCheck, 0)
	}
	for _, chain := range [][]int{{0}, {-1}, {3}, {0, 2, 5}} {
		walk(t, l, "none", chain, api.ErrCheck, 0)
		walk(t, nil, "a", chain, api.ErrCheck, 0)
	}
}

// P11.5, P3: nothing is written to the arguments, nothing beyond their lengths is read, and the results share no memory with them or with each other.
func TestMemory(t *testing.T) {
	facts := []api.Fact{transfer("a", 2, 1, 2, 3), delegate("a", 9, 1, 7, 8), release("a"), transfer("a", 1, 4), delegate("a", 9, 1, 5)}
	registry, by := []int{50, 51}, [][]int{{1, 2, 9}, {1, 2}, {7, 1}, {1, 2}, {4}}
	all := []any{facts, registry, by}
	want := fmt.Sprint(all)
	facts[0].Keys = facts[0].Keys[:2]
	facts[1].Keys = facts[1].Keys[:1]
	l := facts[:3]
	look := func() string {
		k, n, ok := keys.Owner(l, "a")
		d, m, until := keys.Delegates(l, "a")
		c := keys.Chain(l, "a")
		w, o, e := keys.Walk(l, "a", c)
		i, f := keys.Admit(l, registry[:1], by[:2])
		return fmt.Sprint(k, n, ok, d, m, until, c, w, o, e, i, f, keys.May(l, registry[:1], release("a"), by[2][:1]), keys.May(l, registry[:1], release("a"), []int{8}), keys.May(l, registry[:1], advise("a"), []int{51}), keys.May(l, nil, release("a"), []int{1, 3}))
	}
	before := look()
	if before != fmt.Sprint([]int{1, 2}, 2, true, []int{7}, 1, 9, []int{0}, []int{1, 2}, 2, api.OK, 2, api.ErrFew, api.OK, api.ErrFew, api.ErrKey, api.ErrFew) {
		t.Error(before)
	}
	for _, get := range []func() []int{
		func() []int { k, _, _ := keys.Owner(l, "a"); return k },
		func() []int { k, _, _ := keys.Delegates(l, "a"); return k },
		func() []int { return keys.Chain(l, "a") },
		func() []int { k, _, _ := keys.Walk(l, "a", []int{0}); return k },
	} {
		first, second := get(), get()
		for i := range first {
			first[i] = -77
		}
		_ = append(first, -78)
		if slices.Contains(second, -77) || slices.Contains(second[:cap(second)], -78) || look() != before {
			t.Errorf("a result that was changed shows in %v or %s", second, look())
		}
	}
	facts[0].Keys = facts[0].Keys[:3]
	facts[1].Keys = facts[1].Keys[:2]
	if got := fmt.Sprint(all); got != want {
		t.Errorf("the arguments were %s, and are %s", want, got)
	}
	// What was returned does not follow the arguments.
	k, _, _ := keys.Owner(l, "a")
	d, _, _ := keys.Delegates(l, "a")
	w, _, _ := keys.Walk(l, "a", []int{0})
	for i := range facts {
		for j := range facts[i].Keys {
			facts[i].Keys[j] = -1
		}
	}
	if !reflect.DeepEqual([][]int{k, d, w}, [][]int{{1, 2, 3}, {7, 8}, {1, 2, 3}}) {
		t.Error(k, d, w)
	}
}

// keysIn returns the three keys that own the name with an index in a round.
func keysIn(name, round int) []int {
	k := (name + 7*round) % 100
	return []int{k, k + 20, k + 30}
}

// fullLog returns as many facts as a log may have, and who signs them: in each round each name has its owner changed by the one before, is delegated for one release, and has a verdict.
func fullLog(names int) ([]api.Fact, [][]int) {
	var facts []api.Fact
	var by [][]int
	for i := 0; len(facts) < api.MaxFacts; i++ {
		j, round := i%names, i/names
		name := "n" + strconv.Itoa(j)
		now := keysIn(j, round)
		change, signers := rotate(name, 2, now...), keysIn(j, round-1)[1:]
		switch {
		case round == 0:
			change, signers = transfer(name, 2, now...), now[:2]
		case round%4 == 0:
			change = transfer(name, 2, now...)
		}
		facts = append(facts, change, delegate(name, len(facts)+2, 1, 199), release(name), plain(api.FcVerdict, name))
		by = append(by, signers, now[1:], []int{199}, []int{150})
	}
	return facts, by
}

// P11.1 to P11.4: a full log of many names, in which owners change all the time.
func TestFullLog(t *testing.T) {
	const names = 5000
	facts, by := fullLog(names)
	admit(t, facts, []int{150}, by, api.MaxFacts, api.OK)
	by[api.MaxFacts-2] = []int{198}
	admit(t, facts, []int{150}, by, api.MaxFacts-2, api.ErrFew)
	name := "n" + strconv.Itoa(names-1)
	chain := keys.Chain(facts, name)
	if len(chain) != api.MaxFacts/4/names {
		t.Fatal(len(chain))
	}
	last := keysIn(names-1, len(chain)-1)
	owner(t, facts, name, 2, last...)
	delegation(t, facts, name, api.MaxFacts-2, 1, 199)
	walk(t, facts, name, chain, api.OK, 2, last...)
	walk(t, facts, name, chain[1:], api.ErrCheck, 0)
	may(t, facts, nil, release(name), api.ErrFew, 199)
	may(t, facts, nil, release(name), api.OK, last[0], last[2])
	may(t, facts[:len(facts)-2], nil, release(name), api.OK, 199)
}

// P11.2, P1: long lists of signers and of keys take no more time than their lengths.
func TestLongLists(t *testing.T) {
	const n = 300000
	up, down := upTo(n), upTo(n)
	slices.Reverse(down)
	for i, x := range []struct {
		facts    []api.Fact
		registry []int
		f        api.Fact
		signers  []int
		want     api.Errno
	}{
		{[]api.Fact{transfer("a", n, down...)}, nil, release("a"), up, api.OK},
		{[]api.Fact{transfer("a", n+1, down...)}, nil, release("a"), up, api.ErrFew},
		{[]api.Fact{transfer("a", 1, -1), delegate("a", 9, n, down...)}, nil, release("a"), up, api.OK},
		{nil, down, advise("a"), []int{-1, n}, api.ErrKey},
		{nil, down, advise("a"), up, api.OK},
		{nil, []int{-1}, advise("a"), down, api.ErrKey},
		{nil, nil, transfer("a", 1, up...), up, api.ErrArg},
	} {
		if e := keys.May(x.facts, x.registry, x.f, x.signers); e != x.want {
			t.Errorf("%d: May returns %d, not %d", i, e, x.want)
		}
	}
}
