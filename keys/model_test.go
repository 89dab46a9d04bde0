package keys_test

import (
	"math/rand"
	"slices"
	"testing"

	"lading/api"
	"lading/keys"
)

// nameIn returns the name of a fact.
func nameIn(f api.Fact) string {
	if f.Kind == api.FcRelease {
		return f.Release.Name
	}
	if f.Kind == api.FcAdvise {
		return f.Advice.Name
	}
	return f.Name
}

// indices returns the indices of the facts of some kinds with a name.
func indices(facts []api.Fact, name string, kinds ...int) []int {
	var l []int
	for i, f := range facts {
		if slices.Contains(kinds, f.Kind) && nameIn(f) == name {
			l = append(l, i)
		}
	}
	return l
}

// ownerOf returns the fact that says who owns a name, and whether there is one.
func ownerOf(facts []api.Fact, name string) (api.Fact, bool) {
	l := indices(facts, name, api.FcTransfer, api.FcRotate)
	if len(l) == 0 {
		return api.Fact{}, false
	}
	return facts[l[len(l)-1]], true
}

// delegationOf returns the delegation of a name, and whether there is one.
func delegationOf(facts []api.Fact, name string) (api.Fact, bool) {
	start := 0
	if l := indices(facts, name, api.FcTransfer); len(l) > 0 {
		start = l[len(l)-1]
	}
	l := indices(facts[start:], name, api.FcDelegate)
	if len(l) == 0 {
		return api.Fact{}, false
	}
	return facts[start+l[len(l)-1]], true
}

// areSet reports whether some numbers are a set of keys.
func areSet(l []int) bool {
	for i, k := range l {
		if k < 0 || k > 199 || i > 0 && l[i-1] >= k {
			return false
		}
	}
	return len(l) >= 1 && len(l) <= 12
}

// soMany reports whether n of some keys sign.
func soMany(n int, l, signers []int) bool {
	var different []int
	for _, k := range signers {
		if !slices.Contains(different, k) && slices.Contains(l, k) {
			different = append(different, k)
		}
	}
	return len(different) >= n
}

// mayBe returns the first error that applies.
func mayBe(facts []api.Fact, registry []int, f api.Fact, signers []int) api.Errno {
	if !slices.Contains([]int{api.FcRelease, api.FcYank, api.FcUnyank, api.FcAdvise, api.FcRotate, api.FcTransfer, api.FcDelegate, api.FcVerdict}, f.Kind) {
		return api.ErrArg
	}
	if slices.Contains([]int{api.FcRotate, api.FcTransfer, api.FcDelegate}, f.Kind) && (!areSet(f.Keys) || f.Need < 1 || f.Need > len(f.Keys)) {
		return api.ErrArg
	}
	if f.Kind == api.FcAdvise || f.Kind == api.FcVerdict {
		if soMany(1, registry, signers) {
			return api.OK
		}
		return api.ErrKey
	}
	owner, owned := ownerOf(facts, nameIn(f))
	if !owned && f.Kind != api.FcTransfer {
		return api.ErrOwner
	}
	if !owned && !soMany(f.Need, f.Keys, signers) {
		return api.ErrFew
	}
	if owned && !soMany(owner.Need, owner.Keys, signers) {
		d, there := delegationOf(facts, nameIn(f))
		if f.Kind != api.FcRelease || !there || len(facts) > d.Until || d.Need < 1 || !soMany(d.Need, d.Keys, signers) {
			return api.ErrFew
		}
	}
	return api.OK
}

// sameOwner requires that Owner, Delegates, Chain and Walk say of a name what the model says.
func sameOwner(t *testing.T, facts []api.Fact, name string) {
	t.Helper()
	want, owned := ownerOf(facts, name)
	l, n, ok := keys.Owner(facts, name)
	if !slices.Equal(l, want.Keys) || n != want.Need || ok != owned {
		t.Fatalf("Owner of %q after %v returns %v, %d, %v, not %v, %d, %v", name, facts, l, n, ok, want.Keys, want.Need, owned)
	}
	d, _ := delegationOf(facts, name)
	l, n, until := keys.Delegates(facts, name)
	if !slices.Equal(l, d.Keys) || n != d.Need || until != d.Until {
		t.Fatalf("Delegates of %q after %v returns %v, %d, %d, not %v, %d, %d", name, facts, l, n, until, d.Keys, d.Need, d.Until)
	}
	chain := indices(facts, name, api.FcTransfer, api.FcRotate)
	if got := keys.Chain(facts, name); !slices.Equal(got, chain) {
		t.Fatalf("Chain of %q after %v returns %v, not %v", name, facts, got, chain)
	}
	e := api.OK
	if !owned {
		e = api.ErrOwner
	}
	if l, n, got := keys.Walk(facts, name, chain); !slices.Equal(l, want.Keys) || n != want.Need || got != e {
		t.Fatalf("Walk of %q after %v with %v returns %v, %d, %d, not %v, %d, %d", name, facts, chain, l, n, got, want.Keys, want.Need, e)
	}
}

// sameWalk requires that Walk refuses a list that is not the chain of a name.
func sameWalk(t *testing.T, facts []api.Fact, name string, chain []int) {
	t.Helper()
	if slices.Equal(chain, indices(facts, name, api.FcTransfer, api.FcRotate)) {
		return
	}
	if l, n, e := keys.Walk(facts, name, chain); l != nil || n != 0 || e != api.ErrCheck {
		t.Fatalf("Walk of %q after %v with %v returns %v, %d, %d", name, facts, chain, l, n, e)
	}
}

// sameMay requires that May says what the model says, and returns it.
func sameMay(t *testing.T, facts []api.Fact, registry []int, f api.Fact, signers []int) api.Errno {
	t.Helper()
	e, want := keys.May(facts, registry, f, signers), mayBe(facts, registry, f, signers)
	if e != want {
		t.Fatalf("May of %v by %v after %v with the registry %v returns %d, not %d", f, signers, facts, registry, e, want)
	}
	return e
}

// sameAdmit requires that Admit says what the model says.
func sameAdmit(t *testing.T, facts []api.Fact, registry []int, signers [][]int) {
	t.Helper()
	n, want := 0, api.OK
	for ; n < len(facts); n++ {
		var by []int
		if n < len(signers) {
			by = signers[n]
		}
		if want = mayBe(facts[:n], registry, facts[n], by); want != api.OK {
			break
		}
	}
	if got, e := keys.Admit(facts, registry, signers); got != n || e != want {
		t.Fatalf("Admit of %v by %v with the registry %v returns %d, %d, not %d, %d", facts, signers, registry, got, e, n, want)
	}
}

// small returns some facts that tell the cases apart.
func small() []api.Fact {
	return []api.Fact{
		transfer("a", 1, 1), transfer("a", 2, 1, 2), transfer("b", 1, 2), rotate("a", 1, 2), rotate("a", 0, 2, 2), rotate("b", 1, 1),
		delegate("a", 2, 1, 3), delegate("a", 1, 2, 2, 3), delegate("a", 9, 0, 3), delegate("b", 2, 1, 3),
		{Kind: api.FcRelease, Name: "b", Release: api.Release{Name: "a"}}, {Kind: api.FcAdvise, Name: "a", Advice: api.Advice{Name: "b"}},
		{Kind: api.FcYank, Name: "a", Release: api.Release{Name: "b"}}, plain(api.FcVerdict, "a"), plain(api.FcKinds, "a"),
	}
}

// P11.1 to P11.4: all sequences of up to three facts, one more fact, and all sets of signers among four.
func TestEveryShortLog(t *testing.T) {
	l := small()
	seen := map[api.Errno]int{}
	var grow func(facts []api.Fact)
	grow = func(facts []api.Fact) {
		sameOwner(t, facts, "a")
		sameOwner(t, facts, "b")
		for _, f := range l {
			for bits := range 16 {
				var signers []int
				for k := range 4 {
					if bits>>k&1 == 1 {
						signers = append(signers, k+1)
					}
				}
				seen[sameMay(t, facts, []int{4}, f, signers)]++
			}
			if len(facts) < 3 {
				grow(append(facts[:len(facts):len(facts)], f))
			}
		}
	}
	grow(nil)
	if len(seen) != 5 {
		t.Errorf("only these errors: %v", seen)
	}
}

// P11.4: all lists of up to three small numbers, for all sequences of two facts.
func TestEveryChain(t *testing.T) {
	l := small()
	for _, f := range l {
		for _, g := range l {
			facts := []api.Fact{f, g}
			sameWalk(t, facts, "a", nil)
			for i := -1; i < 3; i++ {
				sameWalk(t, facts, "a", []int{i})
				for j := -1; j < 3; j++ {
					sameWalk(t, facts, "a", []int{i, j})
					for k := -1; k < 3; k++ {
						sameWalk(t, facts, "a", []int{i, j, k})
					}
				}
			}
		}
	}
}

// pickKeys returns some keys, most often a small set of them.
func pickKeys(pick func(n int) int) []int {
	var l []int
	for range pick(4) {
		l = append(l, pick(6))
	}
	if pick(6) == 0 {
		return append(l, []int{-1, 0, 198, 199, 200, 1 << 62}[pick(6)])
	}
	if len(l) == 0 {
		l = []int{pick(6)}
	}
	if pick(10) > 0 {
		slices.Sort(l)
		l = slices.Compact(l)
	}
	return l
}

// pickName returns one of a few names.
func pickName(pick func(n int) int) string {
	return []string{"a", "a", "a", "b", "b", ""}[pick(6)]
}

// pickFact returns a fact, most often one that some signers may add.
func pickFact(pick func(n int) int) api.Fact {
	f := api.Fact{Kind: pick(api.FcKinds), Name: pickName(pick), Release: api.Release{Name: pickName(pick)}, Advice: api.Advice{Name: pickName(pick)}}
	if pick(30) == 0 {
		f.Kind = []int{-1, api.FcKinds, api.FcKinds + 1, 1 << 62, -1 << 63}[pick(5)]
	}
	if pick(4) == 0 {
		f.Kind = []int{api.FcTransfer, api.FcRelease, api.FcDelegate}[pick(3)]
	}
	f.Keys, f.Until = pickKeys(pick), pick(16)
	f.Need = 1 + pick(len(f.Keys))
	if pick(15) == 0 {
		f.Need = []int{-1 << 63, -1, 0, len(f.Keys), len(f.Keys) + 1, 1<<63 - 1}[pick(6)]
	}
	if pick(15) == 0 {
		f.Until = []int{-1 << 63, -1, 200001, 1<<63 - 1}[pick(4)]
	}
	return f
}

// pickSigners returns signers, most often those that a fact needs after some facts.
func pickSigners(pick func(n int) int, facts []api.Fact, f api.Fact) []int {
	var l []int
	from := f
	if d, there := delegationOf(facts, nameIn(f)); there && pick(3) == 0 {
		from = d
	} else if owner, owned := ownerOf(facts, nameIn(f)); owned {
		from = owner
	}
	for _, k := range from.Keys {
		if pick(3) > 0 {
			l = append(l, k)
		}
	}
	for range pick(3) {
		l = append(l, pick(8))
	}
	for i := range l {
		j := i + pick(len(l)-i)
		l[i], l[j] = l[j], l[i]
	}
	return l
}

// pickLog returns up to n facts and who signs them; if admitted is true, each of them may be added after those before it, otherwise most of them.
func pickLog(pick func(n int) int, n int, registry []int, admitted bool) ([]api.Fact, [][]int) {
	var facts []api.Fact
	var signers [][]int
	for range n {
		f := pickFact(pick)
		by := pickSigners(pick, facts, f)
		if mayBe(facts, registry, f, by) == api.OK || !admitted && pick(8) == 0 {
			facts, signers = append(facts, f), append(signers, by)
		}
	}
	return facts, signers
}

// compare calls all functions with what is picked.
func compare(t *testing.T, pick func(n int) int) {
	t.Helper()
	registry := pickKeys(pick)
	facts, signers := pickLog(pick, pick(24), registry, pick(2) == 0)
	for _, name := range []string{"a", "b", "", "c"} {
		sameOwner(t, facts, name)
		chain := indices(facts, name, api.FcTransfer, api.FcRotate)
		for range 2 {
			i := pick(len(chain) + 1)
			other := slices.Insert(slices.Clone(chain), i, pick(len(facts)+3)-1)
			sameWalk(t, facts, name, other)
			if i+1 < len(other) {
				sameWalk(t, facts, name, slices.Delete(other, i+1, i+2))
			}
		}
	}
	sameAdmit(t, facts, registry, signers)
	sameAdmit(t, facts, registry, signers[:pick(len(signers)+1)])
	for range 4 {
		f := pickFact(pick)
		sameMay(t, facts, registry, f, pickSigners(pick, facts, f))
	}
	if len(facts) > 0 {
		i := pick(len(facts))
		signers[i] = pickSigners(pick, facts[:i], facts[i])
		sameAdmit(t, facts, registry, signers)
	}
}

// P11.1 to P11.4: random calls.
func TestAnyCalls(t *testing.T) {
	for seed := range 40000 {
		compare(t, rand.New(rand.NewSource(int64(seed))).Intn)
	}
}

// few returns some of the keys from -1 to 8, too few to sign for the owner of a name or for its delegation.
func few(pick func(n int) int, facts []api.Fact, name string) []int {
	owner, _ := ownerOf(facts, name)
	d, there := delegationOf(facts, name)
	var l []int
	for k := -1; k < 9; k++ {
		more := append(slices.Clone(l), k)
		if pick(5) > 0 && !soMany(owner.Need, owner.Keys, more) && !(there && soMany(d.Need, d.Keys, more)) {
			l = more
		}
	}
	return l
}

// P11.6: whoever has too few keys of the owner and of the delegation of a name adds nothing to it but advices and verdicts, whatever happens to other names, and the owner stays the owner.
func TestOwnerStays(t *testing.T) {
	tried, others := 0, 0
	for seed := range 4000 {
		pick := rand.New(rand.NewSource(int64(seed))).Intn
		registry := []int{pick(9)}
		facts, signers := pickLog(pick, 5+pick(20), registry, true)
		const name = "a"
		want, n, owned := keys.Owner(facts, name)
		if !owned {
			continue
		}
		enemies := few(pick, facts, name)
		for range 25 {
			f := pickFact(pick)
			by := pickSigners(pick, facts, f)
			if nameIn(f) == name {
				by = slices.DeleteFunc(by, func(k int) bool { return !slices.Contains(enemies, k) })
			}
			e := keys.May(facts, registry, f, by)
			if nameIn(f) == name && f.Kind != api.FcAdvise && f.Kind != api.FcVerdict {
				tried++
				if e == api.OK {
					t.Fatalf("%v by %v may be added after %v", f, by, facts)
				}
			}
			if e == api.OK {
				others++
				facts, signers = append(facts, f), append(signers, by)
			}
			if l, m, ok := keys.Owner(facts, name); !slices.Equal(l, want) || m != n || !ok {
				t.Fatalf("after %v the owner is %v, %d, %v, not %v, %d", facts, l, m, ok, want, n)
			}
		}
		if m, e := keys.Admit(facts, registry, signers); m != len(facts) || e != api.OK {
			t.Fatalf("%v by %v is admitted up to %d, %d", facts, signers, m, e)
		}
	}
	if tried < 10000 || others < 5000 {
		t.Error(tried, others)
	}
}

// P11.7: more signers never take a permission away; their order, and naming one of them twice, does not matter.
func TestMoreSigners(t *testing.T) {
	for seed := range 10000 {
		pick := rand.New(rand.NewSource(int64(seed))).Intn
		registry := pickKeys(pick)
		facts, _ := pickLog(pick, pick(20), registry, false)
		f := pickFact(pick)
		by := pickSigners(pick, facts, f)
		e := keys.May(facts, registry, f, by)
		shuffled := slices.Clone(by)
		for range pick(3) {
			if len(by) > 0 {
				shuffled = slices.Insert(shuffled, pick(len(shuffled)+1), by[pick(len(by))])
			}
		}
		for i := range shuffled {
			j := i + pick(len(shuffled)-i)
			shuffled[i], shuffled[j] = shuffled[j], shuffled[i]
		}
		if other := keys.May(facts, registry, f, shuffled); other != e {
			t.Fatalf("May of %v after %v returns %d for %v, but %d for %v", f, facts, e, by, other, shuffled)
		}
		for k := -1; k < 9; k++ {
			if other := keys.May(facts, registry, f, append(slices.Clone(shuffled), k)); e == api.OK && other != api.OK {
				t.Fatalf("May of %v after %v returns OK for %v, but %d with %d", f, facts, by, other, k)
			}
		}
	}
}

// P11.7: a delegation permits releases alone, ends after its last entry, and with a transfer of the name.
func TestDelegationEnds(t *testing.T) {
	permitted := 0
	for seed := range 10000 {
		pick := rand.New(rand.NewSource(int64(seed))).Intn
		facts, _ := pickLog(pick, 3+pick(20), nil, true)
		name := pickName(pick)
		owner, owned := ownerOf(facts, name)
		d, n, until := keys.Delegates(facts, name)
		if !owned || n == 0 {
			continue
		}
		d = slices.DeleteFunc(d, func(k int) bool { return slices.Contains(owner.Keys, k) })
		for _, f := range []api.Fact{plain(api.FcYank, name), plain(api.FcUnyank, name), rotate(name, 1, 1), transfer(name, 1, 1), delegate(name, 9, 1, 1)} {
			if e := keys.May(facts, nil, f, d); e != api.ErrFew {
				t.Fatalf("the delegation may add %v after %v: %d", f, facts, e)
			}
		}
		for range 18 {
			want := api.ErrFew
			if len(d) >= n && len(facts) <= until {
				want = api.OK
				permitted++
			}
			if e := keys.May(facts, nil, release(name), d); e != want {
				t.Fatalf("the delegation until %d may add a release after %d facts: %d", until, len(facts), e)
			}
			moved := append(slices.Clone(facts), transfer(name, owner.Need, owner.Keys...))
			if e := keys.May(moved, nil, release(name), d); e != api.ErrFew {
				t.Fatalf("the delegation before a transfer may add a release after %v: %d", moved, e)
			}
			facts = append(facts, release(name))
		}
	}
	if permitted < 1000 {
		t.Error(permitted)
	}
}

// P11.8: the owner after the facts of the chain alone is the owner after all facts.
func TestChainAlone(t *testing.T) {
	for seed := range 10000 {
		pick := rand.New(rand.NewSource(int64(seed))).Intn
		facts, _ := pickLog(pick, pick(30), nil, false)
		for _, name := range []string{"a", "b", ""} {
			var alone []api.Fact
			chain := keys.Chain(facts, name)
			for _, i := range chain {
				alone = append(alone, facts[i])
			}
			changed := slices.Clone(facts)
			for i := range changed {
				if !slices.Contains(chain, i) {
					for changed[i] = pickFact(pick); len(indices(changed[i:i+1], name, api.FcTransfer, api.FcRotate)) > 0; {
						changed[i] = pickFact(pick)
					}
				}
			}
			l, n, ok := keys.Owner(facts, name)
			for _, other := range [][]api.Fact{alone, changed} {
				if k, m, there := keys.Owner(other, name); !slices.Equal(k, l) || m != n || there != ok {
					t.Fatalf("the owner of %q after %v is %v, %d, %v, but after %v %v, %d, %v", name, facts, l, n, ok, other, k, m, there)
				}
			}
		}
	}
}

// P11.1 to P11.4: any calls.
func FuzzCalls(f *testing.F) {
	f.Add([]byte("\x00\x01\x02\x0c\x00\x05\x00\x00\x00\x01\x01\x00\x01\x03\x00"))
	f.Add([]byte("transfers and rotations and delegations, and who signs them"))
	f.Fuzz(func(t *testing.T, data []byte) {
		compare(t, func(n int) int {
			if len(data) == 0 {
				return 0
			}
			b := data[0]
			data = data[1:]
			return int(b) % n
		})
	})
}
