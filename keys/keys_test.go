package keys_test

import (
	"math"
	"slices"
	"testing"

	"lading/api"
	"lading/keys"
)

// transfer returns a fact that gives a name to some keys.
func transfer(name string, need int, l ...int) api.Fact {
	return api.Fact{Kind: api.FcTransfer, Name: name, Keys: l, Need: need}
}

// rotate returns a fact that changes the keys of a name.
func rotate(name string, need int, l ...int) api.Fact {
	return api.Fact{Kind: api.FcRotate, Name: name, Keys: l, Need: need}
}

// delegate returns a fact that lets some keys release a name up to an entry.
func delegate(name string, until, need int, l ...int) api.Fact {
	return api.Fact{Kind: api.FcDelegate, Name: name, Keys: l, Need: need, Until: until}
}

// release returns a fact that publishes a release of a name.
func release(name string) api.Fact {
	return api.Fact{Kind: api.FcRelease, Release: api.Release{Name: name}}
}

// advise returns a fact that publishes an advice about a name.
func advise(name string) api.Fact {
	return api.Fact{Kind: api.FcAdvise, Advice: api.Advice{Name: name}}
}

// plain returns a fact that has its name in its own field, and nothing else.
func plain(kind int, name string) api.Fact {
	return api.Fact{Kind: kind, Name: name}
}

// upTo returns the numbers from 0 to n - 1.
func upTo(n int) []int {
	var l []int
	for i := range n {
		l = append(l, i)
	}
	return l
}

// mixed is a log in which two names change their owners and delegations, with facts that look like those of another name.
func mixed() []api.Fact {
	l := []api.Fact{
		transfer("a", 1, 1),
		delegate("a", 9, 1, 7),
		rotate("a", 2, 2, 3),
		transfer("b", 1, 4),
		delegate("b", 3, 2, 5, 6),
		transfer("a", 3, 8, 9, 10),
		delegate("a", 4, 1, 11),
		delegate("a", -5, 2, 12, 13),
		{Kind: api.FcRelease, Name: "a", Keys: []int{99}, Need: 1, Release: api.Release{Name: "b"}},
		{Kind: api.FcAdvise, Name: "b", Keys: []int{98}, Need: 1, Advice: api.Advice{Name: "a"}},
		{Kind: api.FcVerdict, Name: "a", Keys: []int{97}, Need: 1},
		{Kind: api.FcYank, Name: "a", Keys: []int{96}, Need: 1},
		{Kind: api.FcUnyank, Name: "b", Keys: []int{95}, Need: 1},
		{Kind: api.FcRotate, Name: "b", Keys: []int{4, 14}, Need: 2, Release: api.Release{Name: "a"}, Advice: api.Advice{Name: "a"}},
		{Kind: api.FcDelegate, Name: "b", Keys: []int{15}, Need: 1, Until: math.MaxInt, Release: api.Release{Name: "a"}, Advice: api.Advice{Name: "a"}},
		{Kind: api.FcTransfer, Name: "c", Keys: []int{16}, Need: 1, Release: api.Release{Name: "a"}, Advice: api.Advice{Name: "b"}},
		{Kind: api.FcKinds, Name: "a", Keys: []int{94}, Need: 1},
		{Kind: -1, Name: "a", Keys: []int{93}, Need: 1},
	}
	return l
}

// owner requires what Owner returns, with no keys for a name without an owner.
func owner(t *testing.T, facts []api.Fact, name string, need int, want ...int) {
	t.Helper()
	l, n, ok := keys.Owner(facts, name)
	if !slices.Equal(l, want) || n != need || ok != (want != nil) {
		t.Errorf("after %d facts, Owner of %q returns %v, %d, %v, not %v, %d", len(facts), name, l, n, ok, want, need)
	}
}

// delegation requires what Delegates returns.
func delegation(t *testing.T, facts []api.Fact, name string, until, need int, want ...int) {
	t.Helper()
	l, n, last := keys.Delegates(facts, name)
	if !slices.Equal(l, want) || n != need || last != until {
		t.Errorf("after %d facts, Delegates of %q returns %v, %d, %d, not %v, %d, %d", len(facts), name, l, n, last, want, need, until)
	}
}

// P11.1: the last transfer or rotation with the name says who owns it.
func TestOwner(t *testing.T) {
	l := mixed()
	owner(t, nil, "a", 0)
	owner(t, []api.Fact{}, "", 0)
	for n := 1; n <= len(l); n++ {
		switch {
		case n <= 2:
			owner(t, l[:n], "a", 1, 1)
		case n <= 5:
			owner(t, l[:n], "a", 2, 2, 3)
		default:
			owner(t, l[:n], "a", 3, 8, 9, 10)
		}
		switch {
		case n <= 3:
			owner(t, l[:n], "b", 0)
		case n <= 13:
			owner(t, l[:n], "b", 1, 4)
		default:
			owner(t, l[:n], "b", 2, 4, 14)
		}
		if n <= 15 {
			owner(t, l[:n], "c", 0)
		} else {
			owner(t, l[:n], "c", 1, 16)
		}
		owner(t, l[:n], "", 0)
		owner(t, l[:n], "A", 0)
		owner(t, l[:n], "a ", 0)
	}
}

// P11.1: the last delegation with the name after its last transfer; rotations and facts with other names do not matter.
func TestDelegates(t *testing.T) {
	l := mixed()
	delegation(t, nil, "a", 0, 0)
	delegation(t, []api.Fact{}, "", 0, 0)
	for n := 1; n <= len(l); n++ {
		switch {
		case n <= 1:
			delegation(t, l[:n], "a", 0, 0)
		case n <= 5:
			delegation(t, l[:n], "a", 9, 1, 7)
		case n <= 6:
			delegation(t, l[:n], "a", 0, 0)
		case n <= 7:
			delegation(t, l[:n], "a", 4, 1, 11)
		default:
			delegation(t, l[:n], "a", -5, 2, 12, 13)
		}
		switch {
		case n <= 4:
			delegation(t, l[:n], "b", 0, 0)
		case n <= 14:
			delegation(t, l[:n], "b", 3, 2, 5, 6)
		default:
			delegation(t, l[:n], "b", math.MaxInt, 1, 15)
		}
		delegation(t, l[:n], "c", 0, 0)
		delegation(t, l[:n], "", 0, 0)
	}
}

// P11.1: facts that no log admits: keys that are no set, any Need, a rotation or a delegation of a name that nobody owned, the empty name.
func TestAnyFacts(t *testing.T) {
	l := []api.Fact{rotate("a", -3, 5, 5, -1, 1000), delegate("b", 7, 0, 3, 2, 1), transfer("", math.MaxInt), delegate("", math.MinInt, math.MinInt)}
	owner(t, l, "a", -3, 5, 5, -1, 1000)
	delegation(t, l, "a", 0, 0)
	owner(t, l, "b", 0)
	delegation(t, l, "b", 7, 0, 3, 2, 1)
	if k, n, ok := keys.Owner(l, ""); len(k) != 0 || n != math.MaxInt || !ok {
		t.Error(k, n, ok)
	}
	delegation(t, l, "", math.MinInt, math.MinInt)
	l = append(l, rotate("b", 1, 1), delegate("a", 2, 2))
	owner(t, l, "b", 1, 1)
	delegation(t, l, "b", 7, 0, 3, 2, 1)
	delegation(t, l, "a", 2, 2)
	l = append(l, transfer("b", 1, 2), transfer("a", 0))
	delegation(t, l, "b", 0, 0)
	delegation(t, l, "a", 0, 0)
	if k, n, ok := keys.Owner(l, "a"); len(k) != 0 || n != 0 || !ok {
		t.Error(k, n, ok)
	}
}

// may requires what May returns.
func may(t *testing.T, facts []api.Fact, registry []int, f api.Fact, want api.Errno, signers ...int) {
	t.Helper()
	if e := keys.May(facts, registry, f, signers); e != want {
		t.Errorf("May of %v by %v after %d facts returns %d, not %d", f, signers, len(facts), e, want)
	}
}

// P11.2: kinds, sets of keys and numbers of signers that are not right come before all other errors.
func TestMayArg(t *testing.T) {
	l := []api.Fact{transfer("a", 1, 1)}
	for kind := -2; kind <= api.FcKinds+1; kind++ {
		f := api.Fact{Kind: kind, Name: "a", Keys: []int{1}, Need: 1, Release: api.Release{Name: "a"}, Advice: api.Advice{Name: "a"}}
		want := api.OK
		if kind < 0 || kind >= 8 {
			want = api.ErrArg
		}
		may(t, l, []int{1}, f, want, 1)
		f.Keys, f.Need = nil, 0
		if kind == api.FcRotate || kind == api.FcTransfer || kind == api.FcDelegate {
			want = api.ErrArg
		}
		may(t, l, []int{1}, f, want, 1)
	}
	may(t, nil, nil, plain(math.MinInt, "a"), api.ErrArg)
	may(t, nil, nil, plain(math.MaxInt, "a"), api.ErrArg)
	for _, x := range []struct {
		right bool
		keys  []int
	}{
		{true, []int{0}}, {true, []int{199}}, {true, []int{0, 199}}, {true, []int{1, 2, 3}}, {true, []int{198, 199}}, {true, upTo(12)}, {true, upTo(11)},
		{true, []int{3, 30, 39, 60, 61, 90, 100, 120, 150, 180, 198, 199}},
		{false, nil}, {false, []int{-1}}, {false, []int{200}}, {false, []int{-1, 1}}, {false, []int{1, 200}}, {false, []int{1, 1}}, {false, []int{2, 1}}, {false, []int{0, 0}},
		{false, []int{1, 3, 2}}, {false, []int{1, 2, 2}}, {false, []int{0, 1, 2, 1}}, {false, upTo(13)}, {false, []int{math.MinInt}}, {false, []int{math.MaxInt}}, {false, []int{5, math.MinInt}},
		{false, []int{0, -1}}, {false, upTo(200)},
	} {
		for _, kind := range []int{api.FcRotate, api.FcTransfer, api.FcDelegate} {
			for _, need := range []int{math.MinInt, -1, 0, 1, len(x.keys) - 1, len(x.keys), len(x.keys) + 1, math.MaxInt} {
				f := api.Fact{Kind: kind, Name: "a", Keys: x.keys, Need: need}
				want, none, few := api.OK, api.ErrOwner, api.ErrFew
				if kind == api.FcTransfer {
					none = api.OK
				}
				if !x.right || need < 1 || need > len(x.keys) {
					want, none, few = api.ErrArg, api.ErrArg, api.ErrArg
				}
				may(t, l, nil, f, want, 1)
				may(t, l, nil, f, few, 2)
				may(t, nil, nil, f, none, x.keys...)
			}
		}
	}
}

// P11.2: the keys and numbers of other kinds of facts do not matter, nor does Until.
func TestMayOtherFields(t *testing.T) {
	l := []api.Fact{transfer("a", 1, 1)}
	for _, kind := range []int{api.FcRelease, api.FcYank, api.FcUnyank, api.FcAdvise, api.FcVerdict} {
		f := api.Fact{Kind: kind, Name: "a", Keys: []int{-5, -5}, Need: -1, Until: -1, Print: -1, Time: -1, Release: api.Release{Name: "a"}}
		may(t, l, []int{1}, f, api.OK, 1)
	}
	for _, until := range []int{math.MinInt, -1, 0, 1, api.MaxFacts + 1, math.MaxInt} {
		may(t, l, nil, delegate("a", until, 1, 5), api.OK, 1)
	}
}

// P11.2: advices and verdicts ask for one key of the registry and for nothing else.
func TestMayRegistry(t *testing.T) {
	l := []api.Fact{transfer("a", 1, 1), delegate("a", 9, 1, 7)}
	for _, name := range []string{"a", "b", ""} {
		for _, f := range []api.Fact{advise(name), plain(api.FcVerdict, name)} {
			may(t, l, []int{50, 51}, f, api.OK, 50)
			may(t, l, []int{50, 51}, f, api.OK, 51)
			may(t, l, []int{50, 51}, f, api.OK, 3, 51, 9)
			may(t, l, []int{50, 51}, f, api.OK, 50, 50)
			may(t, l, []int{50, 50}, f, api.OK, 50)
			may(t, l, []int{-9, 1000}, f, api.OK, 1000)
			may(t, l, []int{50, 51}, f, api.ErrKey)
			may(t, l, []int{50, 51}, f, api.ErrKey, 1)
			may(t, l, []int{50, 51}, f, api.ErrKey, 49, 52, 7, 1, 0)
			may(t, l, nil, f, api.ErrKey, 1, 0)
			may(t, l, nil, f, api.ErrKey)
			may(t, nil, []int{0}, f, api.OK, 0)
		}
	}
}

// P11.2: a name without an owner is only there to be taken, by those who will own it.
func TestMayNoOwner(t *testing.T) {
	l := []api.Fact{transfer("a", 1, 1), delegate("b", 9, 1, 1), release("b"), plain(api.FcYank, "b"), {Kind: api.FcRelease, Name: "c", Release: api.Release{Name: "a"}}}
	for _, name := range []string{"b", "c", ""} {
		for _, f := range []api.Fact{release(name), plain(api.FcYank, name), plain(api.FcUnyank, name), rotate(name, 1, 1), delegate(name, 9, 1, 1)} {
			may(t, l, []int{1, 2}, f, api.ErrOwner, 1, 2)
			may(t, l, []int{1, 2}, f, api.ErrOwner)
			may(t, nil, nil, f, api.ErrOwner, 1)
		}
		for _, before := range [][]api.Fact{nil, l} {
			may(t, before, nil, transfer(name, 1, 4, 5), api.OK, 4)
			may(t, before, nil, transfer(name, 1, 4, 5), api.OK, 5)
			may(t, before, nil, transfer(name, 2, 4, 5), api.OK, 5, 4)
			may(t, before, nil, transfer(name, 2, 4, 5, 6), api.OK, 9, 6, 6, 1, 4)
			may(t, before, nil, transfer(name, 2, 4, 5), api.ErrFew, 4)
			may(t, before, nil, transfer(name, 2, 4, 5), api.ErrFew, 4, 4, 1)
			may(t, before, []int{1}, transfer(name, 1, 4, 5), api.ErrFew, 1, 6)
			may(t, before, nil, transfer(name, 1, 4, 5), api.ErrFew)
			may(t, before, nil, transfer(name, 12, 0, 1, 2, 3, 4, 5, 6, 7, 8, 9, 10, 199), api.OK, 199, 0, 10, 1, 9, 2, 8, 3, 7, 4, 6, 5)
			may(t, before, nil, transfer(name, 12, 0, 1, 2, 3, 4, 5, 6, 7, 8, 9, 10, 199), api.ErrFew, 199, 0, 10, 1, 9, 2, 8, 3, 7, 4, 6)
		}
	}
}

// P11.2: so many of the owner's keys sign.
func TestMayOwner(t *testing.T) {
	l := []api.Fact{transfer("a", 2, 1, 2, 3), transfer("b", 1, 8)}
	for _, f := range []api.Fact{release("a"), plain(api.FcYank, "a"), plain(api.FcUnyank, "a"), rotate("a", 1, 9), transfer("a", 1, 9), delegate("a", 9, 1, 9)} {
		for _, signers := range [][]int{{1, 2}, {2, 1}, {1, 3}, {2, 3}, {3, 2, 1}, {1, 1, 3}, {1, 9, 3}, {9, 200, -1, 2, 2, 3}} {
			may(t, l, nil, f, api.OK, signers...)
		}
		for _, signers := range [][]int{nil, {1}, {2}, {3}, {1, 1}, {3, 3, 3}, {9}, {8}, {8, 9}, {1, 8, 9}, {9, 9, 2, 0, 4}} {
			may(t, l, []int{1, 2, 3, 8, 9}, f, api.ErrFew, signers...)
		}
	}
	// The release and the advice of a fact of another kind say nothing, nor does the name of a release.
	may(t, l, nil, api.Fact{Kind: api.FcYank, Name: "b", Release: api.Release{Name: "a"}, Advice: api.Advice{Name: "a"}}, api.OK, 8)
	may(t, l, nil, api.Fact{Kind: api.FcRelease, Name: "a", Release: api.Release{Name: "b"}, Advice: api.Advice{Name: "a"}}, api.OK, 8)
	// After a rotation only the new keys count, and after a transfer only those of the new owner.
	l = append(l, rotate("a", 1, 3, 4))
	may(t, l, nil, release("a"), api.OK, 3)
	may(t, l, nil, release("a"), api.OK, 4)
	may(t, l, nil, release("a"), api.ErrFew, 1, 2)
	l = append(l, transfer("a", 2, 5, 6))
	may(t, l, nil, release("a"), api.OK, 5, 6)
	may(t, l, nil, release("a"), api.ErrFew, 3, 4, 6)
}

// P11.2: so many of the delegation's keys sign, for releases and as long as it is in force.
func TestMayDelegation(t *testing.T) {
	l := []api.Fact{transfer("a", 2, 1, 2, 3), transfer("b", 1, 8), delegate("a", 5, 2, 3, 7, 9)}
	for n := 3; n < 9; n++ {
		want := api.OK
		if n > 5 {
			want = api.ErrFew
		}
		may(t, l, nil, release("a"), want, 7, 9)
		may(t, l, nil, release("a"), want, 9, 9, 5, 3)
		may(t, l, nil, release("a"), api.OK, 1, 3)
		for _, signers := range [][]int{nil, {7}, {9, 9}, {1, 7}, {3}, {2, 9, 8}} {
			may(t, l, []int{7, 9}, release("a"), api.ErrFew, signers...)
		}
		for _, f := range []api.Fact{plain(api.FcYank, "a"), plain(api.FcUnyank, "a"), rotate("a", 1, 9), transfer("a", 1, 9), delegate("a", 9, 1, 9)} {
			may(t, l, nil, f, api.ErrFew, 3, 7, 9)
		}
		may(t, l, nil, release("b"), api.ErrFew, 3, 7, 9)
		l = append(l, release("a"))
	}
	// A later delegation replaces the one before, also if it ends earlier; a rotation keeps it; a transfer ends it.
	l = append(l, delegate("a", 100, 1, 11), rotate("a", 1, 20))
	may(t, l, nil, release("a"), api.OK, 11)
	may(t, l, nil, release("a"), api.ErrFew, 7, 9)
	may(t, append(slices.Clone(l), delegate("a", 3, 1, 12)), nil, release("a"), api.ErrFew, 11, 12)
	may(t, append(slices.Clone(l), transfer("b", 1, 12), delegate("b", 100, 1, 13)), nil, release("a"), api.OK, 11)
	may(t, append(slices.Clone(l), transfer("a", 1, 20)), nil, release("a"), api.ErrFew, 11)
}

// P11.2: facts before that no log admits: a Need of 0 or less is met by an owner and not by a delegation, and keys count once.
func TestMayAnyFacts(t *testing.T) {
	for _, need := range []int{math.MinInt, -1, 0} {
		may(t, []api.Fact{transfer("a", need, 1)}, nil, release("a"), api.OK)
		may(t, []api.Fact{rotate("a", need)}, nil, plain(api.FcYank, "a"), api.OK)
		may(t, []api.Fact{transfer("a", 1, 1), delegate("a", 9, need, 7)}, nil, release("a"), api.ErrFew, 7)
		may(t, []api.Fact{transfer("a", 1, 1), delegate("a", 9, need)}, nil, release("a"), api.ErrFew)
	}
	may(t, []api.Fact{transfer("a", 2, 1, 1, -4)}, nil, release("a"), api.ErrFew, 1, 1)
	may(t, []api.Fact{transfer("a", 2, 1, 1, -4)}, nil, release("a"), api.OK, -4, 1)
	may(t, []api.Fact{transfer("a", 3, 1, 2)}, nil, release("a"), api.ErrFew, 1, 2, 3)
	may(t, []api.Fact{transfer("a", math.MaxInt, 1, 2), delegate("a", math.MaxInt, 2, 7, 7, 500)}, nil, release("a"), api.ErrFew, 1, 2, 7, 7)
	may(t, []api.Fact{transfer("a", math.MaxInt, 1, 2), delegate("a", math.MaxInt, 2, 7, 7, 500)}, nil, release("a"), api.OK, 500, 7)
	// A name whose owner only stands in a rotation has one; a delegation alone makes none.
	may(t, []api.Fact{rotate("a", 1, 1), delegate("a", 2, 1, 7)}, nil, transfer("a", 1, 5), api.ErrFew, 5)
	may(t, []api.Fact{rotate("a", 1, 1), delegate("a", 2, 1, 7)}, nil, release("a"), api.OK, 7)
	may(t, []api.Fact{delegate("a", 9, 1, 7)}, nil, release("a"), api.ErrOwner, 7)
	may(t, []api.Fact{delegate("a", 9, 1, 7)}, nil, transfer("a", 1, 5), api.OK, 5)
	may(t, []api.Fact{transfer("a", 1, 1), delegate("a", -1, 1, 7)}, nil, release("a"), api.ErrFew, 7)
	may(t, []api.Fact{delegate("a", 1, 1, 7), rotate("a", 1, 1)}, nil, release("a"), api.ErrFew, 7)
}

// The examples of the chapter.
func TestExamples(t *testing.T) {
	l := []api.Fact{transfer("geo", 2, 1, 2, 3), delegate("geo", 5, 1, 7)}
	may(t, l, nil, release("geo"), api.OK, 1, 2)
	may(t, l, nil, release("geo"), api.ErrFew, 1, 1)
	may(t, l, nil, release("geo"), api.OK, 7)
	may(t, l, nil, plain(api.FcYank, "geo"), api.ErrFew, 7)
	may(t, l, nil, plain(api.FcYank, "geo"), api.OK, 3, 9, 1)
	may(t, l, nil, release("base"), api.ErrOwner, 1)
	may(t, l, nil, transfer("base", 1, 4, 5), api.OK, 5)
}
