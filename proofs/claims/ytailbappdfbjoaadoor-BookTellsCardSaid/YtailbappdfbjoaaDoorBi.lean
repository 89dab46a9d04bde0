/-
  What an operation does, to a book and its ring; the law's do.
-/
import Derived.Test.YtailbappdfbjoaaDoorBh
namespace Go.Proofs.YtailbappdfbjoaaDoor
open Go.RowKit Go.MapKept Go.Maps Go.WideMaps

/-- An operation: its kind, its number and its string. -/
abbrev Op3 := Int × Int × Txt
/-- What is signed by an operation, if anything; the error; the number; the book then. -/
noncomputable def opO (s : BS) (o : Op3) : Option Sd :=
  if o.1 = 0 then none else if o.1 = 1 then enO s o.2.1 else if o.1 = 2 then hdO s o.2.1 else if o.1 = 3 then abO s o.2.2 o.2.1 else if o.2.1 = s.k then none else some (o.2.1, o.2.2)
noncomputable def opE (s : BS) (o : Op3) : Int :=
  if o.1 = 0 then apE o.2.2 else if o.1 = 1 then enE s o.2.1 else if o.1 = 2 then hdE s o.2.1 else if o.1 = 3 then abE s o.2.2 o.2.1 else 0
noncomputable def opN (s : BS) (o : Op3) : Int := if o.1 = 0 then apN s o.2.2 else 0
noncomputable def opB (s : BS) (o : Op3) : BS := if o.1 = 0 then apS s o.2.2 else if o.1 = 2 then hdS s o.2.1 else s
/-- An operation as a value. -/
def opV (o : Op3) : Value := .agg #[.int .i64 o.1, .int .i64 o.2.1, .string (S o.2.2)]
def Op3.ok (o : Op3) : Prop := Wm.inInt o.1 ∧ Wm.inInt o.2.1 ∧ o.2.2.length ≤ 9223372036854775807
theorem Has.bsig {W w : World} {B R : Nat} {s : BS} {q : List Sd} {U : Thing} (h : Has W w ((BookT B R s q).sep U)) (k : Int) (t : Txt) (ht : t.length ≤ maxLen) (hq : q.length ≤ 1000000) :
    Calls Tryd.prog 34 #[.pointer (some ⟨R, 0, none⟩), .int .i64 k, .string (S t)] w fun r w' => r = .returned (sgV (signR q (k, t))) ∧ Has W w' ((BookT B R s (signL q (k, t))).sep U) := by
  obtain ⟨M, ev, m, hb⟩ := h.bopen
  refine (Has.sign hb k t ht hq).mono ?_
  rintro r w' ⟨rfl, h1⟩
  exact ⟨rfl, BP.close h1⟩
theorem Has.rbsig {W w : World} {B R : Nat} {s : BS} {q : List Sd} {U : Thing} (h : Has W w ((RBookT B R s q).sep U)) (k : Int) (t : Txt) (hq : q.length ≤ 1000000) :
    Calls Tryd.prog 39 #[.pointer (some ⟨R, 0, none⟩), .int .i64 k, .string (S t)] w fun r w' => r = .returned (sgV (signR q (k, t))) ∧ Has W w' ((RBookT B R s (signL q (k, t))).sep U) := by
  obtain ⟨ev, hb⟩ := h.ropen
  refine (Has.rsign hb k t hq).mono ?_
  rintro r w' ⟨rfl, h1⟩
  exact ⟨rfl, RP.close h1⟩
/-- The op's box, the result's box. -/
theorem Has.opBox {W w : World} {T U : Thing} (h : Has W w (T.sep U)) (ob : Array Value) (t : TypeId) : Has W ((w.alloc (.cells ob t)).alloc (.cells #[.int .i64 0, .string ⟨#[]⟩, .int .i64 0] 37)) (T.sep ((BoxT 37 (w.heap.size + 1) #[.int .i64 0, .string ⟨#[]⟩, .int .i64 0]).sep U)) := by
  have h1 := (h.fr (Fr.alloc w (.cells ob t))).sgBox
  rwa [show (w.alloc (.cells ob t)).heap.size = w.heap.size + 1 by simp] at h1
set_option maxHeartbeats 2000000 in
set_option maxRecDepth 100000 in
theorem do_0 {W w : World} {B R : Nat} {s : BS} {q : List Sd} {U : Thing} (h : Has W w ((BookT B R s q).sep U)) (hs : s.ok) (_hq : q.length ≤ 1000000) (n : Int) (t : Txt) (ht : t.length ≤ 9223372036854775807) :
    Calls Tryd.prog 13 #[.pointer (some ⟨B, 0, none⟩), .pointer (some ⟨R, 0, none⟩), .int .i64 s.k, .agg #[.int .i64 0, .int .i64 n, .string (S t)]] w fun e w' => e = .returned (.tuple #[sgV (0, [], 0), .int .i64 (apN s t), .int .i64 (apE t)]) ∧ Has W w' ((BookT B R (apS s t) q).sep U) := by
  have HS := Lib.hid (h.opBox #[.int .i64 0, .int .i64 n, .string (S t)] 41)
  have HQ := Lib.hid hs
  clear h hs
  go_enter Tryd.func13, Tryd.ntmps13
  go_wp2_with (go_at_call 26; refine (bappend HS.out t ht HQ.out.1).mono ?_; rintro e w3 ⟨rfl, h3⟩
               obtain ⟨aN, haN⟩ : ∃ aN, aN = apN s t := ⟨_, rfl⟩
               obtain ⟨aE, haE⟩ : ∃ aE, aE = apE t := ⟨_, rfl⟩
               rw [← haN, ← haE]
               have HAN := Lib.hid haN
               have HAE := Lib.hid haE
               have hR := h3.turn.boxed
               have d0 : w3.cell? ⟨w.heap.size + 1, 0, none⟩ = some (.int .i64 0) := cellOf hR rfl
               have d1 : w3.cell? ⟨w.heap.size + 1, 1, none⟩ = some (.string ⟨#[]⟩) := cellOf hR rfl
               have d2 : w3.cell? ⟨w.heap.size + 1, 2, none⟩ = some (.int .i64 0) := cellOf hR rfl
               have e0 := frozenOf hR 0
               have e1 := frozenOf hR 1
               have e2 := frozenOf hR 2
               have H3 := Lib.hid h3
               clear haN haE hR h3)
  obtain ⟨hR, hF⟩ := sg_end H3.out (.int .i64 0) (.string ⟨#[]⟩) (.int .i64 0)
  have k0 := cellOf hR (i := 0) (v := .int .i64 0) rfl
  have k1 := cellOf hR (i := 1) (v := .string ⟨#[]⟩) rfl
  have k2 := cellOf hR (i := 2) (v := .int .i64 0) rfl
  refine bodyPost_ret (v := .tuple #[sgV (0, [], 0), .int .i64 aN, .int .i64 aE]) (by simp [results, Tryd.results13, go_sem, k0, k1, k2]; rfl) rfl ⟨by rw [HAN.out, HAE.out], ?_⟩
  exact hF
set_option maxHeartbeats 2000000 in
set_option maxRecDepth 100000 in
theorem do_1 {W w : World} {B R : Nat} {s : BS} {q : List Sd} {U : Thing} (h : Has W w ((BookT B R s q).sep U)) (hs : s.ok) (hq : q.length ≤ 1000000) (n : Int) (t : Txt) (hT : Tab W) (hn : Wm.inInt n) :
    Calls Tryd.prog 13 #[.pointer (some ⟨B, 0, none⟩), .pointer (some ⟨R, 0, none⟩), .int .i64 s.k, .agg #[.int .i64 1, .int .i64 n, .string (S t)]] w fun e w' => e = .returned (.tuple #[sgV (sgO q (enO s n)), .int .i64 0, .int .i64 (enE s n)]) ∧ Has W w' ((BookT B R s (qO q (enO s n))).sep U) := by
  have HS := Lib.hid (h.opBox #[.int .i64 1, .int .i64 n, .string (S t)] 41)
  have HQ := Lib.hid hs
  clear h hs
  go_enter Tryd.func13, Tryd.ntmps13
  go_wp2_with (go_at_call 28; refine (bentry HS.out hT n hn HQ.out hq).mono ?_; rintro e w3 ⟨rfl, h3⟩
               obtain ⟨g, hg⟩ : ∃ g, g = sgO q (enO s n) := ⟨_, rfl⟩
               obtain ⟨aE, haE⟩ : ∃ aE, aE = enE s n := ⟨_, rfl⟩
               rw [← hg, ← haE]
               have HG := Lib.hid hg
               have HAE := Lib.hid haE
               obtain ⟨l0, l1, l2, x0, x1, x2, z0, z1, z2, HE⟩ := sg_pack (h3.box 37 #[.int .i64 g.1, .string (S g.2.1), .int .i64 g.2.2])
               have HE := Lib.hid HE
               unfold sgV
               clear hg haE h3)
  obtain ⟨hR, hF⟩ := sg_end HE.out (.int .i64 g.1) (.string (S g.2.1)) (.int .i64 g.2.2)
  have k0 := cellOf hR (i := 0) (v := .int .i64 g.1) rfl
  have k1 := cellOf hR (i := 1) (v := .string (S g.2.1)) rfl
  have k2 := cellOf hR (i := 2) (v := .int .i64 g.2.2) rfl
  refine bodyPost_ret (v := .tuple #[sgV g, .int .i64 0, .int .i64 aE]) (by simp [results, Tryd.results13, go_sem, k0, k1, k2]; rfl) rfl ⟨by rw [HG.out, HAE.out], ?_⟩
  exact hF
set_option maxHeartbeats 2000000 in
set_option maxRecDepth 100000 in
theorem do_2 {W w : World} {B R : Nat} {s : BS} {q : List Sd} {U : Thing} (h : Has W w ((BookT B R s q).sep U)) (hs : s.ok) (hq : q.length ≤ 1000000) (n : Int) (t : Txt) (hT : Tab W) :
    Calls Tryd.prog 13 #[.pointer (some ⟨B, 0, none⟩), .pointer (some ⟨R, 0, none⟩), .int .i64 s.k, .agg #[.int .i64 2, .int .i64 n, .string (S t)]] w fun e w' => e = .returned (.tuple #[sgV (sgO q (hdO s n)), .int .i64 0, .int .i64 (hdE s n)]) ∧ Has W w' ((BookT B R (hdS s n) (qO q (hdO s n))).sep U) := by
  have HS := Lib.hid (h.opBox #[.int .i64 2, .int .i64 n, .string (S t)] 41)
  have HQ := Lib.hid hs
  clear h hs
  go_enter Tryd.func13, Tryd.ntmps13
  go_wp2_with (go_at_call 32; refine (bhead HS.out hT n HQ.out hq).mono ?_; rintro e w3 ⟨rfl, h3⟩
               obtain ⟨g, hg⟩ : ∃ g, g = sgO q (hdO s n) := ⟨_, rfl⟩
               obtain ⟨aE, haE⟩ : ∃ aE, aE = hdE s n := ⟨_, rfl⟩
               rw [← hg, ← haE]
               have HG := Lib.hid hg
               have HAE := Lib.hid haE
               obtain ⟨l0, l1, l2, x0, x1, x2, z0, z1, z2, HE⟩ := sg_pack (h3.box 37 #[.int .i64 g.1, .string (S g.2.1), .int .i64 g.2.2])
               have HE := Lib.hid HE
               unfold sgV
               clear hg haE h3)
  obtain ⟨hR, hF⟩ := sg_end HE.out (.int .i64 g.1) (.string (S g.2.1)) (.int .i64 g.2.2)
  have k0 := cellOf hR (i := 0) (v := .int .i64 g.1) rfl
  have k1 := cellOf hR (i := 1) (v := .string (S g.2.1)) rfl
  have k2 := cellOf hR (i := 2) (v := .int .i64 g.2.2) rfl
  refine bodyPost_ret (v := .tuple #[sgV g, .int .i64 0, .int .i64 aE]) (by simp [results, Tryd.results13, go_sem, k0, k1, k2]; rfl) rfl ⟨by rw [HG.out, HAE.out], ?_⟩
  exact hF
set_option maxHeartbeats 2000000 in
set_option maxRecDepth 100000 in
theorem do_3 {W w : World} {B R : Nat} {s : BS} {q : List Sd} {U : Thing} (h : Has W w ((BookT B R s q).sep U)) (hs : s.ok) (hq : q.length ≤ 1000000) (n : Int) (t : Txt) (hT : Tab W) :
    Calls Tryd.prog 13 #[.pointer (some ⟨B, 0, none⟩), .pointer (some ⟨R, 0, none⟩), .int .i64 s.k, .agg #[.int .i64 3, .int .i64 n, .string (S t)]] w fun e w' => e = .returned (.tuple #[sgV (sgO q (abO s t n)), .int .i64 0, .int .i64 (abE s t n)]) ∧ Has W w' ((BookT B R s (qO q (abO s t n))).sep U) := by
  have HS := Lib.hid (h.opBox #[.int .i64 3, .int .i64 n, .string (S t)] 41)
  have HQ := Lib.hid hs
  clear h hs
  go_enter Tryd.func13, Tryd.ntmps13
  go_wp2_with (go_at_call 27; refine (babsent HS.out hT t n HQ.out hq).mono ?_; rintro e w3 ⟨rfl, h3⟩
               obtain ⟨g, hg⟩ : ∃ g, g = sgO q (abO s t n) := ⟨_, rfl⟩
               obtain ⟨aE, haE⟩ : ∃ aE, aE = abE s t n := ⟨_, rfl⟩
               rw [← hg, ← haE]
               have HG := Lib.hid hg
               have HAE := Lib.hid haE
               obtain ⟨l0, l1, l2, x0, x1, x2, z0, z1, z2, HE⟩ := sg_pack (h3.box 37 #[.int .i64 g.1, .string (S g.2.1), .int .i64 g.2.2])
               have HE := Lib.hid HE
               unfold sgV
               clear hg haE h3)
  obtain ⟨hR, hF⟩ := sg_end HE.out (.int .i64 g.1) (.string (S g.2.1)) (.int .i64 g.2.2)
  have k0 := cellOf hR (i := 0) (v := .int .i64 g.1) rfl
  have k1 := cellOf hR (i := 1) (v := .string (S g.2.1)) rfl
  have k2 := cellOf hR (i := 2) (v := .int .i64 g.2.2) rfl
  refine bodyPost_ret (v := .tuple #[sgV g, .int .i64 0, .int .i64 aE]) (by simp [results, Tryd.results13, go_sem, k0, k1, k2]; rfl) rfl ⟨by rw [HG.out, HAE.out], ?_⟩
  exact hF
set_option maxHeartbeats 2000000 in
set_option maxRecDepth 100000 in
theorem do_own {W w : World} {B R : Nat} {s : BS} {q : List Sd} {U : Thing} (h : Has W w ((BookT B R s q).sep U)) (_hs : s.ok) (_hq : q.length ≤ 1000000) (k n : Int) (t : Txt) (h0 : ¬ (k = 0)) (h1 : ¬ (k = 1)) (h2 : ¬ (k = 2)) (h3 : ¬ (k = 3)) (hn : s.k = n) :
    Calls Tryd.prog 13 #[.pointer (some ⟨B, 0, none⟩), .pointer (some ⟨R, 0, none⟩), .int .i64 s.k, .agg #[.int .i64 k, .int .i64 n, .string (S t)]] w fun e w' => e = .returned (.tuple #[sgV (0, [], 0), .int .i64 0, .int .i64 0]) ∧ Has W w' ((BookT B R s q).sep U) := by
  have HS := Lib.hid (h.opBox #[.int .i64 k, .int .i64 n, .string (S t)] 41)
  clear h
  go_enter Tryd.func13, Tryd.ntmps13
  go_wp2_with fail
  refine bodyPost_ret (v := .tuple #[sgV (0, [], 0), .int .i64 0, .int .i64 0]) (by simp [results, Tryd.results13, go_sem]; rfl) rfl ⟨rfl, HS.out.turn.right⟩
set_option maxHeartbeats 2000000 in
set_option maxRecDepth 100000 in
theorem do_sig {W w : World} {B R : Nat} {s : BS} {q : List Sd} {U : Thing} (h : Has W w ((BookT B R s q).sep U)) (_hs : s.ok) (hq : q.length ≤ 1000000) (k n : Int) (t : Txt) (h0 : ¬ (k = 0)) (h1 : ¬ (k = 1)) (h2 : ¬ (k = 2)) (h3 : ¬ (k = 3)) (hn : ¬ (n = s.k)) (ht : t.length ≤ maxLen) :
    Calls Tryd.prog 13 #[.pointer (some ⟨B, 0, none⟩), .pointer (some ⟨R, 0, none⟩), .int .i64 s.k, .agg #[.int .i64 k, .int .i64 n, .string (S t)]] w fun e w' => e = .returned (.tuple #[sgV (signR q (n, t)), .int .i64 0, .int .i64 0]) ∧ Has W w' ((BookT B R s (signL q (n, t))).sep U) := by
  have HS := Lib.hid (h.opBox #[.int .i64 k, .int .i64 n, .string (S t)] 41)
  clear h
  go_enter Tryd.func13, Tryd.ntmps13
  go_wp2_with (go_at_call 34; refine (HS.out.bsig n t ht hq).mono ?_; rintro e w3 ⟨rfl, hh⟩
               obtain ⟨g, hg⟩ : ∃ g, g = signR q (n, t) := ⟨_, rfl⟩
               rw [← hg]
               have HG := Lib.hid hg
               have hR := hh.turn.boxed
               have d0 : w3.cell? ⟨w.heap.size + 1, 0, none⟩ = some (.int .i64 0) := cellOf hR rfl
               have d1 : w3.cell? ⟨w.heap.size + 1, 1, none⟩ = some (.string ⟨#[]⟩) := cellOf hR rfl
               have d2 : w3.cell? ⟨w.heap.size + 1, 2, none⟩ = some (.int .i64 0) := cellOf hR rfl
               have e0 := frozenOf hR 0
               have e1 := frozenOf hR 1
               have e2 := frozenOf hR 2
               have H3 := Lib.hid hh
               unfold sgV
               clear hg hR hh)
  obtain ⟨hR, hF⟩ := sg_end H3.out (.int .i64 g.1) (.string (S g.2.1)) (.int .i64 g.2.2)
  have k0 := cellOf hR (i := 0) (v := .int .i64 g.1) rfl
  have k1 := cellOf hR (i := 1) (v := .string (S g.2.1)) rfl
  have k2 := cellOf hR (i := 2) (v := .int .i64 g.2.2) rfl
  refine bodyPost_ret (v := .tuple #[sgV g, .int .i64 0, .int .i64 0]) (by simp [results, Tryd.results13, go_sem, k0, k1, k2]; rfl) rfl ⟨by rw [HG.out], hF⟩
theorem do_any {W w : World} {B R : Nat} {s : BS} {q : List Sd} {U : Thing} (h : Has W w ((BookT B R s q).sep U)) (hT : Tab W) (hs : s.ok) (hq : q.length ≤ 1000000) (o : Op3) (ho : o.ok) :
    Calls Tryd.prog 13 #[.pointer (some ⟨B, 0, none⟩), .pointer (some ⟨R, 0, none⟩), .int .i64 s.k, opV o] w fun e w' => e = .returned (.tuple #[sgV (sgO q (opO s o)), .int .i64 (opN s o), .int .i64 (opE s o)]) ∧ Has W w' ((BookT B R (opB s o) (qO q (opO s o))).sep U) := by
  obtain ⟨k, n, t⟩ := o
  obtain ⟨hk, hn, ht⟩ := ho
  unfold opO opN opE opB opV
  simp only at hk hn ht ⊢
  by_cases h0 : k = 0
  · subst h0
    exact do_0 h hs hq n t ht
  · rw [if_neg h0, if_neg h0, if_neg h0, if_neg h0]
    by_cases h1 : k = 1
    · subst h1
      exact do_1 h hs hq n t hT hn
    · rw [if_neg h1, if_neg h1]
      by_cases h2 : k = 2
      · subst h2
        exact do_2 h hs hq n t hT
      · rw [if_neg h2, if_neg h2, if_neg h2]
        by_cases h3 : k = 3
        · subst h3
          exact do_3 h hs hq n t hT
        · rw [if_neg h3, if_neg h3]
          by_cases hnk : n = s.k
          · rw [if_pos hnk]
            exact do_own h hs hq k n t h0 h1 h2 h3 hnk.symm
          · rw [if_neg hnk]
            exact do_sig h hs hq k n t h0 h1 h2 h3 hnk ht
end Go.Proofs.YtailbappdfbjoaaDoor
