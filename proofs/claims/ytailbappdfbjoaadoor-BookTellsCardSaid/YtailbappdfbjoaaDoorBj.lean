/-
  The law's did.
-/
import Derived.Test.YtailbappdfbjoaaDoorBi
namespace Go.Proofs.YtailbappdfbjoaaDoor
open Go.RowKit Go.MapKept Go.Maps Go.WideMaps

set_option maxHeartbeats 2000000 in
set_option maxRecDepth 100000 in
theorem did_0 {W w : World} {B R : Nat} {s : BS} {q : List Sd} {U : Thing} (h : Has W w ((RBookT B R s q).sep U)) (hs : s.ok) (_hq : q.length ≤ 1000000) (n : Int) (t : Txt) (ht : t.length ≤ 9223372036854775807) :
    Calls Tryd.prog 14 #[.pointer (some ⟨B, 0, none⟩), .agg #[.int .i64 0, .int .i64 n, .string (S t)]] w fun e w' => e = .returned (.tuple #[sgV (0, [], 0), .int .i64 (apN s t), .int .i64 (apE t)]) ∧ Has W w' ((RBookT B R (apS s t) q).sep U) := by
  have HS := Lib.hid (h.opBox #[.int .i64 0, .int .i64 n, .string (S t)] 41)
  have HQ := Lib.hid hs
  clear h hs
  go_enter Tryd.func14, Tryd.ntmps14
  go_wp2_with (go_at_call 35; refine (rbappend HS.out t ht HQ.out.1).mono ?_; rintro e w3 ⟨rfl, h3⟩
               obtain ⟨aN, haN⟩ : ∃ aN, aN = apN s t := ⟨_, rfl⟩
               obtain ⟨aE, haE⟩ : ∃ aE, aE = apE t := ⟨_, rfl⟩
               rw [← haN, ← haE]
               have HAN := Lib.hid haN
               have HAE := Lib.hid haE
               have hR := h3.turn.boxed
               have d0 : w3.cell? ⟨w.heap.size + 1, 0, none⟩ = some (.int .i64 0) := cellOf hR rfl
               have d1 : w3.cell? ⟨w.heap.size + 1, 1, none⟩ = some (.string ⟨#[]⟩) := cellOf hR rfl
               have d2 : w3.cell? ⟨w.heap.size + 1, 2, none⟩ = some (.int .i64 0) := cellOf hR rfl
               have e0 := frozenOf hR 0
               have e1 := frozenOf hR 1
               have e2 := frozenOf hR 2
               have H3 := Lib.hid h3
               clear haN haE hR h3)
  obtain ⟨hR, hF⟩ := sg_end H3.out (.int .i64 0) (.string ⟨#[]⟩) (.int .i64 0)
  have k0 := cellOf hR (i := 0) (v := .int .i64 0) rfl
  have k1 := cellOf hR (i := 1) (v := .string ⟨#[]⟩) rfl
  have k2 := cellOf hR (i := 2) (v := .int .i64 0) rfl
  refine bodyPost_ret (v := .tuple #[sgV (0, [], 0), .int .i64 aN, .int .i64 aE]) (by simp [results, Tryd.results14, go_sem, k0, k1, k2]; rfl) rfl ⟨by rw [HAN.out, HAE.out], ?_⟩
  exact hF
set_option maxHeartbeats 2000000 in
set_option maxRecDepth 100000 in
theorem did_1 {W w : World} {B R : Nat} {s : BS} {q : List Sd} {U : Thing} (h : Has W w ((RBookT B R s q).sep U)) (hs : s.ok) (hq : q.length ≤ 1000000) (n : Int) (t : Txt) (hn : Wm.inInt n) :
    Calls Tryd.prog 14 #[.pointer (some ⟨B, 0, none⟩), .agg #[.int .i64 1, .int .i64 n, .string (S t)]] w fun e w' => e = .returned (.tuple #[sgV (sgO q (enO s n)), .int .i64 0, .int .i64 (enE s n)]) ∧ Has W w' ((RBookT B R s (qO q (enO s n))).sep U) := by
  have HS := Lib.hid (h.opBox #[.int .i64 1, .int .i64 n, .string (S t)] 41)
  have HQ := Lib.hid hs
  clear h hs
  go_enter Tryd.func14, Tryd.ntmps14
  go_wp2_with (go_at_call 36; refine (rbentry HS.out n hn HQ.out hq).mono ?_; rintro e w3 ⟨rfl, h3⟩
               obtain ⟨g, hg⟩ : ∃ g, g = sgO q (enO s n) := ⟨_, rfl⟩
               obtain ⟨aE, haE⟩ : ∃ aE, aE = enE s n := ⟨_, rfl⟩
               rw [← hg, ← haE]
               have HG := Lib.hid hg
               have HAE := Lib.hid haE
               obtain ⟨l0, l1, l2, x0, x1, x2, z0, z1, z2, HE⟩ := sg_pack (h3.box 37 #[.int .i64 g.1, .string (S g.2.1), .int .i64 g.2.2])
               have HE := Lib.hid HE
               unfold sgV
               clear hg haE h3)
  obtain ⟨hR, hF⟩ := sg_end HE.out (.int .i64 g.1) (.string (S g.2.1)) (.int .i64 g.2.2)
  have k0 := cellOf hR (i := 0) (v := .int .i64 g.1) rfl
  have k1 := cellOf hR (i := 1) (v := .string (S g.2.1)) rfl
  have k2 := cellOf hR (i := 2) (v := .int .i64 g.2.2) rfl
  refine bodyPost_ret (v := .tuple #[sgV g, .int .i64 0, .int .i64 aE]) (by simp [results, Tryd.results14, go_sem, k0, k1, k2]; rfl) rfl ⟨by rw [HG.out, HAE.out], ?_⟩
  exact hF
set_option maxHeartbeats 2000000 in
set_option maxRecDepth 100000 in
theorem did_2 {W w : World} {B R : Nat} {s : BS} {q : List Sd} {U : Thing} (h : Has W w ((RBookT B R s q).sep U)) (hs : s.ok) (hq : q.length ≤ 1000000) (n : Int) (t : Txt) :
    Calls Tryd.prog 14 #[.pointer (some ⟨B, 0, none⟩), .agg #[.int .i64 2, .int .i64 n, .string (S t)]] w fun e w' => e = .returned (.tuple #[sgV (sgO q (hdO s n)), .int .i64 0, .int .i64 (hdE s n)]) ∧ Has W w' ((RBookT B R (hdS s n) (qO q (hdO s n))).sep U) := by
  have HS := Lib.hid (h.opBox #[.int .i64 2, .int .i64 n, .string (S t)] 41)
  have HQ := Lib.hid hs
  clear h hs
  go_enter Tryd.func14, Tryd.ntmps14
  go_wp2_with (go_at_call 37; refine (rbhead HS.out n HQ.out hq).mono ?_; rintro e w3 ⟨rfl, h3⟩
               obtain ⟨g, hg⟩ : ∃ g, g = sgO q (hdO s n) := ⟨_, rfl⟩
               obtain ⟨aE, haE⟩ : ∃ aE, aE = hdE s n := ⟨_, rfl⟩
               rw [← hg, ← haE]
               have HG := Lib.hid hg
               have HAE := Lib.hid haE
               obtain ⟨l0, l1, l2, x0, x1, x2, z0, z1, z2, HE⟩ := sg_pack (h3.box 37 #[.int .i64 g.1, .string (S g.2.1), .int .i64 g.2.2])
               have HE := Lib.hid HE
               unfold sgV
               clear hg haE h3)
  obtain ⟨hR, hF⟩ := sg_end HE.out (.int .i64 g.1) (.string (S g.2.1)) (.int .i64 g.2.2)
  have k0 := cellOf hR (i := 0) (v := .int .i64 g.1) rfl
  have k1 := cellOf hR (i := 1) (v := .string (S g.2.1)) rfl
  have k2 := cellOf hR (i := 2) (v := .int .i64 g.2.2) rfl
  refine bodyPost_ret (v := .tuple #[sgV g, .int .i64 0, .int .i64 aE]) (by simp [results, Tryd.results14, go_sem, k0, k1, k2]; rfl) rfl ⟨by rw [HG.out, HAE.out], ?_⟩
  exact hF
set_option maxHeartbeats 2000000 in
set_option maxRecDepth 100000 in
theorem did_3 {W w : World} {B R : Nat} {s : BS} {q : List Sd} {U : Thing} (h : Has W w ((RBookT B R s q).sep U)) (hs : s.ok) (hq : q.length ≤ 1000000) (n : Int) (t : Txt) :
    Calls Tryd.prog 14 #[.pointer (some ⟨B, 0, none⟩), .agg #[.int .i64 3, .int .i64 n, .string (S t)]] w fun e w' => e = .returned (.tuple #[sgV (sgO q (abO s t n)), .int .i64 0, .int .i64 (abE s t n)]) ∧ Has W w' ((RBookT B R s (qO q (abO s t n))).sep U) := by
  have HS := Lib.hid (h.opBox #[.int .i64 3, .int .i64 n, .string (S t)] 41)
  have HQ := Lib.hid hs
  clear h hs
  go_enter Tryd.func14, Tryd.ntmps14
  go_wp2_with (go_at_call 38; refine (rbabsent HS.out t n HQ.out hq).mono ?_; rintro e w3 ⟨rfl, h3⟩
               obtain ⟨g, hg⟩ : ∃ g, g = sgO q (abO s t n) := ⟨_, rfl⟩
               obtain ⟨aE, haE⟩ : ∃ aE, aE = abE s t n := ⟨_, rfl⟩
               rw [← hg, ← haE]
               have HG := Lib.hid hg
               have HAE := Lib.hid haE
               obtain ⟨l0, l1, l2, x0, x1, x2, z0, z1, z2, HE⟩ := sg_pack (h3.box 37 #[.int .i64 g.1, .string (S g.2.1), .int .i64 g.2.2])
               have HE := Lib.hid HE
               unfold sgV
               clear hg haE h3)
  obtain ⟨hR, hF⟩ := sg_end HE.out (.int .i64 g.1) (.string (S g.2.1)) (.int .i64 g.2.2)
  have k0 := cellOf hR (i := 0) (v := .int .i64 g.1) rfl
  have k1 := cellOf hR (i := 1) (v := .string (S g.2.1)) rfl
  have k2 := cellOf hR (i := 2) (v := .int .i64 g.2.2) rfl
  refine bodyPost_ret (v := .tuple #[sgV g, .int .i64 0, .int .i64 aE]) (by simp [results, Tryd.results14, go_sem, k0, k1, k2]; rfl) rfl ⟨by rw [HG.out, HAE.out], ?_⟩
  exact hF
set_option maxHeartbeats 2000000 in
set_option maxRecDepth 100000 in
theorem did_own {W w : World} {B R : Nat} {s : BS} {q : List Sd} {U : Thing} (h : Has W w ((RBookT B R s q).sep U)) (_hs : s.ok) (_hq : q.length ≤ 1000000) (k n : Int) (t : Txt) (h0 : ¬ (k = 0)) (h1 : ¬ (k = 1)) (h2 : ¬ (k = 2)) (h3 : ¬ (k = 3)) (hn : s.k = n) :
    Calls Tryd.prog 14 #[.pointer (some ⟨B, 0, none⟩), .agg #[.int .i64 k, .int .i64 n, .string (S t)]] w fun e w' => e = .returned (.tuple #[sgV (0, [], 0), .int .i64 0, .int .i64 0]) ∧ Has W w' ((RBookT B R s q).sep U) := by
  have HS := Lib.hid (h.opBox #[.int .i64 k, .int .i64 n, .string (S t)] 41)
  obtain ⟨ev, hb⟩ := HS.out.ropen
  have b0 : ((w.alloc (.cells #[.int .i64 k, .int .i64 n, .string (S t)] 41)).alloc (.cells #[.int .i64 0, .string ⟨#[]⟩, .int .i64 0] 37)).cell? ⟨B, 0, none⟩ = some (.pointer (some ⟨R, 0, none⟩)) := cellOf hb.heap rfl
  have b1 : ((w.alloc (.cells #[.int .i64 k, .int .i64 n, .string (S t)] 41)).alloc (.cells #[.int .i64 0, .string ⟨#[]⟩, .int .i64 0] 37)).cell? ⟨B, 1, none⟩ = some (.int .i64 s.k) := cellOf hb.heap rfl
  have hop := heap_alloc_new w (.cells #[.int .i64 k, .int .i64 n, .string (S t)] 41)
  have hop2 := (Fr.alloc (w.alloc (.cells #[.int .i64 k, .int .i64 n, .string (S t)] 41)) (.cells #[.int .i64 0, .string ⟨#[]⟩, .int .i64 0] 37)).heap hop
  have o1 : ((w.alloc (.cells #[.int .i64 k, .int .i64 n, .string (S t)] 41)).alloc (.cells #[.int .i64 0, .string ⟨#[]⟩, .int .i64 0] 37)).cell? ⟨w.heap.size, 1, none⟩ = some (.int .i64 n) := cellOf hop2 rfl
  have o2 : ((w.alloc (.cells #[.int .i64 k, .int .i64 n, .string (S t)] 41)).alloc (.cells #[.int .i64 0, .string ⟨#[]⟩, .int .i64 0] 37)).cell? ⟨w.heap.size, 2, none⟩ = some (.string (S t)) := cellOf hop2 rfl
  clear hb hop hop2
  clear h
  go_enter Tryd.func14, Tryd.ntmps14
  go_upto_region 14 with fail
  go_quiet (fail)
  have H3 := Lib.hid (HS.out.fr (Fr.drewN _ nq))
  generalize (World.drewN _ nq) = w3 at *
  clear b0 b1 o1 o2 HS
  have hR := H3.out.turn.boxed
  have d0 : w3.cell? ⟨w.heap.size + 1, 0, none⟩ = some (.int .i64 0) := cellOf hR rfl
  have d1 : w3.cell? ⟨w.heap.size + 1, 1, none⟩ = some (.string ⟨#[]⟩) := cellOf hR rfl
  have d2 : w3.cell? ⟨w.heap.size + 1, 2, none⟩ = some (.int .i64 0) := cellOf hR rfl
  have e0 := frozenOf hR 0
  have e1 := frozenOf hR 1
  have e2 := frozenOf hR 2
  clear hR
  go_wp2_with fail
  obtain ⟨hR, hF⟩ := sg_end H3.out (.int .i64 0) (.string ⟨#[]⟩) (.int .i64 0)
  have k0 := cellOf hR (i := 0) (v := .int .i64 0) rfl
  have k1 := cellOf hR (i := 1) (v := .string ⟨#[]⟩) rfl
  have k2 := cellOf hR (i := 2) (v := .int .i64 0) rfl
  refine bodyPost_ret (v := .tuple #[sgV (0, [], 0), .int .i64 0, .int .i64 0]) (by simp [results, Tryd.results14, go_sem, k0, k1, k2]; rfl) rfl ⟨rfl, hF⟩
set_option maxHeartbeats 2000000 in
set_option maxRecDepth 100000 in
theorem did_sig {W w : World} {B R : Nat} {s : BS} {q : List Sd} {U : Thing} (h : Has W w ((RBookT B R s q).sep U)) (_hs : s.ok) (hq : q.length ≤ 1000000) (k n : Int) (t : Txt) (h0 : ¬ (k = 0)) (h1 : ¬ (k = 1)) (h2 : ¬ (k = 2)) (h3 : ¬ (k = 3)) (hn : ¬ (n = s.k)) (_ht : t.length ≤ maxLen) :
    Calls Tryd.prog 14 #[.pointer (some ⟨B, 0, none⟩), .agg #[.int .i64 k, .int .i64 n, .string (S t)]] w fun e w' => e = .returned (.tuple #[sgV (signR q (n, t)), .int .i64 0, .int .i64 0]) ∧ Has W w' ((RBookT B R s (signL q (n, t))).sep U) := by
  have HS := Lib.hid (h.opBox #[.int .i64 k, .int .i64 n, .string (S t)] 41)
  obtain ⟨ev, hb⟩ := HS.out.ropen
  have b0 : ((w.alloc (.cells #[.int .i64 k, .int .i64 n, .string (S t)] 41)).alloc (.cells #[.int .i64 0, .string ⟨#[]⟩, .int .i64 0] 37)).cell? ⟨B, 0, none⟩ = some (.pointer (some ⟨R, 0, none⟩)) := cellOf hb.heap rfl
  have b1 : ((w.alloc (.cells #[.int .i64 k, .int .i64 n, .string (S t)] 41)).alloc (.cells #[.int .i64 0, .string ⟨#[]⟩, .int .i64 0] 37)).cell? ⟨B, 1, none⟩ = some (.int .i64 s.k) := cellOf hb.heap rfl
  have hop := heap_alloc_new w (.cells #[.int .i64 k, .int .i64 n, .string (S t)] 41)
  have hop2 := (Fr.alloc (w.alloc (.cells #[.int .i64 k, .int .i64 n, .string (S t)] 41)) (.cells #[.int .i64 0, .string ⟨#[]⟩, .int .i64 0] 37)).heap hop
  have o1 : ((w.alloc (.cells #[.int .i64 k, .int .i64 n, .string (S t)] 41)).alloc (.cells #[.int .i64 0, .string ⟨#[]⟩, .int .i64 0] 37)).cell? ⟨w.heap.size, 1, none⟩ = some (.int .i64 n) := cellOf hop2 rfl
  have o2 : ((w.alloc (.cells #[.int .i64 k, .int .i64 n, .string (S t)] 41)).alloc (.cells #[.int .i64 0, .string ⟨#[]⟩, .int .i64 0] 37)).cell? ⟨w.heap.size, 2, none⟩ = some (.string (S t)) := cellOf hop2 rfl
  clear hb hop hop2
  clear h
  go_enter Tryd.func14, Tryd.ntmps14
  go_upto_region 14 with fail
  have HO := Lib.hid o2
  have HB0 := Lib.hid b0
  have HO1 := Lib.hid o1
  go_quiet (fail)
  have HS1 := Lib.hid (HS.out.fr (Fr.drewN _ nq))
  have b0' := (Fr.drewN _ nq).cell HB0.out
  have o1' := (Fr.drewN _ nq).cell HO1.out
  have o2' := (Fr.drewN _ nq).cell HO.out
  clear b0 b1 o1 o2 HS HB0 HO HO1
  generalize (World.drewN _ nq) = w2 at *
  go_upto_region 16 with fail
  have HS1 := Lib.hid (HS1.out.fr (Fr.drew w2))
  have b0 := (Fr.drew w2).cell b0'
  have o1 := (Fr.drew w2).cell o1'
  have o2 := (Fr.drew w2).cell o2'
  clear b0' o1' o2'
  go_region_with (
               go_at_call 39
               refine (HS1.out.rbsig n t hq).mono ?_
               rintro e w3 ⟨rfl, hh⟩
               obtain ⟨g, hg⟩ : ∃ g, g = signR q (n, t) := ⟨_, rfl⟩
               rw [← hg]
               have HG := Lib.hid hg
               have hR := hh.turn.boxed
               have d0 : w3.cell? ⟨w.heap.size + 1, 0, none⟩ = some (.int .i64 0) := cellOf hR rfl
               have d1 : w3.cell? ⟨w.heap.size + 1, 1, none⟩ = some (.string ⟨#[]⟩) := cellOf hR rfl
               have d2 : w3.cell? ⟨w.heap.size + 1, 2, none⟩ = some (.int .i64 0) := cellOf hR rfl
               have e0 := frozenOf hR 0
               have e1 := frozenOf hR 1
               have e2 := frozenOf hR 2
               have H3 := Lib.hid hh
               unfold sgV
               clear hg hR hh)
  all_goals
    go_wp2_with fail
    obtain ⟨hR, hF⟩ := sg_end H3.out (.int .i64 g.1) (.string (S g.2.1)) (.int .i64 g.2.2)
    have k0 := cellOf hR (i := 0) (v := .int .i64 g.1) rfl
    have k1 := cellOf hR (i := 1) (v := .string (S g.2.1)) rfl
    have k2 := cellOf hR (i := 2) (v := .int .i64 g.2.2) rfl
    refine bodyPost_ret (v := .tuple #[sgV g, .int .i64 0, .int .i64 0]) (by simp [results, Tryd.results14, go_sem, k0, k1, k2]; rfl) rfl ⟨by rw [HG.out], hF⟩
theorem did_any {W w : World} {B R : Nat} {s : BS} {q : List Sd} {U : Thing} (h : Has W w ((RBookT B R s q).sep U)) (hs : s.ok) (hq : q.length ≤ 1000000) (o : Op3) (ho : o.ok) :
    Calls Tryd.prog 14 #[.pointer (some ⟨B, 0, none⟩), opV o] w fun e w' => e = .returned (.tuple #[sgV (sgO q (opO s o)), .int .i64 (opN s o), .int .i64 (opE s o)]) ∧ Has W w' ((RBookT B R (opB s o) (qO q (opO s o))).sep U) := by
  obtain ⟨k, n, t⟩ := o
  obtain ⟨hk, hn, ht⟩ := ho
  unfold opO opN opE opB opV
  simp only at hk hn ht ⊢
  by_cases h0 : k = 0
  · subst h0
    exact did_0 h hs hq n t ht
  · rw [if_neg h0, if_neg h0, if_neg h0, if_neg h0]
    by_cases h1 : k = 1
    · subst h1
      exact did_1 h hs hq n t hn
    · rw [if_neg h1, if_neg h1]
      by_cases h2 : k = 2
      · subst h2
        exact did_2 h hs hq n t
      · rw [if_neg h2, if_neg h2, if_neg h2]
        by_cases h3 : k = 3
        · subst h3
          exact did_3 h hs hq n t
        · rw [if_neg h3, if_neg h3]
          by_cases hnk : n = s.k
          · rw [if_pos hnk]
            exact did_own h hs hq k n t h0 h1 h2 h3 hnk.symm
          · rw [if_neg hnk]
            exact did_sig h hs hq k n t h0 h1 h2 h3 hnk ht
end Go.Proofs.YtailbappdfbjoaaDoor
