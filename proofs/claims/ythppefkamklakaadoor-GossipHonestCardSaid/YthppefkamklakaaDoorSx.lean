/-
  The reference's ring: Valid, All, Open.
-/
import Derived.Test.YthppefkamklakaaDoorSo
namespace Go.Proofs.YthppefkamklakaaDoor
open Go.RowKit Go.MapKept Go.Maps Go.WideMaps

/-- An own row of entries, element by element. -/
theorem row_at {w : World} {base n : Nat} {v : Value} {l : List Sd} (h : w.ownsRow base 94 2 v n (sdC l)) (hl : n = l.length) (h0 : 0 < l.length) :
    ∃ g cap, v = .slice (some ⟨g, 0, none⟩) l.length cap ∧ l.length ≤ cap ∧ ∀ (i : Nat) (h : i < l.length), w.cell? ⟨g, i * 2, none⟩ = some (.int .i64 l[i].1) ∧ w.cell? ⟨g, i * 2 + 1, none⟩ = some (.string (S l[i].2)) := by
  subst hl
  rcases h.2 with ⟨rfl, h1⟩ | ⟨g, cap, cur, rfl, hB, hg, hc, _, hs, ht⟩
  · omega
  · refine ⟨g, cap, rfl, hc, fun i hi => ?_⟩
    have hget : ∀ j u, j < l.length * 2 → (sdC l)[j]? = some u → w.cell? ⟨g, j, none⟩ = some u := fun j u hj hu => by
      rw [Lib.cell_of_heap hg]
      rw [← ht, List.getElem?_take, if_pos hj] at hu
      simpa using hu
    have hc := sdC_get l i hi
    exact ⟨hget _ _ (by omega) (by rw [Nat.mul_comm]; exact hc.1), hget _ _ (by omega) (by rw [Nat.mul_comm]; exact hc.2)⟩

set_option maxHeartbeats 1000000 in
set_option maxRecDepth 100000 in
theorem valid_in (O : Nat → Prop) (B : Nat) (q : List Sd) (k : Int) (t : Txt) (m : Nat) (w : World) (h : (RingT B q).at_ w O) (hm : m < q.length) (hq : q.length ≤ 1000000) :
    Calls Tryd.prog 24 #[.pointer (some ⟨B, 0, none⟩), sgV (k, t, m)] w fun r w' => r = .returned (.bool (decide (q[m] = (k, t)))) ∧ Fr w w' := by
  obtain ⟨M, ev, hr⟩ := h
  obtain ⟨g, cap, hev, hcap, hcell⟩ := row_at hr.row rfl (by omega)
  subst hev
  have hf := Fr.alloc w (.cells #[.int .i64 k, .string (S t), .int .i64 m] 37)
  have c0 := hf.cell (cellOf hr.heap (i := 0) rfl)
  have c1 := hf.cell (hcell m hm).1
  have c2 := hf.cell (hcell m hm).2
  clear hr hcell
  generalize q[m] = e at *
  obtain ⟨k', t'⟩ := e
  simp only at c1 c2
  have HF := Lib.hid hf
  clear hf
  unfold sgV
  by_cases h1 : k' = k
  · subst h1
    by_cases h2 : t' = t
    · subst h2
      rw [decide_eq_true rfl]
      go_enter Tryd.func24, Tryd.ntmps24
      go_wp2_with fail
      go_quiet (fail)
      go_wp2_with fail
      go_quiet (fail)
      go_wp2_with fail
      go_ret
      exact ⟨rfl, HF.out.trans ((Fr.drewN _ _).trans (Fr.drewN _ _))⟩
    · rw [decide_eq_false (fun h => h2 (congrArg Prod.snd h))]
      go_enter Tryd.func24, Tryd.ntmps24
      go_wp2_with fail
      go_quiet (fail)
      go_wp2_with fail
      go_quiet (fail)
      go_wp2_with fail
      go_ret
      exact ⟨rfl, HF.out.trans ((Fr.drewN _ _).trans (Fr.drewN _ _))⟩
  · rw [decide_eq_false (fun h => h1 (congrArg Prod.fst h))]
    go_enter Tryd.func24, Tryd.ntmps24
    go_wp2_with fail
    go_quiet (fail)
    go_wp2_with fail
    go_quiet (fail)
    go_wp2_with fail
    go_ret
    exact ⟨rfl, HF.out.trans ((Fr.drewN _ _).trans (Fr.drewN _ _))⟩
set_option maxRecDepth 100000 in
theorem valid_any (O : Nat → Prop) (B : Nat) (q : List Sd) (s : Sg) (w : World) (h : (RingT B q).at_ w O) (hq : q.length ≤ 1000000) :
    Calls Tryd.prog 24 #[.pointer (some ⟨B, 0, none⟩), sgV s] w fun r w' => r = .returned (.bool (holds q s)) ∧ Fr w w' := by
  obtain ⟨k, t, m⟩ := s
  by_cases hm : m < 0 ∨ (q.length : Int) ≤ m
  · refine (valid_out O B q (k, t, m) w h hm hq).mono ?_
    rintro r w' ⟨rfl, hf⟩
    refine ⟨?_, hf⟩
    have : holds q (k, t, m) = false := by
      unfold holds
      refine decide_eq_false fun hh => ?_
      simp only at hh
      have := (List.getElem?_eq_some_iff.1 hh.2).1
      omega
    rw [this]
  · obtain ⟨n, rfl⟩ : ∃ n : Nat, m = n := ⟨m.toNat, by omega⟩
    have hn : n < q.length := by omega
    refine (valid_in O B q k t n w h hn hq).mono ?_
    rintro r w' ⟨rfl, hf⟩
    refine ⟨?_, hf⟩
    have : holds q (k, t, (n : Int)) = decide (q[n] = (k, t)) := by
      unfold holds
      rw [Bool.eq_iff_iff]
      simp only [decide_eq_true_eq, Int.toNat_natCast]
      rw [List.getElem?_eq_getElem hn, Option.some.injEq]
      exact ⟨fun h => h.2, fun h => ⟨by omega, h⟩⟩
    rw [this]

/-! ### Slices of entries; Clone, All -/
/-- The entries lie from place o of block b on. -/
def At (w : World) (b o : Nat) (l : List Sd) : Prop := ∀ (i : Nat) (h : i < l.length), w.cell? ⟨b, o + i * 2, none⟩ = some (.int .i64 l[i].1) ∧ w.cell? ⟨b, o + i * 2 + 1, none⟩ = some (.string (S l[i].2))
theorem At.fr {w w' : World} {b o : Nat} {l : List Sd} (h : At w b o l) (hf : Fr w w') : At w' b o l := fun i hi => ⟨hf.cell (h i hi).1, hf.cell (h i hi).2⟩
/-- A slice of entries: empty, or entries at an address. -/
def Sl (w : World) (v : Value) (l : List Sd) : Prop := (l = [] ∧ ∃ a c, v = .slice a 0 c) ∨ ∃ b o c, v = .slice (some ⟨b, o, none⟩) l.length c ∧ At w b o l
theorem Sl.fr {w w' : World} {v : Value} {l : List Sd} (h : Sl w v l) (hf : Fr w w') : Sl w' v l := by
  rcases h with h | ⟨b, o, c, hv, hc⟩
  · exact .inl h
  · exact .inr ⟨b, o, c, hv, hc.fr hf⟩
theorem Sl.len {w : World} {v : Value} {l : List Sd} (h : Sl w v l) : ∃ a c, v = .slice a l.length c := by
  rcases h with ⟨rfl, a, c, rfl⟩ | ⟨b, o, c, rfl, _⟩
  · exact ⟨a, c, rfl⟩
  · exact ⟨_, _, rfl⟩
theorem Sl.nil (w : World) (a : Option Addr) (c : Nat) : Sl w (.slice a 0 c) [] := .inl ⟨rfl, _, _, rfl⟩
theorem Sl.own {B n : Nat} {w : World} {v : Value} {l : List Sd} (h : w.ownsRow B 94 2 v n (sdC l)) (hn : n = l.length) : Sl w v l := by
  rcases Nat.eq_zero_or_pos l.length with h0 | h0
  · have hl : l = [] := List.length_eq_zero_iff.1 h0
    obtain ⟨a, c, rfl⟩ := row_form h
    subst hl
    exact .inl ⟨rfl, a, c, by rw [hn]; rfl⟩
  · obtain ⟨g, cap, rfl, _, hc⟩ := row_at h hn h0
    exact .inr ⟨g, 0, cap, rfl, fun i hi => by rw [Nat.zero_add]; exact hc i hi⟩
theorem At.cells {w : World} {b o : Nat} {l : List Sd} (h : At w b o l) : ∀ j u, (sdC l)[j]? = some u → w.cell? ((⟨b, o, none⟩ : Addr).add j) = some u := by
  intro j u hu
  have hj : j < l.length * 2 := by have := (List.getElem?_eq_some_iff.1 hu).1; rwa [sdC_length] at this
  have hi : j / 2 < l.length := by omega
  have h1 := h (j / 2) hi
  have h2 := sdC_get l (j / 2) hi
  rw [Addr.add_mid]
  rcases Nat.mod_two_eq_zero_or_one j with hm | hm
  · have e : j = 2 * (j / 2) := by omega
    rw [e] at hu
    rw [h2.1] at hu
    rw [← hu, ← h1.1]
    congr 2
    omega
  · have e : j = 2 * (j / 2) + 1 := by omega
    rw [e] at hu
    rw [h2.2] at hu
    rw [← hu, ← h1.2]
    congr 2
    omega

def CloneP (l : List Sd) (w : World) (e : Ending) (w' : World) : Prop := ∃ v', e = .returned v' ∧ w'.ownsRow w.heap.size 94 2 v' l.length (sdC l) ∧ Fr w w'
end Go.Proofs.YthppefkamklakaaDoor
namespace Go.Proofs.YthppefkamklakaaDoor
open Go.RowKit Go.MapKept Go.Maps Go.WideMaps

/-- A ring that has just been made out of its parts. -/
theorem ring_made {w wa : World} (hf : Fr w wa) {v : Value} {M : Nat} {q : List Sd} (ho : wa.ownsRow w.heap.size 94 2 v q.length (sdC q)) (hm : MapIs wa M (pmV q) q.length) (hM : w.heap.size ≤ M) (hq : q.Nodup) :
    (RingT wa.heap.size q).step (fun _ => False) w (wa.alloc (.cells #[v, .map (some M)] 58)) := by
  have hfa := Fr.alloc wa (.cells #[v, .map (some M)] 58)
  have hs : (wa.alloc (.cells #[v, .map (some M)] 58)).heap.size = wa.heap.size + 1 := by simp
  have hlt := hm.lt
  refine ⟨fun k => w.heap.size ≤ k ∧ k < wa.heap.size + 1, ⟨M, v, fun k hk => by rw [hs]; exact hk.2, ⟨hf.size, by omega⟩, ⟨hM, by omega⟩, fun p hp => ?_, heap_alloc_new wa _, hm.fr hfa, own_base (own_fr ho hfa) (Nat.zero_le _), hq⟩, fun k hk => .inr ⟨hk.1, by rw [hs]; exact hk.2⟩, .of_fr (hf.trans hfa)⟩
  have := ho.lt p hp
  omega

end Go.Proofs.YthppefkamklakaaDoor
namespace Go.Proofs.YthppefkamklakaaDoor
open Go.RowKit Go.MapKept Go.Maps Go.WideMaps

/-! ### Steps beside other things -/
theorem Has.sign {W w : World} {B : Nat} {q : List Sd} {U : Thing} (h : Has W w ((RingT B q).sep U)) (k : Int) (t : Txt) (ht : t.length ≤ maxLen) (hq : q.length ≤ 1000000) :
    Calls Tryd.prog 14 #[.pointer (some ⟨B, 0, none⟩), .int .i64 k, .string (S t)] w fun r w' => r = .returned (sgV (signR q (k, t))) ∧ Has W w' ((RingT B (signL q (k, t))).sep U) := by
  obtain ⟨O, hT, _, hb⟩ := h.open
  refine (sign_any O B q k t w hT ht hq).mono ?_
  rintro r w' ⟨rfl, hs⟩
  exact ⟨rfl, hb w' _ hs⟩
set_option maxRecDepth 100000 in
theorem Has.valid {W w : World} {B : Nat} {q : List Sd} {U : Thing} (h : Has W w ((RingT B q).sep U)) (s : Sg) (hq : q.length ≤ 1000000) :
    Calls Tryd.prog 24 #[.pointer (some ⟨B, 0, none⟩), sgV s] w fun r w' => r = .returned (.bool (holds q s)) ∧ Fr w w' := by
  obtain ⟨O, hT, _, _⟩ := h.open
  exact valid_any O B q s w hT hq
set_option maxRecDepth 100000 in
theorem Has.ring {W w : World} {U : Thing} (h : Has W w U) : Calls Tryd.prog 6 #[] w fun r w' => ∃ B, r = .returned (.pointer (some ⟨B, 0, none⟩)) ∧ Has W w' ((RingT B []).sep U) := by
  refine (new_any w).mono ?_
  rintro r w' ⟨B, rfl, hs⟩
  exact ⟨B, rfl, h.new hs⟩
/-! ### Same, of equal lists -/
end Go.Proofs.YthppefkamklakaaDoor
namespace Go.Proofs.YthppefkamklakaaDoor
open Go.RowKit Go.MapKept Go.Maps Go.WideMaps

/-- The entries after signing all of them. -/
def SL (l : List Sd) : List Sd := l.foldl signL []
def skey (e : Sd) : Bool := decide (IsKey e.1)
theorem SL_addA (a l : List Sd) : l.foldl signL a = addA a (l.filter skey) := by
  induction l generalizing a with
  | nil => rfl
  | cons x l ih =>
    rw [List.foldl_cons, List.filter_cons]
    unfold signL skey
    by_cases h : IsKey x.1
    · rw [if_pos h, if_pos (decide_eq_true h), addA_cons]; exact ih _
    · rw [if_neg h, if_neg (by simpa using h)]; exact ih _
theorem SL_eq (l : List Sd) : SL l = addA [] (l.filter skey) := SL_addA [] l
theorem SL_nil : SL [] = [] := rfl
theorem SL_take (l : List Sd) (k : Nat) (hk : k < l.length) : SL (l.take (k + 1)) = signL (SL (l.take k)) l[k] := by
  unfold SL
  rw [List.take_succ_eq_append_getElem hk, List.foldl_append]
  rfl
theorem SL_nodup (l : List Sd) : (SL l).Nodup := by rw [SL_eq]; exact addA_nodup List.nodup_nil _
theorem SL_len (l : List Sd) : (SL l).length ≤ l.length := by
  rw [SL_eq]
  have h1 := (addA_len [] (l.filter skey)).2
  have h2 := List.length_filter_le skey l
  simp only [List.length_nil] at h1
  omega
theorem SL_len_take (l : List Sd) (k : Nat) : (SL (l.take k)).length ≤ l.length := Nat.le_trans (SL_len _) (by rw [List.length_take]; omega)
theorem mem_SL {l : List Sd} {e : Sd} : e ∈ SL l ↔ e ∈ l ∧ IsKey e.1 := by
  rw [SL_eq, mem_addA]
  unfold skey
  simp
theorem SL_cut (l : List Sd) (k : Nat) : ∃ m, SL l = SL (l.take k) ++ m := by
  have h : SL l = addA (SL (l.take k)) ((l.drop k).filter skey) := by
    conv => lhs; rw [← List.take_append_drop k l]
    unfold SL
    rw [List.foldl_append, SL_addA]
  rw [h]
  exact addA_cut _ _
/-- The mark of e in the end. -/
def px (l : List Sd) (e : Sd) : Nat := (pm 0 (SL l) e).getD 0
theorem px_of {l : List Sd} {k : Nat} {e : Sd} {n : Nat} (h : pm 0 (SL (l.take k)) e = some n) : px l e = n := by
  obtain ⟨m, hm⟩ := SL_cut l k
  unfold px
  rw [hm, pm_pre (mem_of_pm h), h]; rfl
theorem px_spec {l : List Sd} {e : Sd} (h : e ∈ SL l) : pm 0 (SL l) e = some (px l e) := by
  obtain ⟨k, hk⟩ := pm_mem (i := 0) h
  unfold px
  rw [hk]; rfl
/-- What Sign returns for e, in the end and when it came. -/
def sgOf (l : List Sd) (e : Sd) : Sg := (e.1, e.2, (px l e : Int))
theorem sign_key (l : List Sd) (k : Nat) (hk : k < l.length) (h : IsKey l[k].1) : signR (SL (l.take k)) l[k] = sgOf l l[k] ∧ pm 0 (SL (l.take (k + 1))) l[k] = some (px l l[k]) := by
  have h1 : SL (l.take (k + 1)) = addL (SL (l.take k)) l[k] := by rw [SL_take l k hk]; unfold signL; rw [if_pos h]
  have h2 := addN_spec (SL (l.take k)) l[k]
  rw [← h1] at h2
  have h3 := px_of h2
  unfold signR sgOf
  rw [if_pos h, h3]
  exact ⟨rfl, h2⟩
theorem pm_take {l : List Sd} {k : Nat} {e : Sd} (h : e ∈ l.take k) (hk : IsKey e.1) : pm 0 (SL (l.take k)) e = some (px l e) := by
  obtain ⟨n, hn⟩ := pm_mem (i := 0) (mem_SL.2 ⟨h, hk⟩)
  rw [hn, px_of hn]
theorem holds_take {l : List Sd} {k : Nat} {e : Sd} (h : e ∈ l.take k) (hk : IsKey e.1) : holds (SL (l.take k)) (sgOf l e) = true := by
  unfold holds sgOf
  rw [decide_eq_true_eq]
  exact ⟨by simp, by simpa using pm_get (pm_take h hk)⟩
theorem holds_iff (l : List Sd) (g : Sg) : holds (SL l) g = decide (g ∈ (l.filter skey).map (sgOf l)) := by
  rw [Bool.eq_iff_iff]
  unfold holds
  simp only [decide_eq_true_eq, List.mem_map, List.mem_filter]
  constructor
  · rintro ⟨h0, h1⟩
    have hm := List.mem_of_getElem? h1
    have hp := (pm_iff (SL_nodup l)).2 h1
    have hpx := px_spec hm
    rw [hp] at hpx
    obtain ⟨h2, h3⟩ := mem_SL.1 hm
    refine ⟨_, ⟨h2, by unfold skey; exact decide_eq_true h3⟩, ?_⟩
    unfold sgOf
    have : px l (g.1, g.2.1) = g.2.2.toNat := (Option.some.inj hpx).symm
    rw [this, Int.toNat_of_nonneg h0]
  · rintro ⟨e, ⟨h1, h2⟩, rfl⟩
    unfold skey at h2
    have hp := px_spec (mem_SL.2 ⟨h1, of_decide_eq_true h2⟩)
    unfold sgOf
    exact ⟨by simp, by simpa using pm_get hp⟩
theorem px_le (l : List Sd) (e : Sd) : px l e ≤ l.length := by
  unfold px
  cases h : pm 0 (SL l) e with
  | none => exact Nat.zero_le _
  | some k => exact Nat.le_trans (Nat.le_of_lt (pm_lt h)) (SL_len l)

/-! ### Rows of signatures -/
def sgC (l : List Sg) : List Value := l.flatMap fun s => [.int .i64 s.1, .string (S s.2.1), .int .i64 s.2.2]
theorem sgC_cons (s : Sg) (l : List Sg) : sgC (s :: l) = .int .i64 s.1 :: .string (S s.2.1) :: .int .i64 s.2.2 :: sgC l := by simp [sgC]
theorem sgC_length (l : List Sg) : (sgC l).length = l.length * 3 := by
  induction l with
  | nil => rfl
  | cons a l ih => rw [sgC_cons]; simp only [List.length_cons, ih]; omega
theorem sgC_append (l m : List Sg) : sgC (l ++ m) = sgC l ++ sgC m := by simp [sgC]
theorem sgC_get (l : List Sg) (i : Nat) (h : i < l.length) : (sgC l)[3 * i]? = some (.int .i64 l[i].1) ∧ (sgC l)[3 * i + 1]? = some (.string (S l[i].2.1)) ∧ (sgC l)[3 * i + 2]? = some (.int .i64 l[i].2.2) := by
  induction l generalizing i with
  | nil => simp at h
  | cons a l ih =>
    rw [sgC_cons]
    cases i with
    | zero => simp
    | succ i =>
      have := ih i (by simpa using h)
      rw [show 3 * (i + 1) = 3 * i + 1 + 1 + 1 by omega]
      simp only [List.getElem?_cons_succ]
      simpa using this
theorem sgC_one (l : List Sg) : ∀ v ∈ sgC l, v.oneCell' = true := by
  intro v hv
  simp only [sgC, List.mem_flatMap, List.mem_cons, List.not_mem_nil, or_false] at hv
  obtain ⟨_, _, rfl | rfl | rfl⟩ := hv <;> rfl
set_option maxRecDepth 100000 in
theorem infoSg : (Tryd.prog.info? 37).map (fun i => (i.zero, i.size, i.bytes)) = some (some (.agg #[.int .i64 0, .string (S []), .int .i64 0]), 3, 32) := by kernel_rfl
/-- A row of signatures, element by element. -/
structure SgAt (w : World) (g i : Nat) (s : Sg) : Prop where
  c0 : w.cell? ⟨g, i, none⟩ = some (.int .i64 s.1)
  c1 : w.cell? ⟨g, i + 1, none⟩ = some (.string (S s.2.1))
  c2 : w.cell? ⟨g, i + 2, none⟩ = some (.int .i64 s.2.2)
theorem SgAt.fr {w w' : World} {g i : Nat} {s : Sg} (h : SgAt w g i s) (hf : Fr w w') : SgAt w' g i s := ⟨hf.cell h.c0, hf.cell h.c1, hf.cell h.c2⟩
theorem sg_at {w : World} {base n : Nat} {v : Value} {l : List Sg} (h : w.ownsRow base 37 3 v n (sgC l)) (hl : n = l.length) (h0 : 0 < l.length) :
    ∃ g cap, v = .slice (some ⟨g, 0, none⟩) l.length cap ∧ l.length ≤ cap ∧ ∀ (i : Nat) (h : i < l.length), SgAt w g (i * 3) l[i] := by
  subst hl
  rcases h.2 with ⟨rfl, h1⟩ | ⟨g, cap, cur, rfl, hB, hg, hc, _, hs, ht⟩
  · omega
  · refine ⟨g, cap, rfl, hc, fun i hi => ?_⟩
    have hget : ∀ j u, j < l.length * 3 → (sgC l)[j]? = some u → w.cell? ⟨g, j, none⟩ = some u := fun j u hj hu => by
      rw [Lib.cell_of_heap hg]
      rw [← ht, List.getElem?_take, if_pos hj] at hu
      simpa using hu
    have hc := sgC_get l i hi
    exact ⟨hget _ _ (by omega) (by rw [Nat.mul_comm]; exact hc.1), hget _ _ (by omega) (by rw [Nat.mul_comm]; exact hc.2.1), hget _ _ (by omega) (by rw [Nat.mul_comm]; exact hc.2.2)⟩
/-- A row that has just been laid. -/
theorem Has.lit {W w : World} {U : Thing} (h : Has W w U) (e size n : Nat) (xs : List Value) (hl : xs.length = n * size) (hn : n ≤ 1000) : Has W (w.alloc (.cells xs.toArray e)) ((RowT e size (.slice (some ⟨w.heap.size, 0, none⟩) n n) n xs).sep U) := by
  refine h.new (RowT.made ⟨hl, .inr ⟨w.heap.size, n, xs.toArray, rfl, Nat.le_refl _, heap_alloc_new w _, Nat.le_refl _, by unfold maxLen; omega, by simpa using hl, ?_⟩⟩ (Fr.alloc w _))
  rw [← hl, List.take_length]

/-! ### Another order -/
theorem sep_turn {T U V : Thing} {w : World} {O : Nat → Prop} (h : (T.sep (U.sep V)).at_ w O) : (U.sep (T.sep V)).at_ w O := by
  obtain ⟨O1, O2, h1, ⟨O3, O4, h5, h6, h7, h8⟩, h3, h4⟩ := h
  refine ⟨O3, fun k => O1 k ∨ O4 k, h5, ⟨O1, O4, h1, h6, fun k hk hk' => h3 k hk ((h8 k).2 (.inr hk')), fun k => Iff.rfl⟩, fun k hk hk' => ?_, fun k => ?_⟩
  · rcases hk' with hk' | hk'
    · exact h3 k hk' ((h8 k).2 (.inl hk))
    · exact h7 k hk hk'
  · rw [h4 k, h8 k]
    constructor
    · rintro (h | h | h)
      · exact .inr (.inl h)
      · exact .inl h
      · exact .inr (.inr h)
    · rintro (h | h | h)
      · exact .inr (.inl h)
      · exact .inl h
      · exact .inr (.inr h)
theorem sep_under {T U U' : Thing} {w : World} {O : Nat → Prop} (h : (T.sep U).at_ w O) (f : ∀ O, U.at_ w O → U'.at_ w O) : (T.sep U').at_ w O :=
  let ⟨O1, O2, h1, h2, h3⟩ := h; ⟨O1, O2, h1, f O2 h2, h3⟩
theorem Has.map {W w : World} {T T' : Thing} (h : Has W w T) (f : ∀ O, T.at_ w O → T'.at_ w O) : Has W w T' := let ⟨h1, O, h2, h3⟩ := h; ⟨h1, O, f O h2, h3⟩
theorem Has.pull3 {W w : World} {A B C E : Thing} (h : Has W w (A.sep (B.sep (C.sep E)))) : Has W w (C.sep (A.sep (B.sep E))) :=
  h.map fun _ h => sep_turn (sep_under h fun _ h => sep_turn h)
theorem Has.pull4 {W w : World} {A B C D E : Thing} (h : Has W w (A.sep (B.sep (C.sep (D.sep E))))) : Has W w (D.sep (A.sep (B.sep (C.sep E)))) :=
  h.map fun _ h => sep_turn (sep_under h fun _ h => sep_turn (sep_under h fun _ h => sep_turn h))
/-- The fourth is forgotten. -/
theorem Has.drop4 {W w : World} {A B C D E : Thing} (h : Has W w (A.sep (B.sep (C.sep (D.sep E))))) : Has W w (A.sep (B.sep (C.sep E))) := h.pull4.right
theorem sg_cell {w : World} {base g n cap : Nat} {l : List Sg} (h : w.ownsRow base 37 3 (.slice (some ⟨g, 0, none⟩) n cap) n (sgC l)) (hn : n = l.length) (i : Nat) (hi : i < l.length) : SgAt w g (i * 3) l[i] := by
  obtain ⟨g', cap', hv, _, hc⟩ := sg_at h hn (by omega)
  obtain ⟨rfl, _⟩ : g = g' ∧ _ := by simpa using hv
  exact hc i hi
theorem sd_cell {w : World} {base g n cap : Nat} {l : List Sd} (h : w.ownsRow base 94 2 (.slice (some ⟨g, 0, none⟩) n cap) n (sdC l)) (hn : n = l.length) (i : Nat) (hi : i < l.length) :
    w.cell? ⟨g, i * 2, none⟩ = some (.int .i64 l[i].1) ∧ w.cell? ⟨g, i * 2 + 1, none⟩ = some (.string (S l[i].2)) := by
  obtain ⟨g', cap', hv, _, hc⟩ := row_at h hn (by omega)
  obtain ⟨rfl, _⟩ : g = g' ∧ _ := by simpa using hv
  exact hc i hi

theorem sg_get {w : World} {base g n cap : Nat} {l : List Sg} {s : Sg} (h : w.ownsRow base 37 3 (.slice (some ⟨g, 0, none⟩) n cap) n (sgC l)) (hn : n = l.length) {i : Nat} (hi : l[i]? = some s) : SgAt w g (i * 3) s := by
  obtain ⟨hi', rfl⟩ := List.getElem?_eq_some_iff.1 hi
  exact sg_cell h hn i hi'

/-- What Sign returns for e, a skey or not. -/
def zz (l : List Sd) (e : Sd) : Sg := if IsKey e.1 then sgOf l e else (0, [], 0)
def mz (l : List Sd) (k : Nat) : List Sg := (l.take k).map (zz l)
theorem mz_len (l : List Sd) (k : Nat) (hk : k ≤ l.length) : (mz l k).length = k := by unfold mz; rw [List.length_map, List.length_take]; omega
theorem mz_succ {l : List Sd} {k : Nat} (hk : k < l.length) : mz l (k + 1) = mz l k ++ [zz l l[k]] := by
  unfold mz
  rw [List.take_succ_eq_append_getElem hk, List.map_append]
  rfl
theorem zz_now {l : List Sd} {k : Nat} (hk : k < l.length) : signR (SL (l.take k)) l[k] = zz l l[k] := by
  unfold zz
  by_cases h : IsKey l[k].1
  · rw [if_pos h]; exact (sign_key l k hk h).1
  · rw [if_neg h]; unfold signR; rw [if_neg h]
theorem zz_again {l : List Sd} {e : Sd} (he : e ∈ l) : signR (SL l) e = zz l e ∧ signL (SL l) e = SL l := by
  unfold zz signR signL
  by_cases h : IsKey e.1
  · rw [if_pos h, if_pos h, if_pos h]
    have hm := mem_SL.2 ⟨he, h⟩
    exact ⟨by rw [addN_old (px_spec hm)]; rfl, addL_old hm⟩
  · rw [if_neg h, if_neg h, if_neg h]
    exact ⟨rfl, rfl⟩
theorem mem_take_sd (l : List Sd) (s : Sd) (k : Nat) (hk : k < l.length) : decide (s ∈ l.take (k + 1)) = (decide (s ∈ l.take k) || decide (l[k] = s)) := by
  rw [List.take_succ_eq_append_getElem hk, Bool.eq_iff_iff]
  simp only [decide_eq_true_eq, Bool.or_eq_true, List.mem_append, List.mem_singleton]
  exact ⟨fun h => h.imp id Eq.symm, fun h => h.imp id Eq.symm⟩

end Go.Proofs.YthppefkamklakaaDoor
namespace Go.Proofs.YthppefkamklakaaDoor
open Go.RowKit Go.MapKept Go.Maps Go.WideMaps

/-- The index, or -1. -/
def ixI (q : List Sd) (e : Sd) : Int := match pm 0 q e with | some k => (k : Int) | none => -1
theorem pm_take_none {q : List Sd} {e : Sd} {k : Nat} (hk : k < q.length) (h : e ∉ q.take k) (hn : q[k] ≠ e) : e ∉ q.take (k + 1) := by
  rw [List.take_succ_eq_append_getElem hk, List.mem_append, List.mem_singleton]
  rintro (h' | h')
  · exact h h'
  · exact hn h'.symm
theorem ixI_here {q : List Sd} {k : Nat} {e : Sd} (hk : k < q.length) (he : q[k] = e) (h : e ∉ q.take k) : ixI q e = (k : Int) := by
  have h1 := pm_new (q.drop (k + 1)) h
  rw [show q.take k ++ e :: q.drop (k + 1) = q by rw [← he, ← List.drop_eq_getElem_cons hk, List.take_append_drop], List.length_take] at h1
  unfold ixI
  rw [h1]
  show ((min k q.length : Nat) : Int) = _
  omega
set_option maxRecDepth 100000 in
theorem ixI_none {q : List Sd} {e : Sd} (h : e ∉ q) : ixI q e = -1 := by unfold ixI; rw [pm_none.2 h]
/-! ### Sign -/
set_option maxRecDepth 100000 in
theorem ixI_some {q : List Sd} {e : Sd} {n : Nat} (h : pm 0 q e = some n) : ixI q e = (n : Int) := by unfold ixI; rw [h]
end Go.Proofs.YthppefkamklakaaDoor
namespace Go.Proofs.YthppefkamklakaaDoor
open Go.RowKit Go.MapKept Go.Maps Go.WideMaps

end Go.Proofs.YthppefkamklakaaDoor
