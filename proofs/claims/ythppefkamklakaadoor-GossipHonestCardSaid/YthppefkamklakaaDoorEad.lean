/-
  Gossip: three views beside each other.
-/
import Derived.Test.YthppefkamklakaaDoorVwb
namespace Go.Proofs.YthppefkamklakaaDoor
open Go.RowKit Go.MapKept Go.Maps Go.WideMaps

/-- All of a list accepted, one after the other. -/
noncomputable def fa (q : List Sd) (k : Int) (l m : List Sg) : List Sg := m.foldl (acl q k) l
theorem fa_succ (q : List Sd) (k : Int) (l : List Sg) {m : List Sg} {j : Nat} (h : j < m.length) : fa q k l (m.take (j + 1)) = acl q k (fa q k l (m.take j)) m[j] := by
  unfold fa
  rw [List.take_succ_eq_append_getElem h, List.foldl_append]; rfl
theorem fa_ok {q : List Sd} {k : Int} (hq : q.Nodup) (m : List Sg) : ∀ l, LOk q k l → LOk q k (fa q k l m) := by
  induction m with
  | nil => intro l h; exact h
  | cons x m ih => intro l h; exact ih _ (h.acl hq x).1
theorem nodup_len : ∀ (n : Nat) (l : List Nat), l.Nodup → (∀ x ∈ l, x < n) → l.length ≤ n
  | 0, l, _, h => by
    cases l with
    | nil => simp
    | cons a l => exact absurd (h a (by simp)) (by omega)
  | n + 1, l, hn, h => by
    have h1 := nodup_len n (l.erase n) (hn.erase n) (fun x hx => by
      have h2 := h x (List.mem_of_mem_erase hx)
      have h3 : x ≠ n := fun e => by subst e; exact (List.Nodup.not_mem_erase hn) hx
      omega)
    by_cases hm : n ∈ l
    · rw [List.length_erase_of_mem hm] at h1; omega
    · rw [List.erase_of_not_mem hm] at h1; omega
/-- A list of accepted claims is no longer than the ring's. -/
theorem LOk.len {q : List Sd} {k : Int} {l : List Sg} (h : LOk q k l) : l.length ≤ q.length := by
  have h1 : (l.map fun s => s.2.2.toNat).Nodup := by
    refine List.pairwise_map.2 (h.nd.imp_of_mem fun {a b} ha hb hab e => hab ?_)
    refine holds_mark (h.val a ha) (h.val b hb) ?_
    have h2 := (holds_get (h.val a ha)).1
    have h3 := (holds_get (h.val b hb)).1
    have e' : a.2.2.toNat = b.2.2.toNat := e
    omega
  have h2 := nodup_len q.length _ h1 (fun x hx => by
    obtain ⟨s, hs, rfl⟩ := List.mem_map.1 hx
    exact (List.getElem?_eq_some_iff.1 (holds_get (h.val s hs)).2).1)
  rwa [List.length_map] at h2
theorem LOk.gok {q : List Sd} {k : Int} {l : List Sg} (h : LOk q k l) (hk : IsKey k) (hq : q.length ≤ 1000000) : ∀ s ∈ l, GOk s := fun s hs => by
  have h1 := readC_some.1 (h.log s hs).1
  have h3 := textC_len h1.1
  obtain ⟨h4, h5⟩ := holds_get (h.val s hs)
  have h6 := (List.getElem?_eq_some_iff.1 h5).1
  have h8 := hk.1
  have h9 := hk.2
  exact ⟨by rw [h.key s hs]; exact ⟨by omega, by omega⟩, by rw [h1.2]; omega, ⟨by omega, by omega⟩⟩

/-- One of them is another. -/
def up (f : Nat → List Sg) (i : Nat) (l : List Sg) : Nat → List Sg := fun j => if j = i then l else f j
theorem up_at (f : Nat → List Sg) (i : Nat) (l : List Sg) : up f i l i = l := if_pos rfl
theorem up_ne (f : Nat → List Sg) {i j : Nat} (l : List Sg) (h : j ≠ i) : up f i l j = f j := if_neg h
theorem up_up (f : Nat → List Sg) (i : Nat) (l m : List Sg) : up (up f i l) i m = up f i m := by
  funext j
  unfold up
  split <;> rfl
theorem up_self (f : Nat → List Sg) (i : Nat) : up f i (f i) = f := by
  funext j
  unfold up
  split
  · rename_i h; rw [h]
  · rfl

/-- n views of one log and one ring lie in memory: the view i at p i, with the list f i. -/
structure Vs (W : World) (T : (Nat → List Sg) → Thing) (n : Nat) (p : Nat → Nat) (q : List Sd) (k : Int) : Prop where
  isKey : IsKey k
  nd : q.Nodup
  ql : q.length ≤ 10000
  key : ∀ i, i < n → ∀ f w U, Has W w ((T f).sep U) → Calls Tryd.prog 53 #[.pointer (some ⟨p i, 0, none⟩)] w fun e w' => e = .returned (.int .i64 k) ∧ w' = w
  claims : ∀ i, i < n → ∀ f w U, Has W w ((T f).sep U) → (f i).length ≤ 100000 → Calls Tryd.prog 17 #[.pointer (some ⟨p i, 0, none⟩)] w (CloneG (f i) w)
  clash : ∀ i, i < n → ∀ f w U, Has W w ((T f).sep U) → LOk q k (f i) → ∀ s : Sg, s.2.1.length ≤ 9223372036854775807 → Calls Tryd.prog 34 #[.pointer (some ⟨p i, 0, none⟩), sgV s] w fun e w' => e = .returned (clV (clR (f i) s)) ∧ Fr w w'
  acc : ∀ i, i < n → ∀ f w U, Has W w ((T f).sep U) → LOk q k (f i) → ∀ s : Sg, GOk s → Calls Tryd.prog 12 #[.pointer (some ⟨p i, 0, none⟩), sgV s] w fun e w' => e = .returned (.int .i64 (aE q k (f i) s)) ∧ Has W w' ((T (up f i (acl q k (f i) s))).sep U)

section
variable {W w : World} {T : (Nat → List Sg) → Thing} {n : Nat} {p : Nat → Nat} {q : List Sd} {k : Int} {f : Nat → List Sg} {U : Thing}
set_option maxHeartbeats 4000000 in
set_option maxRecDepth 100000 in
theorem tell_any (hV : Vs W T n p q k) {i : Nat} (hi : i < n) {v : Value} {m : List Sg} (h : Has W w ((T f).sep ((RowT 37 3 v m.length (sgC m)).sep U))) (hf : LOk q k (f i)) (hm : ∀ s ∈ m, GOk s) (hml : m.length ≤ 100000) :
    Calls Tryd.prog 35 #[.pointer (some ⟨p i, 0, none⟩), v] w fun e w' => e = .returned (.tuple #[]) ∧ Has W w' ((T (up f i (fa q k (f i) m))).sep ((RowT 37 3 v m.length (sgC m)).sep U)) := by
  obtain ⟨av, cv, rfl⟩ := row_form h.right.row
  have H := Lib.hid h
  have HV := Lib.hid hV
  have HF := Lib.hid hf
  have HM := Lib.hid hm
  have HP := Lib.hid (hV.acc i hi)
  generalize p i = P at *
  clear h hV hf hm hi
  go_enter Tryd.func35, Tryd.ntmps35
  go_wp2_with fail
  go_loopw [8] (fun iv wr => ∃ j : Nat, j ≤ m.length ∧ iv = .int .i64 j ∧ Hid (Has W wr ((T (up f i (fa q k (f i) (m.take j)))).sep ((RowT 37 3 (.slice av m.length cv) m.length (sgC m)).sep U)))) (fun iv _ => m.length - (intOf iv).toNat)
  case atStart => exact ⟨0, Nat.zero_le _, by go_num, Lib.hid (by rw [List.take_zero]; show Has W _ ((T (up f i (f i))).sep _); rw [up_self]; exact H.out)⟩
  case round =>
    obtain ⟨j, hj, rfl, HR⟩ := hrel
    clear H
    by_cases hlt : j < m.length
    · obtain ⟨g, cp, hv, _, hcell⟩ := sg_at HR.out.right.row rfl (by omega)
      obtain ⟨rfl, rfl⟩ : av = some ⟨g, 0, none⟩ ∧ cv = cp := by simpa using hv
      have hck := hcell j hlt
      have HA := Lib.hid (fun w' (hw : Fr wr w') => HP.out _ w' _ (HR.out.fr hw) (by rw [up_at]; exact fa_ok HV.out.nd _ _ HF.out) m[j] (HM.out _ (List.getElem_mem hlt)))
      simp only [up_up, up_at, ← fa_succ q k (f i) hlt] at HA
      generalize aE q k (fa q k (f i) (m.take j)) m[j] = E at *
      generalize m[j] = sg at *
      obtain ⟨sk, st, sm⟩ := sg
      have s0 := hck.c0
      have s1 := hck.c1
      have s2 := hck.c2
      unfold sgV at HA
      simp only at s0 s1 s2 HA
      clear hcell hck hv
      go_upto_region 3 with fail
      have hfa := Fr.alloc wr (.cells #[.int .i64 sk, .string (S st), .int .i64 sm] 37)
      have a0 : (wr.alloc (.cells #[.int .i64 sk, .string (S st), .int .i64 sm] 37)).cell? ⟨wr.heap.size, 0, none⟩ = some (.int .i64 sk) := cellOf (heap_alloc_new wr _) rfl
      have a1 : (wr.alloc (.cells #[.int .i64 sk, .string (S st), .int .i64 sm] 37)).cell? ⟨wr.heap.size, 1, none⟩ = some (.string (S st)) := cellOf (heap_alloc_new wr _) rfl
      have a2 : (wr.alloc (.cells #[.int .i64 sk, .string (S st), .int .i64 sm] 37)).cell? ⟨wr.heap.size, 2, none⟩ = some (.int .i64 sm) := cellOf (heap_alloc_new wr _) rfl
      generalize wr.heap.size = X at *
      generalize wr.alloc (.cells #[.int .i64 sk, .string (S st), .int .i64 sm] 37) = wa at *
      clear s0 s1 s2
      go_wp2_with (go_at_call 12; refine (HA.out _ hfa).mono ?_; rintro e w20 ⟨rfl, h'⟩)
      go_roundw
      case rel => exact ⟨j + 1, by omega, by go_num, Lib.hid h'⟩
      case measure => simp [intOf]; omega
    · obtain rfl : j = m.length := by omega
      rw [List.take_length] at HR
      go_wp2_with fail
      go_end0
      exact ⟨rfl, HR.out⟩
end
end Go.Proofs.YthppefkamklakaaDoor
namespace Go.Proofs.YthppefkamklakaaDoor
open Go.RowKit Go.MapKept Go.Maps Go.WideMaps

section
variable {A B C H U : Thing} {w : World} {O : Nat → Prop}
theorem s3_open (h : ((A.sep (B.sep (C.sep H))).sep U).at_ w O) : (A.sep (B.sep (C.sep (H.sep U)))).at_ w O := sep_under (sep_assoc h) fun _ h => sep_under (sep_assoc h) fun _ h => sep_assoc h
theorem s3_shut (h : (A.sep (B.sep (C.sep (H.sep U)))).at_ w O) : ((A.sep (B.sep (C.sep H))).sep U).at_ w O := sep_assoc' (sep_under h fun _ h => sep_assoc' (sep_under h fun _ h => sep_assoc' h))
end
def p3 (V0 V1 V2 : Nat) : Nat → Nat
  | 0 => V0
  | 1 => V1
  | _ => V2
noncomputable def T3 (R : Nat) (k : Int) (V0 V1 V2 : Nat) (H : Thing) (f : Nat → List Sg) : Thing := (ViewT V0 R k (f 0) (vd (f 0))).sep ((ViewT V1 R k (f 1) (vd (f 1))).sep ((ViewT V2 R k (f 2) (vd (f 2))).sep H))
section
variable {W w : World} {R V0 V1 V2 : Nat} {k : Int} {H U : Thing} {f : Nat → List Sg}
/-- The view i alone ahead. -/
theorem T3.first (i : Nat) (hi : i < 3) (h : Has W w ((T3 R k V0 V1 V2 H f).sep U)) : ∃ X, Has W w ((ViewT (p3 V0 V1 V2 i) R k (f i) (vd (f i))).sep (H.sep X)) ∧ ∀ w' l, Has W w' ((ViewT (p3 V0 V1 V2 i) R k l (vd l)).sep (H.sep X)) → Has W w' ((T3 R k V0 V1 V2 H (up f i l)).sep U) := by
  have h0 := h.map fun _ h => s3_open h
  match i, hi with
  | 0, _ =>
    refine ⟨_, h0.map fun _ h => sep_under h fun _ h => sp3 h, fun w' l h' => ?_⟩
    have h1 := h'.map fun _ h => s3_shut (sep_under h fun _ h => ps3 h)
    unfold T3
    rw [up_at, up_ne f l (show 1 ≠ 0 by decide), up_ne f l (show 2 ≠ 0 by decide)]
    exact h1
  | 1, _ =>
    refine ⟨_, h0.map fun _ h => sep_under (sep_turn h) fun _ h => sp3 h, fun w' l h' => ?_⟩
    have h1 := h'.map fun _ h => s3_shut (sep_turn (sep_under h fun _ h => ps3 h))
    unfold T3
    rw [up_at, up_ne f l (show 0 ≠ 1 by decide), up_ne f l (show 2 ≠ 1 by decide)]
    exact h1
  | 2, _ =>
    refine ⟨_, h0.map fun _ h => sep_under (sp3 h) fun _ h => sp3 h, fun w' l h' => ?_⟩
    have h1 := h'.map fun _ h => s3_shut (ps3 (sep_under h fun _ h => ps3 h))
    unfold T3
    rw [up_at, up_ne f l (show 0 ≠ 2 by decide), up_ne f l (show 1 ≠ 2 by decide)]
    exact h1
theorem T3.vs {q : List Sd} (hk : IsKey k) (hq : q.Nodup) (hl : q.length ≤ 10000)
    (hacc : ∀ V l w U, Has W w ((ViewT V R k l (vd l)).sep (H.sep U)) → LOk q k l → l.length ≤ 100000 → ∀ s : Sg, GOk s → Calls Tryd.prog 12 #[.pointer (some ⟨V, 0, none⟩), sgV s] w fun e w' => e = .returned (.int .i64 (aE q k l s)) ∧ Has W w' ((ViewT V R k (acl q k l s) (vd (acl q k l s))).sep (H.sep U))) :
    Vs W (T3 R k V0 V1 V2 H) 3 (p3 V0 V1 V2) q k where
  isKey := hk
  nd := hq
  ql := hl
  key i hi f w U h := by
    obtain ⟨X, h1, _⟩ := T3.first i hi h
    exact vkey h1
  claims i hi f w U h hn := by
    obtain ⟨X, h1, _⟩ := T3.first i hi h
    exact vclaims h1 (by omega)
  clash i hi f w U h hf s hs := by
    obtain ⟨X, h1, _⟩ := T3.first i hi h
    exact vclash h1 hf hq (by have := hf.len; omega) s hs
  acc i hi f w U h hf s hs := by
    obtain ⟨X, h1, h2⟩ := T3.first i hi h
    refine (hacc _ _ _ _ h1 hf (by have := hf.len; omega) s hs).mono ?_
    rintro e w' ⟨rfl, h3⟩
    exact ⟨rfl, h2 _ _ h3⟩
end
end Go.Proofs.YthppefkamklakaaDoor
