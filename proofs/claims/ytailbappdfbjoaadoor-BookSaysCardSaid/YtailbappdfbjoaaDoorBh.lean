/-
  The reference's book: Entry, Absent, Head.
-/
import Derived.Test.YtailbappdfbjoaaDoorBg
import Derived.Test.YtailbappdfbjoaaDoorBf
namespace Go.Proofs.YtailbappdfbjoaaDoor
open Go.RowKit Go.MapKept Go.Maps Go.WideMaps

theorem enO_none {s : BS} {i : Int} (h : txtO s i = none) : enO s i = none ∧ enE s i = 4 := by unfold enO enE; rw [h]; exact ⟨rfl, rfl⟩
theorem enO_some {s : BS} {i : Int} {t : Txt} (h : txtO s i = some t) : enO s i = some (s.k, textR ⟨0, i, 0, t⟩) ∧ enE s i = 0 := by unfold enO enE; rw [h]; exact ⟨rfl, rfl⟩
theorem RP.head {W w : World} {B R : Nat} {ev : Value} {s : BS} {q : List Sd} {U : Thing} (h : RP W w B R ev s q U) (n t : Int) :
    Has W ((w.setCell ⟨B, 3, none⟩ (.int .i64 t)).setCell ⟨B, 4, none⟩ (.int .i64 n)) ((RBookT B R { s with n := n, t := t } q).sep U) := by
  have h1 := (((Has.turn h).set 3 (.int .i64 t)).set 4 (.int .i64 n)).turn
  exact RP.close (ev := ev) (s := { s with n := n, t := t }) h1
theorem RP.last {W w : World} {B R : Nat} {ev : Value} {s : BS} {q : List Sd} {U : Thing} (h : RP W w B R ev s q U) (t : Int) :
    (w.setCell ⟨B, 3, none⟩ (.int .i64 t)).heap[B]? = some (.cells #[.pointer (some ⟨R, 0, none⟩), .int .i64 s.k, ev, .int .i64 t, .int .i64 s.n] 48 (0, 0)) := ((Has.turn h).set 3 (.int .i64 t)).boxed

/-! ### Entry -/
set_option maxHeartbeats 2000000 in
set_option maxRecDepth 100000 in
theorem rbentry {W w : World} {B R : Nat} {s : BS} {q : List Sd} {U : Thing} (h : Has W w ((RBookT B R s q).sep U)) (i : Int) (hi : Wm.inInt i) (hs : s.ok) (hq : q.length ≤ 1000000) :
    Calls Tryd.prog 36 #[.pointer (some ⟨B, 0, none⟩), .int .i64 i] w fun e w' => e = .returned (.tuple #[sgV (sgO q (enO s i)), .int .i64 (enE s i)]) ∧ Has W w' ((RBookT B R s (qO q (enO s i))).sep U) := by
  have HS := Lib.hid h.sgBox
  obtain ⟨ev, hb⟩ := HS.out.ropen
  have c2 : (w.alloc (.cells #[.int .i64 0, .string ⟨#[]⟩, .int .i64 0] 37)).cell? ⟨B, 2, none⟩ = some ev := cellOf hb.heap rfl
  have hrow := hb.row
  obtain ⟨a, c, rfl⟩ := row_form hrow
  cases ho : txtO s i with
  | none =>
    obtain ⟨h1, h2⟩ := enO_none ho
    rw [h1, h2]
    have HS1 := Lib.hid hs
    rcases txtO_no ho with h1 | ⟨h0, h1⟩
    · clear hb h ho hrow hs
      go_enter Tryd.func36, Tryd.ntmps36
      go_wp2_with fail
      refine bodyPost_ret (v := .tuple #[sgV (0, [], 0), .int .i64 4]) (by simp [results, Tryd.results36, go_sem]; rfl) rfl ⟨rfl, ?_⟩
      exact HS.out.turn.right
    · clear hb h ho hrow hs
      go_enter Tryd.func36, Tryd.ntmps36
      go_wp2_with fail
      refine bodyPost_ret (v := .tuple #[sgV (0, [], 0), .int .i64 4]) (by simp [results, Tryd.results36, go_sem]; rfl) rfl ⟨rfl, ?_⟩
      exact HS.out.turn.right
  | some t =>
    obtain ⟨h1, h2⟩ := enO_some ho
    rw [h1, h2]
    have hlt := txtO_len hs ho
    have HC := Lib.hid (fits3 0 (by decide) i hi 0 (by decide) t hlt)
    obtain ⟨h0, hj, ht⟩ := txtO_yes ho
    obtain ⟨j, rfl⟩ : ∃ j : Nat, i = j := ⟨i.toNat, by omega⟩
    simp only [Int.toNat_natCast] at hj ht
    obtain ⟨g, cap, he, hc⟩ := str_row hrow rfl (by omega)
    cases he
    have c9 := hc j hj
    rw [ht] at c9
    simp only [sgO, qO]
    clear hb h ho hrow ht hc hs hlt h1 h2
    go_enter Tryd.func36, Tryd.ntmps36
    go_wp2_with (first
      | (go_at_call 58; refine (rbsign HS.out ⟨0, j, 0, t⟩ HC.out hq).mono ?_; rintro e w3 ⟨rfl, h3⟩
         obtain ⟨g, hg⟩ : ∃ g, g = signR q (s.k, textR ⟨0, j, 0, t⟩) := ⟨_, rfl⟩
         rw [← hg]
         have HG := Lib.hid hg
         have hR := h3.turn.boxed
         have d0 : w3.cell? ⟨w.heap.size, 0, none⟩ = some (.int .i64 0) := cellOf hR rfl
         have d1 : w3.cell? ⟨w.heap.size, 1, none⟩ = some (.string ⟨#[]⟩) := cellOf hR rfl
         have d2 : w3.cell? ⟨w.heap.size, 2, none⟩ = some (.int .i64 0) := cellOf hR rfl
         have e0 := frozenOf hR 0
         have e1 := frozenOf hR 1
         have e2 := frozenOf hR 2
         have H3 := Lib.hid h3
         unfold sgV
         clear hg hR h3))
    obtain ⟨hR, hF⟩ := sg_end H3.out (.int .i64 g.1) (.string (S g.2.1)) (.int .i64 g.2.2)
    generalize (((w3.setCell ⟨w.heap.size, 0, none⟩ (.int .i64 g.1)).setCell ⟨w.heap.size, 1, none⟩ (.string (S g.2.1))).setCell ⟨w.heap.size, 2, none⟩ (.int .i64 g.2.2)) = w4 at *
    have k0 : w4.cell? ⟨w.heap.size, 0, none⟩ = some (.int .i64 g.1) := cellOf hR rfl
    have k1 : w4.cell? ⟨w.heap.size, 1, none⟩ = some (.string (S g.2.1)) := cellOf hR rfl
    have k2 : w4.cell? ⟨w.heap.size, 2, none⟩ = some (.int .i64 g.2.2) := cellOf hR rfl
    refine bodyPost_ret (v := .tuple #[sgV g, .int .i64 0]) (by simp [results, Tryd.results36, go_sem, k0, k1, k2]; rfl) rfl ⟨by rw [HG.out], ?_⟩
    exact hF

/-! ### Absent -/
set_option maxHeartbeats 2000000 in
set_option maxRecDepth 100000 in
theorem rbabsent_arg {W w : World} {B R : Nat} {s : BS} {q : List Sd} {U : Thing} (h : Has W w ((RBookT B R s q).sep U)) (k : Txt) (n : Int) (hx : n < 0 ∨ (s.es.length : Int) < n ∨ 20000 < k.length) :
    Calls Tryd.prog 38 #[.pointer (some ⟨B, 0, none⟩), .string (S k), .int .i64 n] w fun e w' => e = .returned (.tuple #[sgV (0, [], 0), .int .i64 1]) ∧ Has W w' ((RBookT B R s q).sep U) := by
  have HS := Lib.hid h.sgBox
  obtain ⟨ev, hb⟩ := HS.out.ropen
  have c2 : (w.alloc (.cells #[.int .i64 0, .string ⟨#[]⟩, .int .i64 0] 37)).cell? ⟨B, 2, none⟩ = some ev := cellOf hb.heap rfl
  have hrow := hb.row
  obtain ⟨a, c, rfl⟩ := row_form hrow
  clear h hb hrow
  by_cases h0 : n < 0
  · clear hx
    go_enter Tryd.func38, Tryd.ntmps38
    go_wp2_with fail
    refine bodyPost_ret (v := .tuple #[sgV (0, [], 0), .int .i64 1]) (by simp [results, Tryd.results38, go_sem]; rfl) rfl ⟨rfl, ?_⟩
    exact HS.out.turn.right
  · by_cases h1 : (s.es.length : Int) < n
    · clear hx
      go_enter Tryd.func38, Tryd.ntmps38
      go_wp2_with fail
      refine bodyPost_ret (v := .tuple #[sgV (0, [], 0), .int .i64 1]) (by simp [results, Tryd.results38, go_sem]; rfl) rfl ⟨rfl, ?_⟩
      exact HS.out.turn.right
    · have h2 : (20000 : Int) < (k.length : Int) := by omega
      clear hx
      go_enter Tryd.func38, Tryd.ntmps38
      go_wp2_with fail
      refine bodyPost_ret (v := .tuple #[sgV (0, [], 0), .int .i64 1]) (by simp [results, Tryd.results38, go_sem]; rfl) rfl ⟨rfl, ?_⟩
      exact HS.out.turn.right
/-- The key of an entry, as the reference reads it. -/
def keyP (t : Txt) : Value → Prop := fun v => ∃ b, v = .tuple #[.string (S t), .bool b]
theorem rkeyCall_any (t : Txt) (w : World) (ht : t.length ≤ 9223372036854775807) :
    Calls Tryd.prog 57 #[.string (S t)] w fun e w' => (∃ b, e = .returned (.tuple #[.string (S (keyT t)), .bool b])) ∧ Fr w w' := by
  refine (rkey_any t w ht).mono ?_
  rintro e w' ⟨rfl, hf⟩
  refine ⟨?_, hf⟩
  unfold keyT
  cases key t with
  | none => exact ⟨false, rfl⟩
  | some k => exact ⟨true, rfl⟩
theorem ks_get {es : List Txt} {i : Nat} (h : i < es.length) : (ks es)[i]? = some (keyT es[i]) := by simp [ks, h]
theorem pm_first {es : List Txt} {k : Txt} {n : Nat} (h : pm 0 (ks es) k = some n) : ∃ hn : n < es.length, keyT es[n] = k := by
  have h1 := pm_get h
  have h2 := pm_lt h
  rw [ks_len] at h2
  rw [ks_get h2] at h1
  exact ⟨h2, Option.some.inj h1⟩
theorem pm_before {l : List Txt} {k : Txt} {n : Nat} (h : pm 0 l k = some n) : k ∉ l.take n := by
  intro hm
  have h2 := pm_lt h
  obtain ⟨m, hm2⟩ := pm_mem (i := 0) hm
  have h3 := pm_lt hm2
  have h4 : pm 0 (l.take n ++ l.drop n) k = some m := by rw [pm_pre hm]; exact hm2
  rw [List.take_append_drop, h] at h4
  cases h4
  rw [List.length_take] at h3
  omega
set_option maxHeartbeats 2000000 in
set_option maxRecDepth 100000 in
theorem rbabsent_there {W w : World} {B R : Nat} {s : BS} {q : List Sd} {U : Thing} (h : Has W w ((RBookT B R s q).sep U)) (k : Txt) (n : Int) (h0 : 0 ≤ n) (h1 : n ≤ s.es.length) (hk : k.length ≤ 20000) (hs : s.ok) (i : Nat) (hp : pm 0 (ks s.es) k = some i) (hi : (i : Int) < n) :
    Calls Tryd.prog 38 #[.pointer (some ⟨B, 0, none⟩), .string (S k), .int .i64 n] w fun e w' => e = .returned (.tuple #[sgV (0, [], 0), .int .i64 5]) ∧ Has W w' ((RBookT B R s q).sep U) := by
  have HS := Lib.hid h.sgBox
  obtain ⟨ev, hb⟩ := HS.out.ropen
  have c2 : (w.alloc (.cells #[.int .i64 0, .string ⟨#[]⟩, .int .i64 0] 37)).cell? ⟨B, 2, none⟩ = some ev := cellOf hb.heap rfl
  have hrow := hb.row
  obtain ⟨a, c, rfl⟩ := row_form hrow
  have h0' : ¬ (n < 0) := by omega
  have h1' : ¬ ((s.es.length : Int) < n) := by omega
  have h2' : ¬ ((20000 : Int) < (k.length : Int)) := by omega
  have HB := Lib.hid hb
  have HRow := Lib.hid hrow
  obtain ⟨nn, rfl⟩ : ∃ nn : Nat, n = nn := ⟨n.toNat, by omega⟩
  have hnn : nn ≤ s.es.length := by omega
  have HNN := Lib.hid hnn
  have hn1 : nn ≤ 1000 := by have := hs.1; omega
  have HOK := Lib.hid hs
  have hi' : i < nn := by omega
  obtain ⟨hil, hik⟩ := pm_first hp
  have HIK := Lib.hid hik
  have HBE := Lib.hid (pm_before hp)
  clear h hb hrow hp h0 hi hs hik
  go_enter Tryd.func38, Tryd.ntmps38
  go_wp2_with fail
  go_loopw [8] (fun x wr => ∃ j : Nat, j ≤ nn ∧ j ≤ i ∧ x = .int .i64 j ∧ Hid (Fr (w.alloc (.cells #[.int .i64 0, .string ⟨#[]⟩, .int .i64 0] 37)) wr)) (fun x _ => nn - (intOf x).toNat)
  case atStart => exact ⟨0, Nat.zero_le _, Nat.zero_le _, rfl, Lib.hid (Fr.refl _)⟩
  case round =>
    obtain ⟨j, hj, hji, rfl, HF⟩ := hrel
    have hlt : ((j : Nat) : Int) < (nn : Int) := by omega
    have hjl : j < s.es.length := by have := HNN.out; omega
    obtain ⟨g, cap, he, hc⟩ := str_row HRow.out rfl (by omega)
    cases he
    have c9 := HF.out.cell (hc j hjl)
    have c2' := HF.out.cell c2
    have HT := Lib.hid (show s.es[j].length ≤ 9223372036854775807 from Nat.le_trans (HOK.out.2 _ (List.getElem_mem hjl)) (by decide))
    by_cases hne : j = i
    · have HE := Lib.hid (show keyT s.es[j] = k by subst hne; exact HIK.out)
      clear hc hji hne
      generalize s.es[j] = t at *
      go_wp2_with (go_at_call 57; refine (rkeyCall_any t _ HT.out).mono ?_; rw [HE.out]; rintro e w3 ⟨⟨b, rfl⟩, hf3⟩
                   have H3 := Lib.hid (HS.out.fr (HF.out.trans hf3))
                   have hR := H3.out.turn.boxed
                   have d0 : w3.cell? ⟨w.heap.size, 0, none⟩ = some (.int .i64 0) := cellOf hR rfl
                   have d1 : w3.cell? ⟨w.heap.size, 1, none⟩ = some (.string ⟨#[]⟩) := cellOf hR rfl
                   have d2 : w3.cell? ⟨w.heap.size, 2, none⟩ = some (.int .i64 0) := cellOf hR rfl
                   have e0 := frozenOf hR 0
                   have e1 := frozenOf hR 1
                   have e2 := frozenOf hR 2
                   clear hR)
      obtain ⟨hR, hF⟩ := sg_end H3.out (.int .i64 0) (.string ⟨#[]⟩) (.int .i64 0)
      generalize (((w3.setCell ⟨w.heap.size, 0, none⟩ (.int .i64 0)).setCell ⟨w.heap.size, 1, none⟩ (.string ⟨#[]⟩)).setCell ⟨w.heap.size, 2, none⟩ (.int .i64 0)) = w4 at *
      have k0 : w4.cell? ⟨w.heap.size, 0, none⟩ = some (.int .i64 0) := cellOf hR rfl
      have k1 : w4.cell? ⟨w.heap.size, 1, none⟩ = some (.string ⟨#[]⟩) := cellOf hR rfl
      have k2 : w4.cell? ⟨w.heap.size, 2, none⟩ = some (.int .i64 0) := cellOf hR rfl
      refine bodyPost_ret (v := .tuple #[sgV (0, [], 0), .int .i64 5]) (by simp [results, Tryd.results38, go_sem, k0, k1, k2]; rfl) rfl ⟨rfl, ?_⟩
      exact hF
    · have HE := Lib.hid (show (keyT s.es[j] == k) = false by
        rw [beq_eq_false_iff_ne]
        intro e
        refine HBE.out ?_
        have hx : (ks s.es)[j]? = some k := by rw [ks_get hjl, e]
        exact List.mem_of_getElem? (i := j) (by rw [List.getElem?_take, if_pos (by omega)]; exact hx))
      clear hc
      generalize s.es[j] = t at *
      go_wp2_with (go_at_call 57; refine (rkeyCall_any t _ HT.out).mono ?_; rintro e w3 ⟨⟨b, rfl⟩, hf3⟩; have hE := HE.out)
      go_roundw
      case rel => exact ⟨j + 1, by omega, by omega, by go_num, Lib.hid (HF.out.trans hf3)⟩
      case measure => simp [intOf]; omega
set_option maxHeartbeats 2000000 in
set_option maxRecDepth 100000 in
theorem rbabsent_no {W w : World} {B R : Nat} {s : BS} {q : List Sd} {U : Thing} (h : Has W w ((RBookT B R s q).sep U)) (k : Txt) (n : Int) (h0 : 0 ≤ n) (h1 : n ≤ s.es.length) (hk : k.length ≤ 20000) (hs : s.ok) (hq : q.length ≤ 1000000) (hp : ∀ (j : Nat) (hj : j < s.es.length), (j : Int) < n → keyT s.es[j] ≠ k) :
    Calls Tryd.prog 38 #[.pointer (some ⟨B, 0, none⟩), .string (S k), .int .i64 n] w fun e w' => e = .returned (.tuple #[sgV (signR q (s.k, textR ⟨2, n, 0, k⟩)), .int .i64 0]) ∧ Has W w' ((RBookT B R s (signL q (s.k, textR ⟨2, n, 0, k⟩))).sep U) := by
  have HS := Lib.hid h.sgBox
  obtain ⟨ev, hb⟩ := HS.out.ropen
  have c2 : (w.alloc (.cells #[.int .i64 0, .string ⟨#[]⟩, .int .i64 0] 37)).cell? ⟨B, 2, none⟩ = some ev := cellOf hb.heap rfl
  have hrow := hb.row
  obtain ⟨a, c, rfl⟩ := row_form hrow
  have h0' : ¬ (n < 0) := by omega
  have h1' : ¬ ((s.es.length : Int) < n) := by omega
  have h2' : ¬ ((20000 : Int) < (k.length : Int)) := by omega
  have HB := Lib.hid hb
  have HRow := Lib.hid hrow
  obtain ⟨nn, rfl⟩ : ∃ nn : Nat, n = nn := ⟨n.toNat, by omega⟩
  have hnn : nn ≤ s.es.length := by omega
  have HNN := Lib.hid hnn
  have hn1 : nn ≤ 1000 := by have := hs.1; omega
  have HOK := Lib.hid hs
  have HC := Lib.hid (fits3 2 (by decide) (nn : Int) ⟨by omega, by have := hs.1; omega⟩ 0 (by decide) k hk)
  have HP := Lib.hid hp
  clear h hb hrow hp h0 hs
  go_enter Tryd.func38, Tryd.ntmps38
  go_wp2_with fail
  go_loopw [8] (fun x wr => ∃ j : Nat, j ≤ nn ∧ x = .int .i64 j ∧ Hid (Fr (w.alloc (.cells #[.int .i64 0, .string ⟨#[]⟩, .int .i64 0] 37)) wr)) (fun x _ => nn - (intOf x).toNat)
  case atStart => exact ⟨0, Nat.zero_le _, rfl, Lib.hid (Fr.refl _)⟩
  case round =>
    obtain ⟨j, hj, rfl, HF⟩ := hrel
    by_cases hjn : j < nn
    · have hlt : ((j : Nat) : Int) < (nn : Int) := by omega
      have hjl : j < s.es.length := by have := HNN.out; omega
      obtain ⟨g, cap, he, hc⟩ := str_row HRow.out rfl (by omega)
      cases he
      have c9 := HF.out.cell (hc j hjl)
      have c2' := HF.out.cell c2
      have HT := Lib.hid (show s.es[j].length ≤ 9223372036854775807 from Nat.le_trans (HOK.out.2 _ (List.getElem_mem hjl)) (by decide))
      have HE := Lib.hid (show (keyT s.es[j] == k) = false by
        rw [beq_eq_false_iff_ne]
        exact HP.out j hjl hlt)
      clear hc
      generalize s.es[j] = t at *
      go_wp2_with (go_at_call 57; refine (rkeyCall_any t _ HT.out).mono ?_; rintro e w3 ⟨⟨b, rfl⟩, hf3⟩; have hE := HE.out)
      go_roundw
      case rel => exact ⟨j + 1, by omega, by go_num, Lib.hid (HF.out.trans hf3)⟩
      case measure => simp [intOf]; omega
    · have hlt : ¬ (((j : Nat) : Int) < (nn : Int)) := by omega
      have HS1 := Lib.hid (HS.out.fr HF.out)
      go_wp2_with (first
        | (go_at_call 58; refine (rbsign HS1.out ⟨2, nn, 0, k⟩ HC.out hq).mono ?_; rintro e w3 ⟨rfl, h3⟩
           obtain ⟨g, hg⟩ : ∃ g, g = signR q (s.k, textR ⟨2, nn, 0, k⟩) := ⟨_, rfl⟩
           rw [← hg]
           have HG := Lib.hid hg
           have hR := h3.turn.boxed
           have d0 : w3.cell? ⟨w.heap.size, 0, none⟩ = some (.int .i64 0) := cellOf hR rfl
           have d1 : w3.cell? ⟨w.heap.size, 1, none⟩ = some (.string ⟨#[]⟩) := cellOf hR rfl
           have d2 : w3.cell? ⟨w.heap.size, 2, none⟩ = some (.int .i64 0) := cellOf hR rfl
           have e0 := frozenOf hR 0
           have e1 := frozenOf hR 1
           have e2 := frozenOf hR 2
           have H3 := Lib.hid h3
           unfold sgV
           clear hg hR h3))
      obtain ⟨hR, hF⟩ := sg_end H3.out (.int .i64 g.1) (.string (S g.2.1)) (.int .i64 g.2.2)
      generalize (((w3.setCell ⟨w.heap.size, 0, none⟩ (.int .i64 g.1)).setCell ⟨w.heap.size, 1, none⟩ (.string (S g.2.1))).setCell ⟨w.heap.size, 2, none⟩ (.int .i64 g.2.2)) = w4 at *
      have k0 : w4.cell? ⟨w.heap.size, 0, none⟩ = some (.int .i64 g.1) := cellOf hR rfl
      have k1 : w4.cell? ⟨w.heap.size, 1, none⟩ = some (.string (S g.2.1)) := cellOf hR rfl
      have k2 : w4.cell? ⟨w.heap.size, 2, none⟩ = some (.int .i64 g.2.2) := cellOf hR rfl
      refine bodyPost_ret (v := .tuple #[sgV g, .int .i64 0]) (by simp [results, Tryd.results38, go_sem, k0, k1, k2]; rfl) rfl ⟨by rw [HG.out], ?_⟩
      exact hF
theorem rbabsent {W w : World} {B R : Nat} {s : BS} {q : List Sd} {U : Thing} (h : Has W w ((RBookT B R s q).sep U)) (k : Txt) (n : Int) (hs : s.ok) (hq : q.length ≤ 1000000) :
    Calls Tryd.prog 38 #[.pointer (some ⟨B, 0, none⟩), .string (S k), .int .i64 n] w fun e w' => e = .returned (.tuple #[sgV (sgO q (abO s k n)), .int .i64 (abE s k n)]) ∧ Has W w' ((RBookT B R s (qO q (abO s k n))).sep U) := by
  by_cases hx : n < 0 ∨ (s.es.length : Int) < n ∨ 20000 < k.length
  · obtain ⟨h1, h2⟩ := ab_arg hx
    rw [h1, h2]
    exact rbabsent_arg h k n hx
  · cases hp : pm 0 (ks s.es) k with
    | none =>
      obtain ⟨h1, h2⟩ := ab_none hx hp
      rw [h1, h2]
      refine rbabsent_no h k n (by omega) (by omega) (by omega) hs hq fun j hj _ e => pm_none.1 hp ?_
      exact List.mem_of_getElem? (i := j) (by rw [ks_get hj, e])
    | some i =>
      by_cases hi : (i : Int) < n
      · obtain ⟨h1, h2⟩ := ab_there hx hp hi
        rw [h1, h2]
        exact rbabsent_there h k n (by omega) (by omega) (by omega) hs i hp hi
      · obtain ⟨h1, h2⟩ := ab_later hx hp hi
        rw [h1, h2]
        refine rbabsent_no h k n (by omega) (by omega) (by omega) hs hq fun j hj hlt e => pm_before hp ?_
        exact List.mem_of_getElem? (i := j) (by rw [List.getElem?_take, if_pos (by omega), ks_get hj, e])

/-! ### Head -/
set_option maxHeartbeats 2000000 in
set_option maxRecDepth 100000 in
theorem rbhead_arg {W w : World} {B R : Nat} {s : BS} {q : List Sd} {U : Thing} (h : Has W w ((RBookT B R s q).sep U)) (now : Int) (hx : now < 0 ∨ 1073741824 < now) :
    Calls Tryd.prog 37 #[.pointer (some ⟨B, 0, none⟩), .int .i64 now] w fun e w' => e = .returned (.tuple #[sgV (0, [], 0), .int .i64 1]) ∧ Has W w' ((RBookT B R s q).sep U) := by
  have HS := Lib.hid h.sgBox
  clear h
  by_cases h0 : now < 0
  · clear hx
    go_enter Tryd.func37, Tryd.ntmps37
    go_wp2_with fail
    refine bodyPost_ret (v := .tuple #[sgV (0, [], 0), .int .i64 1]) (by simp [results, Tryd.results37, go_sem]; rfl) rfl ⟨rfl, ?_⟩
    exact HS.out.turn.right
  · have h1 : (1073741824 : Int) < now := by omega
    clear hx
    go_enter Tryd.func37, Tryd.ntmps37
    go_wp2_with fail
    refine bodyPost_ret (v := .tuple #[sgV (0, [], 0), .int .i64 1]) (by simp [results, Tryd.results37, go_sem]; rfl) rfl ⟨rfl, ?_⟩
    exact HS.out.turn.right
set_option maxHeartbeats 2000000 in
set_option maxRecDepth 100000 in
theorem rbhead_state {W w : World} {B R : Nat} {s : BS} {q : List Sd} {U : Thing} (h : Has W w ((RBookT B R s q).sep U)) (now : Int) (h0 : 0 ≤ now) (h1 : now ≤ 1073741824) (hx : now < s.t ∨ (now = s.t ∧ (s.es.length : Int) ≠ s.n)) :
    Calls Tryd.prog 37 #[.pointer (some ⟨B, 0, none⟩), .int .i64 now] w fun e w' => e = .returned (.tuple #[sgV (0, [], 0), .int .i64 7]) ∧ Has W w' ((RBookT B R s q).sep U) := by
  have HS := Lib.hid h.sgBox
  have h0' : ¬ (now < 0) := by omega
  have h1' : ¬ (1073741824 < now) := by omega
  clear h
  have hx' : now < s.t ∨ (s.t = now ∧ s.n ≠ (s.es.length : Int)) := by omega
  clear hx
  rcases hx' with hlt | ⟨heq, hne⟩
  · go_enter Tryd.func37, Tryd.ntmps37
    go_upto_region 3 with fail
    generalize w.alloc (.cells #[.int .i64 0, .string ⟨#[]⟩, .int .i64 0] 37) = w1 at *
    obtain ⟨P, hP⟩ : ∃ P, P = w.heap.size := ⟨_, rfl⟩
    rw [← hP] at HS ⊢
    clear hP
    obtain ⟨ev, hb⟩ := HS.out.ropen
    have b2 : w1.cell? ⟨B, 2, none⟩ = some ev := cellOf hb.heap rfl
    have b3 : w1.cell? ⟨B, 3, none⟩ = some (.int .i64 s.t) := cellOf hb.heap rfl
    have b4 : w1.cell? ⟨B, 4, none⟩ = some (.int .i64 s.n) := cellOf hb.heap rfl
    obtain ⟨a, c, rfl⟩ := row_form hb.row
    clear hb
    go_quiet (fail)
    have H3 := Lib.hid (HS.out.fr (Fr.drewN w1 nq))
    generalize w1.drewN nq = w3 at *
    clear b2 b3 b4 HS
    have hR := H3.out.turn.boxed
    have d0 : w3.cell? ⟨P, 0, none⟩ = some (.int .i64 0) := cellOf hR rfl
    have d1 : w3.cell? ⟨P, 1, none⟩ = some (.string ⟨#[]⟩) := cellOf hR rfl
    have d2 : w3.cell? ⟨P, 2, none⟩ = some (.int .i64 0) := cellOf hR rfl
    have e0 := frozenOf hR 0
    have e1 := frozenOf hR 1
    have e2 := frozenOf hR 2
    clear hR
    go_wp2_with fail
    obtain ⟨hR, hF⟩ := sg_end H3.out (.int .i64 0) (.string ⟨#[]⟩) (.int .i64 0)
    generalize (((w3.setCell ⟨P, 0, none⟩ (.int .i64 0)).setCell ⟨P, 1, none⟩ (.string ⟨#[]⟩)).setCell ⟨P, 2, none⟩ (.int .i64 0)) = w4 at *
    have k0 : w4.cell? ⟨P, 0, none⟩ = some (.int .i64 0) := cellOf hR rfl
    have k1 : w4.cell? ⟨P, 1, none⟩ = some (.string ⟨#[]⟩) := cellOf hR rfl
    have k2 : w4.cell? ⟨P, 2, none⟩ = some (.int .i64 0) := cellOf hR rfl
    refine bodyPost_ret (v := .tuple #[sgV (0, [], 0), .int .i64 7]) (by simp [results, Tryd.results37, go_sem, k0, k1, k2]; rfl) rfl ⟨rfl, ?_⟩
    exact hF
  · go_enter Tryd.func37, Tryd.ntmps37
    go_upto_region 3 with fail
    generalize w.alloc (.cells #[.int .i64 0, .string ⟨#[]⟩, .int .i64 0] 37) = w1 at *
    obtain ⟨P, hP⟩ : ∃ P, P = w.heap.size := ⟨_, rfl⟩
    rw [← hP] at HS ⊢
    clear hP
    obtain ⟨ev, hb⟩ := HS.out.ropen
    have b2 : w1.cell? ⟨B, 2, none⟩ = some ev := cellOf hb.heap rfl
    have b3 : w1.cell? ⟨B, 3, none⟩ = some (.int .i64 s.t) := cellOf hb.heap rfl
    have b4 : w1.cell? ⟨B, 4, none⟩ = some (.int .i64 s.n) := cellOf hb.heap rfl
    obtain ⟨a, c, rfl⟩ := row_form hb.row
    clear hb
    go_quiet (fail)
    have H3 := Lib.hid (HS.out.fr (Fr.drewN w1 nq))
    generalize w1.drewN nq = w3 at *
    clear b2 b3 b4 HS
    have hR := H3.out.turn.boxed
    have d0 : w3.cell? ⟨P, 0, none⟩ = some (.int .i64 0) := cellOf hR rfl
    have d1 : w3.cell? ⟨P, 1, none⟩ = some (.string ⟨#[]⟩) := cellOf hR rfl
    have d2 : w3.cell? ⟨P, 2, none⟩ = some (.int .i64 0) := cellOf hR rfl
    have e0 := frozenOf hR 0
    have e1 := frozenOf hR 1
    have e2 := frozenOf hR 2
    clear hR
    go_wp2_with fail
    obtain ⟨hR, hF⟩ := sg_end H3.out (.int .i64 0) (.string ⟨#[]⟩) (.int .i64 0)
    generalize (((w3.setCell ⟨P, 0, none⟩ (.int .i64 0)).setCell ⟨P, 1, none⟩ (.string ⟨#[]⟩)).setCell ⟨P, 2, none⟩ (.int .i64 0)) = w4 at *
    have k0 : w4.cell? ⟨P, 0, none⟩ = some (.int .i64 0) := cellOf hR rfl
    have k1 : w4.cell? ⟨P, 1, none⟩ = some (.string ⟨#[]⟩) := cellOf hR rfl
    have k2 : w4.cell? ⟨P, 2, none⟩ = some (.int .i64 0) := cellOf hR rfl
    refine bodyPost_ret (v := .tuple #[sgV (0, [], 0), .int .i64 7]) (by simp [results, Tryd.results37, go_sem, k0, k1, k2]; rfl) rfl ⟨rfl, ?_⟩
    exact hF
set_option maxHeartbeats 2000000 in
set_option maxRecDepth 100000 in
theorem rbhead_ok {W w : World} {B R : Nat} {s : BS} {q : List Sd} {U : Thing} (h : Has W w ((RBookT B R s q).sep U)) (now : Int) (h0 : 0 ≤ now) (h1 : now ≤ 1073741824) (hx : ¬ (now < s.t ∨ (now = s.t ∧ (s.es.length : Int) ≠ s.n))) (hs : s.ok) (hq : q.length ≤ 1000000) :
    Calls Tryd.prog 37 #[.pointer (some ⟨B, 0, none⟩), .int .i64 now] w fun e w' => e = .returned (.tuple #[sgV (signR q (s.k, textR ⟨1, s.es.length, now, []⟩)), .int .i64 0]) ∧ Has W w' ((RBookT B R { s with n := s.es.length, t := now } (signL q (s.k, textR ⟨1, s.es.length, now, []⟩))).sep U) := by
  have HC := Lib.hid (fits3 1 (by decide) s.es.length (by have := hs.1; constructor <;> omega) now ⟨h0, h1⟩ [] (by decide))
  clear hs
  have HS := Lib.hid h.sgBox
  have h0' : ¬ (now < 0) := by omega
  have h1' : ¬ (1073741824 < now) := by omega
  clear h
  have hlt : ¬ (now < s.t) := by omega
  have hx2 : ¬ (s.t = now) ∨ (s.t = now ∧ s.n = (s.es.length : Int)) := by omega
  clear hx
  rcases hx2 with hne | ⟨hq2, heq⟩
  · go_enter Tryd.func37, Tryd.ntmps37
    go_upto_region 3 with fail
    generalize w.alloc (.cells #[.int .i64 0, .string ⟨#[]⟩, .int .i64 0] 37) = w1 at *
    obtain ⟨P, hP⟩ : ∃ P, P = w.heap.size := ⟨_, rfl⟩
    rw [← hP] at HS ⊢
    clear hP
    obtain ⟨ev, hb⟩ := HS.out.ropen
    have b2 : w1.cell? ⟨B, 2, none⟩ = some ev := cellOf hb.heap rfl
    have b3 : w1.cell? ⟨B, 3, none⟩ = some (.int .i64 s.t) := cellOf hb.heap rfl
    have b4 : w1.cell? ⟨B, 4, none⟩ = some (.int .i64 s.n) := cellOf hb.heap rfl
    obtain ⟨a, c, rfl⟩ := row_form hb.row
    clear hb
    go_quiet (fail)
    have H2 := Lib.hid (HS.out.fr (Fr.drewN w1 nq))
    generalize w1.drewN nq = w2 at *
    clear b2 b3 b4 HS
    obtain ⟨ev2, hb2⟩ := H2.out.ropen
    have c2 : w2.cell? ⟨B, 2, none⟩ = some ev2 := cellOf hb2.heap rfl
    obtain ⟨a2, c2', rfl⟩ := row_form hb2.row
    have c3 : w2.cell? ⟨B, 3, none⟩ = some (.int .i64 s.t) := cellOf hb2.heap rfl
    have f3 := frozenOf hb2.heap 3
    have hl := hb2.last now
    have m2 : (w2.setCell ⟨B, 3, none⟩ (.int .i64 now)).cell? ⟨B, 2, none⟩ = some (.slice a2 s.es.length c2') := cellOf hl rfl
    have m4 : (w2.setCell ⟨B, 3, none⟩ (.int .i64 now)).cell? ⟨B, 4, none⟩ = some (.int .i64 s.n) := cellOf hl rfl
    have f4 := frozenOf hl 4
    have HB := Lib.hid (hb2.head s.es.length now)
    clear hb2 hl
    go_upto_region 7 with fail
    generalize (w2.setCell ⟨B, 3, none⟩ (.int .i64 now)).setCell ⟨B, 4, none⟩ (.int .i64 s.es.length) = wa at *
    clear c2 c3 f3 f4 m2 m4
    obtain ⟨ev5, hb5⟩ := HB.out.ropen
    have c2 : wa.cell? ⟨B, 2, none⟩ = some ev5 := cellOf hb5.heap rfl
    obtain ⟨a5, c5, rfl⟩ := row_form hb5.row
    clear hb5
    go_wp2_with (first
      | (go_at_call 58; refine (rbsign HB.out ⟨1, s.es.length, now, []⟩ HC.out hq).mono ?_; rintro e w3 ⟨rfl, h3⟩
         obtain ⟨g, hg⟩ : ∃ g, g = signR q (s.k, textR ⟨1, s.es.length, now, []⟩) := ⟨_, rfl⟩
         rw [← hg]
         have HG := Lib.hid hg
         have hR := h3.turn.boxed
         have d0 : w3.cell? ⟨P, 0, none⟩ = some (.int .i64 0) := cellOf hR rfl
         have d1 : w3.cell? ⟨P, 1, none⟩ = some (.string ⟨#[]⟩) := cellOf hR rfl
         have d2 : w3.cell? ⟨P, 2, none⟩ = some (.int .i64 0) := cellOf hR rfl
         have e0 := frozenOf hR 0
         have e1 := frozenOf hR 1
         have e2 := frozenOf hR 2
         have H3 := Lib.hid h3
         unfold sgV
         clear hg hR h3))
    obtain ⟨hR, hF⟩ := sg_end H3.out (.int .i64 g.1) (.string (S g.2.1)) (.int .i64 g.2.2)
    generalize (((w3.setCell ⟨P, 0, none⟩ (.int .i64 g.1)).setCell ⟨P, 1, none⟩ (.string (S g.2.1))).setCell ⟨P, 2, none⟩ (.int .i64 g.2.2)) = w4 at *
    have k0 : w4.cell? ⟨P, 0, none⟩ = some (.int .i64 g.1) := cellOf hR rfl
    have k1 : w4.cell? ⟨P, 1, none⟩ = some (.string (S g.2.1)) := cellOf hR rfl
    have k2 : w4.cell? ⟨P, 2, none⟩ = some (.int .i64 g.2.2) := cellOf hR rfl
    refine bodyPost_ret (v := .tuple #[sgV g, .int .i64 0]) (by simp [results, Tryd.results37, go_sem, k0, k1, k2]; rfl) rfl ⟨by rw [HG.out], ?_⟩
    exact hF
  · go_enter Tryd.func37, Tryd.ntmps37
    go_upto_region 3 with fail
    generalize w.alloc (.cells #[.int .i64 0, .string ⟨#[]⟩, .int .i64 0] 37) = w1 at *
    obtain ⟨P, hP⟩ : ∃ P, P = w.heap.size := ⟨_, rfl⟩
    rw [← hP] at HS ⊢
    clear hP
    obtain ⟨ev, hb⟩ := HS.out.ropen
    have b2 : w1.cell? ⟨B, 2, none⟩ = some ev := cellOf hb.heap rfl
    have b3 : w1.cell? ⟨B, 3, none⟩ = some (.int .i64 s.t) := cellOf hb.heap rfl
    have b4 : w1.cell? ⟨B, 4, none⟩ = some (.int .i64 s.n) := cellOf hb.heap rfl
    obtain ⟨a, c, rfl⟩ := row_form hb.row
    clear hb
    go_quiet (fail)
    have H2 := Lib.hid (HS.out.fr (Fr.drewN w1 nq))
    generalize w1.drewN nq = w2 at *
    clear b2 b3 b4 HS
    obtain ⟨ev2, hb2⟩ := H2.out.ropen
    have c2 : w2.cell? ⟨B, 2, none⟩ = some ev2 := cellOf hb2.heap rfl
    obtain ⟨a2, c2', rfl⟩ := row_form hb2.row
    have c3 : w2.cell? ⟨B, 3, none⟩ = some (.int .i64 s.t) := cellOf hb2.heap rfl
    have f3 := frozenOf hb2.heap 3
    have hl := hb2.last now
    have m2 : (w2.setCell ⟨B, 3, none⟩ (.int .i64 now)).cell? ⟨B, 2, none⟩ = some (.slice a2 s.es.length c2') := cellOf hl rfl
    have m4 : (w2.setCell ⟨B, 3, none⟩ (.int .i64 now)).cell? ⟨B, 4, none⟩ = some (.int .i64 s.n) := cellOf hl rfl
    have f4 := frozenOf hl 4
    have HB := Lib.hid (hb2.head s.es.length now)
    clear hb2 hl
    go_upto_region 7 with fail
    generalize (w2.setCell ⟨B, 3, none⟩ (.int .i64 now)).setCell ⟨B, 4, none⟩ (.int .i64 s.es.length) = wa at *
    clear c2 c3 f3 f4 m2 m4
    obtain ⟨ev5, hb5⟩ := HB.out.ropen
    have c2 : wa.cell? ⟨B, 2, none⟩ = some ev5 := cellOf hb5.heap rfl
    obtain ⟨a5, c5, rfl⟩ := row_form hb5.row
    clear hb5
    go_wp2_with (first
      | (go_at_call 58; refine (rbsign HB.out ⟨1, s.es.length, now, []⟩ HC.out hq).mono ?_; rintro e w3 ⟨rfl, h3⟩
         obtain ⟨g, hg⟩ : ∃ g, g = signR q (s.k, textR ⟨1, s.es.length, now, []⟩) := ⟨_, rfl⟩
         rw [← hg]
         have HG := Lib.hid hg
         have hR := h3.turn.boxed
         have d0 : w3.cell? ⟨P, 0, none⟩ = some (.int .i64 0) := cellOf hR rfl
         have d1 : w3.cell? ⟨P, 1, none⟩ = some (.string ⟨#[]⟩) := cellOf hR rfl
         have d2 : w3.cell? ⟨P, 2, none⟩ = some (.int .i64 0) := cellOf hR rfl
         have e0 := frozenOf hR 0
         have e1 := frozenOf hR 1
         have e2 := frozenOf hR 2
         have H3 := Lib.hid h3
         unfold sgV
         clear hg hR h3))
    obtain ⟨hR, hF⟩ := sg_end H3.out (.int .i64 g.1) (.string (S g.2.1)) (.int .i64 g.2.2)
    generalize (((w3.setCell ⟨P, 0, none⟩ (.int .i64 g.1)).setCell ⟨P, 1, none⟩ (.string (S g.2.1))).setCell ⟨P, 2, none⟩ (.int .i64 g.2.2)) = w4 at *
    have k0 : w4.cell? ⟨P, 0, none⟩ = some (.int .i64 g.1) := cellOf hR rfl
    have k1 : w4.cell? ⟨P, 1, none⟩ = some (.string (S g.2.1)) := cellOf hR rfl
    have k2 : w4.cell? ⟨P, 2, none⟩ = some (.int .i64 g.2.2) := cellOf hR rfl
    refine bodyPost_ret (v := .tuple #[sgV g, .int .i64 0]) (by simp [results, Tryd.results37, go_sem, k0, k1, k2]; rfl) rfl ⟨by rw [HG.out], ?_⟩
    exact hF
theorem rbhead {W w : World} {B R : Nat} {s : BS} {q : List Sd} {U : Thing} (h : Has W w ((RBookT B R s q).sep U)) (now : Int) (hs : s.ok) (hq : q.length ≤ 1000000) :
    Calls Tryd.prog 37 #[.pointer (some ⟨B, 0, none⟩), .int .i64 now] w fun e w' => e = .returned (.tuple #[sgV (sgO q (hdO s now)), .int .i64 (hdE s now)]) ∧ Has W w' ((RBookT B R (hdS s now) (qO q (hdO s now))).sep U) := by
  by_cases hx : now < 0 ∨ 1073741824 < now
  · obtain ⟨h1, h2, h3⟩ := hd_arg (s := s) hx
    rw [h1, h2, h3]
    exact rbhead_arg h now hx
  · by_cases h2 : now < s.t ∨ (now = s.t ∧ (s.es.length : Int) ≠ s.n)
    · obtain ⟨h3, h4, h5⟩ := hd_state hx h2
      rw [h3, h4, h5]
      exact rbhead_state h now (by omega) (by omega) h2
    · obtain ⟨h3, h4, h5⟩ := hd_ok hx h2
      rw [h3, h4, h5]
      exact rbhead_ok h now (by omega) (by omega) h2 hs hq
end Go.Proofs.YtailbappdfbjoaaDoor
