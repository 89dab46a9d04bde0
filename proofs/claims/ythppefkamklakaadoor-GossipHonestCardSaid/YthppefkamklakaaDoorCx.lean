/-
  Contracts: package claim: Contradict.
-/
import Derived.Test.YthppefkamklakaaDoorRdr2
import Derived.Test.YthppefkamklakaaDoorCm
import Derived.Deep.RegionHeld3
import Derived.Deep.QuietTactic
import Derived.BigQuiet
namespace Go.Proofs.YthppefkamklakaaDoor
open Go.RowKit

theorem Fr.withB {w w1 w2 : World} {b : Nat} (h : Fr w w1) (k : FrB b w1 w2) (hb : w.heap.size ≤ b) : Fr w w2 :=
  ⟨k.os.trans h.os, k.tape.trans h.tape, k.output.trans h.output, Nat.le_trans h.size k.size, fun i hi _ => by
    rw [k.block i (Nat.lt_of_lt_of_le hi h.size) (by simp; omega)]
    exact h.block i hi (by simp)⟩
set_option maxRecDepth 100000 in
theorem num59' : ¬ Wm.isNum 59 := by decide
theorem rNum_det {b : Nat} {r : Txt} {f : Bool} {w : World} (h : Rd 114 b r f w) (hr : r.length ≤ 9223372036854775807) :
    Calls Tryd.prog 42 #[.pointer (some ⟨b, 0, none⟩)] w fun e w' => e = .returned (.int .i64 (rdV (Wm.numE 59) 0 r)) ∧ Rd 114 b (rdR (Wm.numE 59) r) (rdF (Wm.numE 59) r f) w' ∧ FrB b w w' := by
  refine (rNum_any h hr).mono ?_
  rintro e w' ⟨hg, hf⟩
  rcases hg with ⟨v, r', hv, rfl, rfl, hrd⟩ | ⟨hn, rfl, hrd⟩
  · obtain ⟨e1, e2, e3⟩ := rd_good 0 (Wm.numE_pf num59') (r := r') hv f
    rw [e1, e2, e3]; exact ⟨rfl, hrd, hf⟩
  · obtain ⟨e1, e2, e3⟩ := rd_bad (E := Wm.numE 59) 0 hn f
    rw [e1, e2, e3]; exact ⟨rfl, hrd, hf⟩
set_option maxRecDepth 100000 in
theorem rText_det {b : Nat} {r : Txt} {f : Bool} {w : World} (h : Rd 114 b r f w) (hr : r.length ≤ 9223372036854775807) :
    Calls Tryd.prog 43 #[.pointer (some ⟨b, 0, none⟩)] w fun e w' => e = .returned (.string (S (rdV Wm.textE [] r))) ∧ Rd 114 b (rdR Wm.textE r) (rdF Wm.textE r f) w' ∧ FrB b w w' := by
  refine (rText_any h hr).mono ?_
  rintro e w' ⟨hg, hf⟩
  rcases hg with ⟨v, r', hv, rfl, rfl, hrd⟩ | ⟨hn, rfl, hrd⟩
  · obtain ⟨e1, e2, e3⟩ := rd_good [] Wm.textE_pf (r := r') hv f
    rw [e1, e2, e3]; exact ⟨rfl, hrd, hf⟩
  · obtain ⟨e1, e2, e3⟩ := rd_bad (E := Wm.textE) [] hn f
    rw [e1, e2, e3]; exact ⟨rfl, hrd, hf⟩

/-! ### Key -/
def keyV : Option Txt → Value
  | none => .tuple #[.string (S []), .bool false]
  | some k => .tuple #[.string (S k), .bool true]
set_option maxHeartbeats 400000 in
set_option maxRecDepth 100000 in
theorem key_any (s : Txt) (w : World) (hs : s.length ≤ 9223372036854775807) :
    Calls Tryd.prog 37 #[.string (S s)] w fun e w' => e = .returned (keyV (key s)) ∧ Fr w w' := by
  go_enter Tryd.func37, Tryd.ntmps37
  go_wp2_with fail
  refine (wopen_any s _).mono ?_
  rintro e w1 ⟨rfl, hrd1, hf1⟩
  have hb := Nat.le_refl w.heap.size
  generalize hB : w.heap.size = B at hrd1
  have HB := Lib.hid hB
  rw [hB] at hb
  go_wp2_with fail
  refine (rText_any hrd1 hs).mono ?_
  rintro e w2 ⟨hg, hf2⟩
  have hf := hf1.withB hf2 (Nat.le_of_eq HB.out)
  clear hf1 hf2 hrd1
  rcases hg with ⟨v, q, hv, he, rfl, hrd⟩ | ⟨hn, rfl, hrd⟩
  · have HK := Lib.hid (show key s = some v by rw [he]; exact key_eq q hv)
    clear hv he
    go_wp2_with fail
    refine (left_any hrd).mono ?_
    rintro e w3 ⟨rfl, rfl⟩
    by_cases hq : q = []
    · subst hq
      go_wp2_with fail
      refine (done_any hrd).mono ?_
      rintro e w3 ⟨rfl, rfl⟩
      go_wp2_with fail
      go_ret2
      exact ⟨by rw [HK.out]; rfl, hf⟩
    · have hq0 : 0 < q.length := List.length_pos_iff.2 hq
      have HQ := Lib.hid hq
      clear hq
      go_wp2_with fail
      go_ret2
      exact ⟨by rw [HK.out]; rfl, hf⟩
  · have HK := Lib.hid (show key s = none from key_none hn)
    clear hn
    go_wp2_with fail
    refine (left_any hrd).mono ?_
    rintro e w3 ⟨rfl, rfl⟩
    go_wp2_with fail
    refine (done_any hrd).mono ?_
    rintro e w3 ⟨rfl, rfl⟩
    go_wp2_with fail
    go_ret2
    exact ⟨by rw [HK.out]; rfl, hf⟩

/-! ### isUpTo, limitsOf -/
theorem upTo_yes (n m : Int) (w : World) (h0 : 0 ≤ n) (h1 : n ≤ m) :
    Calls Tryd.prog 60 #[.int .i64 n, .int .i64 m] w fun e w' => e = .returned (.bool true) ∧ w' = w := by
  go_enter Tryd.func60, Tryd.ntmps60
  go_wp2
  go_ret
  exact ⟨rfl, rfl⟩
set_option maxRecDepth 100000 in
theorem upTo_no (n m : Int) (w : World) (h : n < 0 ∨ m < n) :
    Calls Tryd.prog 60 #[.int .i64 n, .int .i64 m] w fun e w' => e = .returned (.bool false) ∧ w' = w := by
  by_cases h0 : 0 ≤ n
  · have h1 : ¬ (n ≤ m) := by omega
    go_enter Tryd.func60, Tryd.ntmps60
    go_wp2
    go_ret
    exact ⟨rfl, rfl⟩
  · go_enter Tryd.func60, Tryd.ntmps60
    go_wp2
    go_ret
    exact ⟨rfl, rfl⟩
/-- The limits, as a value. -/
def limV (a b d : Int) : Value := .agg #[.int .i64 a, .int .i64 b, .int .i64 d]
set_option maxHeartbeats 1000000 in
set_option maxRecDepth 100000 in
theorem limits_any (k : Int) (w : World) :
    Calls Tryd.prog 59 #[.int .i64 k] w fun e w' => e = .returned (limV (limN k) (limT k) (limS k)) ∧ Fr w w' := by
  by_cases k0 : k = 0
  · subst k0
    go_enter Tryd.func59, Tryd.ntmps59
    go_wp2
    refine bodyPost_ret (v := limV 199999 0 20000) (by simp [results, Tryd.results59, go_sem]; rfl) rfl ⟨rfl, ?_⟩
    exact Fr.alloc w _
  by_cases k1 : k = 1
  · subst k1
    go_enter Tryd.func59, Tryd.ntmps59
    go_wp2
    refine bodyPost_ret (v := limV 200000 1073741824 0) (by simp [results, Tryd.results59, go_sem]; rfl) rfl ⟨rfl, ?_⟩
    exact Fr.alloc w _
  by_cases k2 : k = 2
  · subst k2
    go_enter Tryd.func59, Tryd.ntmps59
    go_wp2
    refine bodyPost_ret (v := limV 200000 0 20000) (by simp [results, Tryd.results59, go_sem]; rfl) rfl ⟨rfl, ?_⟩
    exact Fr.alloc w _
  by_cases k3 : k = 3
  · subst k3
    go_enter Tryd.func59, Tryd.ntmps59
    go_wp2
    refine bodyPost_ret (v := limV 1073741824 0 20000) (by simp [results, Tryd.results59, go_sem]; rfl) rfl ⟨rfl, ?_⟩
    exact Fr.alloc w _
  by_cases k4 : k = 4
  · subst k4
    go_enter Tryd.func59, Tryd.ntmps59
    go_wp2
    refine bodyPost_ret (v := limV 1073741824 1073741824 20000) (by simp [results, Tryd.results59, go_sem]; rfl) rfl ⟨rfl, ?_⟩
    exact Fr.alloc w _
  have b0 : (k == 0) = false := beq_eq_false_iff_ne.2 k0
  have b1 : (k == 1) = false := beq_eq_false_iff_ne.2 k1
  have b2 : (k == 2) = false := beq_eq_false_iff_ne.2 k2
  have b3 : (k == 3) = false := beq_eq_false_iff_ne.2 k3
  have b4 : (k == 4) = false := beq_eq_false_iff_ne.2 k4
  have HN : Hid (limN k = -1 ∧ limT k = -1 ∧ limS k = -1) := Lib.hid (by unfold limN limT limS; simp [k0, k1, k2, k3, k4])
  rw [HN.out.1, HN.out.2.1, HN.out.2.2]
  clear k0 k1 k2 k3 k4
  go_enter Tryd.func59, Tryd.ntmps59
  go_wp2
  refine bodyPost_ret (v := limV (-1) (-1) (-1)) (by simp [results, Tryd.results59, go_sem]; rfl) rfl ⟨rfl, ?_⟩
  exact Fr.alloc w _

/-! ### Claims in memory -/
/-- A claim, as a value. -/
def C.v (c : C) : Value := .agg #[.int .i64 c.k, .int .i64 c.n, .int .i64 c.t, .string (S c.s)]
/-- A claim lies in block B. -/
def CAt (w : World) (B : Nat) (c : C) : Prop := w.cell? ⟨B, 0, none⟩ = some (.int .i64 c.k) ∧ w.cell? ⟨B, 1, none⟩ = some (.int .i64 c.n) ∧ w.cell? ⟨B, 2, none⟩ = some (.int .i64 c.t) ∧ w.cell? ⟨B, 3, none⟩ = some (.string (S c.s))
theorem CAt.fr {w w' : World} {B : Nat} {c : C} (h : CAt w B c) (hf : Fr w w') : CAt w' B c := ⟨hf.cell h.1, hf.cell h.2.1, hf.cell h.2.2.1, hf.cell h.2.2.2⟩
theorem CAt.new (w : World) (c : C) : CAt (w.alloc (.cells #[.int .i64 c.k, .int .i64 c.n, .int .i64 c.t, .string (S c.s)] 68)) w.heap.size c := by
  have h := heap_alloc_new w (.cells #[.int .i64 c.k, .int .i64 c.n, .int .i64 c.t, .string (S c.s)] 68)
  refine ⟨?_, ?_, ?_, ?_⟩ <;> (rw [Lib.cell_of_heap h]; rfl)
end Go.Proofs.YthppefkamklakaaDoor
namespace Go.Proofs.YthppefkamklakaaDoor
open Go.RowKit

set_option maxHeartbeats 1000000 in
set_option maxRecDepth 100000 in
theorem right_any (c : C) (w : World) (hc : c.fits) :
    Calls Tryd.prog 45 #[c.v] w fun e w' => e = .returned (.bool (okB c)) ∧ Fr w w' := by
  have HI := Lib.hid (okB_iff c)
  have hs := hc.2.2.2
  have hN := lim_ge c.k
  have hN2 := limN_le c.k
  have hT2 := limT_le c.k
  have hS2 := limS_le c.k
  obtain ⟨k, n, t, s⟩ := c
  have HA := Lib.hid (CAt.new w ⟨k, n, t, s⟩)
  simp only at hs hN hN2 hT2 hS2
  obtain ⟨o, ho⟩ : ∃ o, o = okB ⟨k, n, t, s⟩ := ⟨_, rfl⟩
  rw [← ho] at HI ⊢
  have HO := Lib.hid ho
  clear ho hc
  have HL := Lib.hid (limits_any k)
  unfold C.v
  unfold limV at HL
  simp only
  have HI1 := Lib.hid (show o = true ↔ 0 ≤ n ∧ n ≤ limN k ∧ 0 ≤ t ∧ t ≤ limT k ∧ (s.length : Int) ≤ limS k ∧ (k ≠ 0 ∨ (key s).isSome = true) from HI.out)
  clear HI HO
  generalize limN k = a at *
  generalize limT k = b at *
  generalize limS k = d at *
  go_enter Tryd.func45, Tryd.ntmps45
  go_wp2_with fail
  refine (HL.out _).mono ?_
  rintro e w1 ⟨rfl, hf1⟩
  have hA1 := HA.out.fr (hf1.trans (Fr.alloc _ (.cells #[.int .i64 a, .int .i64 b, .int .i64 d] 117)))
  have hf2 := (Fr.alloc w (.cells #[.int .i64 k, .int .i64 n, .int .i64 t, .string (S s)] 68)).trans (hf1.trans (Fr.alloc _ (.cells #[.int .i64 a, .int .i64 b, .int .i64 d] 117)))
  have HF := Lib.hid hf2
  obtain ⟨c0, c1, c2, c3⟩ := hA1
  simp only at c0 c1 c2 c3
  clear hf1 hf2 HA HL
  by_cases hn : 0 ≤ n ∧ n ≤ a
  · by_cases ht : 0 ≤ t ∧ t ≤ b
    · by_cases hl : (s.length : Int) ≤ d
      · by_cases hk : k = 0
        · subst hk
          obtain ⟨y, hy⟩ : ∃ y, y = key s := ⟨_, rfl⟩
          rw [← hy] at HI1
          have HY := Lib.hid hy
          have ho : o = y.isSome := by
            rw [Bool.eq_iff_iff, HI1.out]
            exact ⟨fun h => by rcases h.2.2.2.2.2 with h | h; exact absurd rfl h; exact h, fun h => ⟨hn.1, hn.2, ht.1, ht.2, hl, .inr h⟩⟩
          clear hy HI1
          subst ho
          have hs2 : s.length ≤ 9223372036854775807 := by omega
          go_wp2_with fail
          refine (upTo_yes n a _ hn.1 hn.2).mono ?_
          rintro e w3 ⟨rfl, rfl⟩
          go_wp2_with fail
          refine (upTo_yes t b _ ht.1 ht.2).mono ?_
          rintro e w3 ⟨rfl, rfl⟩
          go_wp2_with fail
          refine (key_any s _ hs2).mono ?_
          rw [← HY.out]
          unfold keyV
          rintro e w4 ⟨rfl, hf4⟩
          cases y
          · go_wp2_with fail
            go_ret
            exact ⟨rfl, HF.out.trans hf4⟩
          · go_wp2_with fail
            go_ret
            exact ⟨rfl, HF.out.trans hf4⟩
        · have hb : (k != 0) = true := bne_iff_ne.2 hk
          have ho : o = true := HI1.out.2 ⟨hn.1, hn.2, ht.1, ht.2, hl, .inl hk⟩
          subst ho
          clear HI1 hk
          go_wp2_with fail
          refine (upTo_yes n a _ hn.1 hn.2).mono ?_
          rintro e w3 ⟨rfl, rfl⟩
          go_wp2_with fail
          refine (upTo_yes t b _ ht.1 ht.2).mono ?_
          rintro e w3 ⟨rfl, rfl⟩
          go_wp2_with fail
          go_ret
          exact ⟨rfl, HF.out⟩
      · have ho : o = false := by cases o with | false => rfl | true => exact absurd (HI1.out.1 rfl).2.2.2.2.1 hl
        subst ho
        clear HI1
        go_wp2_with fail
        refine (upTo_yes n a _ hn.1 hn.2).mono ?_
        rintro e w3 ⟨rfl, rfl⟩
        go_wp2_with fail
        refine (upTo_yes t b _ ht.1 ht.2).mono ?_
        rintro e w3 ⟨rfl, rfl⟩
        go_wp2_with fail
        go_ret
        exact ⟨rfl, HF.out⟩
    · have ho : o = false := by cases o with | false => rfl | true => exact absurd ⟨(HI1.out.1 rfl).2.2.1, (HI1.out.1 rfl).2.2.2.1⟩ ht
      subst ho
      clear HI1
      go_wp2_with fail
      refine (upTo_yes n a _ hn.1 hn.2).mono ?_
      rintro e w3 ⟨rfl, rfl⟩
      go_wp2_with fail
      refine (upTo_no t b _ (by omega)).mono ?_
      rintro e w3 ⟨rfl, rfl⟩
      go_wp2_with fail
      go_ret
      exact ⟨rfl, HF.out⟩
  · have ho : o = false := by cases o with | false => rfl | true => exact absurd ⟨(HI1.out.1 rfl).1, (HI1.out.1 rfl).2.1⟩ hn
    subst ho
    go_wp2_with (go_at_call 60; refine (upTo_no n a _ (by omega)).mono ?_; rintro e w3 ⟨rfl, rfl⟩)
    go_ret
    exact ⟨rfl, HF.out⟩

/-! ### Text -/
theorem run_concat (w : World) (l m : Txt) (h : l.length + m.length ≤ 9223372036854775807) : (Op.stringOp .add (S l) (S m)).run Tryd.prog w = .ok (.string (S (l ++ m))) w := by
  rw [run_string_add_sum w (S l) (S m) (show (S l).size + (S m).size ≤ 9223372036854775807 from h), S_append]
set_option maxRecDepth 100000 in
theorem ret_bool {a b : Bool} (h : a = b) : Ending.returned (.bool a) = .returned (.bool b) := by rw [h]
set_option maxHeartbeats 1000000 in
theorem textC_any (c : C) (w : World) (hc : c.fits) (ht : Tab w) :
    Calls Tryd.prog 56 #[c.v] w fun e w' => e = .returned (.string (S (textR c))) ∧ Fr w w' := by
  have HR := Lib.hid (fun w' => right_any c w' hc)
  have HA := Lib.hid (CAt.new w c)
  have HB := Lib.hid (ok_bounds (c := c))
  have HX := Lib.hid (show textR c = if okB c then textC c else [] from rfl)
  have HD := Lib.hid (show textC c = (Wm.numE 59).f c.k ++ (Wm.numE 59).f c.n ++ (Wm.numE 59).f c.t ++ Wm.textE.f c.s from rfl)
  have HT := Lib.hid ht
  clear ht
  obtain ⟨c0, c1, c2, c3⟩ := HA.out
  have hv : c.v = .agg #[.int .i64 c.k, .int .i64 c.n, .int .i64 c.t, .string (S c.s)] := rfl
  obtain ⟨o, ho⟩ : ∃ o, o = okB c := ⟨_, rfl⟩
  rw [← ho] at HR HX HB
  rw [hv] at HR ⊢
  obtain ⟨x, hx⟩ : ∃ x, x = textR c := ⟨_, rfl⟩
  rw [← hx] at HX ⊢
  clear hx hv ho
  go_enter Tryd.func56, Tryd.ntmps56
  go_wp2_with (go_at_call 45; refine (HR.out _).mono ?_; rintro e w1 ⟨rfl, hf1⟩; cases o)
  · go_wp2_with fail
    go_ret
    exact ⟨by rw [HX.out]; rfl, (Fr.alloc _ _).trans hf1⟩
  · have hF : Fr w w1 := (Fr.alloc _ _).trans hf1
    have HCT : Hid (∀ w', Fr w1 w' → w'.cell? ⟨w.heap.size, 0, none⟩ = some (.int .i64 c.k) ∧ w'.cell? ⟨w.heap.size, 1, none⟩ = some (.int .i64 c.n) ∧ w'.cell? ⟨w.heap.size, 2, none⟩ = some (.int .i64 c.t) ∧ w'.cell? ⟨w.heap.size, 3, none⟩ = some (.string (S c.s))) := Lib.hid fun w' h => HA.out.fr (hf1.trans h)
    have HT1 : Hid (∀ w', Fr w1 w' → Tab w') := Lib.hid fun w' h => HT.out.fr (hF.trans h)
    have HF := Lib.hid hF
    have hb := HB.out (by first | trivial | rfl)
    have hk := hb.1
    have hk2 := hb.2.1
    have hn := hb.2.2.1
    have hn2 := hb.2.2.2.1
    have ht := hb.2.2.2.2.1
    have ht2 := hb.2.2.2.2.2.1
    have hs := hb.2.2.2.2.2.2
    have HL : Hid (∀ z : Int, 0 ≤ z → z ≤ 1073741824 → ((Wm.numE 59).f z).length ≤ 30) := Lib.hid fun z h0 h1 => by
      have := Lib.itoa_length_le z (by omega) (by omega)
      rw [Wm.numE_f]; simp only [List.length_append, List.length_cons, List.length_nil]; omega
    have hlk := HL.out c.k (by omega) (by omega)
    have hln := HL.out c.n (by omega) (by omega)
    have hlt := HL.out c.t (by omega) (by omega)
    have hls : (Wm.textE.f c.s).length ≤ 30000 := by
      have := Lib.itoa_length_le (c.s.length : Int) (by omega) (by omega)
      rw [Wm.textE_f]; simp only [List.length_append, List.length_cons, List.length_nil]; omega
    obtain ⟨d0, d1, d2, d3⟩ := HCT.out w1 (Fr.refl w1)
    have HCD := Lib.hid (HCT.out _ (Fr.drew w1))
    have HX1 := Lib.hid (show x = textC c from HX.out)
    rw [HD.out] at HX1
    clear hf1 hF hb HA c0 c1 c2 c3 HR HB HL HX HT HD hc
    generalize w.heap.size = B at *
    obtain ⟨fk, hfk⟩ : ∃ f, (Wm.numE 59).f c.k = f := ⟨_, rfl⟩
    obtain ⟨fn, hfn⟩ : ∃ f, (Wm.numE 59).f c.n = f := ⟨_, rfl⟩
    obtain ⟨ft, hft⟩ : ∃ f, (Wm.numE 59).f c.t = f := ⟨_, rfl⟩
    obtain ⟨fs, hfs⟩ : ∃ f, Wm.textE.f c.s = f := ⟨_, rfl⟩
    rw [hfk, hfn, hft, hfs] at HX1
    rw [hfk] at hlk
    rw [hfn] at hln
    rw [hft] at hlt
    rw [hfs] at hls
    have HE := Lib.hid (And.intro hfk (And.intro hfn (And.intro hft hfs)))
    clear hfk hfn hft hfs
    have a1 : ∀ w', (Op.stringOp .add (S fk) (S fn)).run Tryd.prog w' = .ok (.string (S (fk ++ fn))) w' := fun w' => run_concat w' _ _ (by omega)
    have a2 : ∀ w', (Op.stringOp .add (S (fk ++ fn)) (S ft)).run Tryd.prog w' = .ok (.string (S (fk ++ (fn ++ ft)))) w' := fun w' => by rw [run_concat w' _ _ (by rw [List.length_append]; omega), List.append_assoc]
    have a3 : ∀ w', (Op.stringOp .add (S (fk ++ (fn ++ ft))) (S fs)).run Tryd.prog w' = .ok (.string (S (fk ++ (fn ++ (ft ++ fs))))) w' := fun w' => by rw [run_concat w' _ _ (by rw [List.length_append, List.length_append]; omega), List.append_assoc, List.append_assoc]
    rw [List.append_assoc, List.append_assoc] at HX1
    go_upto_region 3 with fail
    go_region_held3 (fun w' => w'.cell? ⟨B, 0, none⟩ = some (.int .i64 c.k) ∧ w'.cell? ⟨B, 1, none⟩ = some (.int .i64 c.n) ∧ w'.cell? ⟨B, 2, none⟩ = some (.int .i64 c.t) ∧ w'.cell? ⟨B, 3, none⟩ = some (.string (S c.s)))
      (first | exact HCD.out | exact HC4.out | exact HC3.out | exact HC2.out | exact HC1.out)
      (first
        | (go_at_call 20; refine (text_any c.s _ (by omega) (HT1.out _ (Fr.drew w1 |>.trans F3.out))).mono ?_; rw [HE.out.2.2.2]; rintro e w5 ⟨rfl, f5⟩; have F4 := Lib.hid (F3.out.trans f5); have HC4 := Lib.hid (HCT.out _ ((Fr.drew w1).trans F4.out)); clear f5)
        | (go_at_call 68; refine (num_any c.t _ (by omega) (by omega) (HT1.out _ (Fr.drew w1 |>.trans F2.out))).mono ?_; rw [HE.out.2.2.1]; rintro e w4 ⟨rfl, f4⟩; have F3 := Lib.hid (F2.out.trans f4); have HC3 := Lib.hid (HCT.out _ ((Fr.drew w1).trans F3.out)); clear f4)
        | (go_at_call 68; refine (num_any c.n _ (by omega) (by omega) (HT1.out _ (Fr.drew w1 |>.trans F1.out))).mono ?_; rw [HE.out.2.1]; rintro e w3 ⟨rfl, f3⟩; have F2 := Lib.hid (F1.out.trans f3); have HC2 := Lib.hid (HCT.out _ ((Fr.drew w1).trans F2.out)); clear f3)
        | (go_at_call 68; refine (num_any c.k _ (by omega) (by omega) (HT1.out _ (Fr.drew w1))).mono ?_; rw [HE.out.1]; rintro e w2 ⟨rfl, f2⟩; have F1 := Lib.hid f2; have HC1 := Lib.hid (HCT.out _ ((Fr.drew w1).trans F1.out)); clear f2))
    all_goals (go_wp2_with fail; go_ret; exact ⟨by rw [HX1.out]; rfl, HF.out.trans ((Fr.drew w1).trans F4.out)⟩)
end Go.Proofs.YthppefkamklakaaDoor
namespace Go.Proofs.YthppefkamklakaaDoor
open Go.RowKit

/-- A claim that is stored into a new block. -/
theorem put4 {w w' : World} {R : Nat} {z0 z1 z2 z3 : Value} (h : w'.heap[R]? = some (.cells #[z0, z1, z2, z3] 68 (0, 0))) (hf : Fr w w') (hR : w.heap.size ≤ R) (c : C) :
    CAt ((((w'.setCell ⟨R, 0, none⟩ (.int .i64 c.k)).setCell ⟨R, 1, none⟩ (.int .i64 c.n)).setCell ⟨R, 2, none⟩ (.int .i64 c.t)).setCell ⟨R, 3, none⟩ (.string (S c.s))) R c ∧
    Fr w ((((w'.setCell ⟨R, 0, none⟩ (.int .i64 c.k)).setCell ⟨R, 1, none⟩ (.int .i64 c.n)).setCell ⟨R, 2, none⟩ (.int .i64 c.t)).setCell ⟨R, 3, none⟩ (.string (S c.s))) := by
  refine ⟨?_, (((hf.withB (FrB.set R 0 _ _) hR).withB (FrB.set R 1 _ _) hR).withB (FrB.set R 2 _ _) hR).withB (FrB.set R 3 _ _) hR⟩
  have h0 := heap_setCell_same w' R 0 _ _ (.int .i64 c.k) h
  have h1 := heap_setCell_same _ R 1 _ _ (.int .i64 c.n) h0
  have h2 := heap_setCell_same _ R 2 _ _ (.int .i64 c.t) h1
  have h3 := heap_setCell_same _ R 3 _ _ (.string (S c.s)) h2
  refine ⟨?_, ?_, ?_, ?_⟩ <;> (rw [Lib.cell_of_heap h3]; rfl)
def readV : Option C → Value
  | none => .tuple #[zeroC.v, .int .i64 2]
  | some c => .tuple #[c.v, .int .i64 0]
theorem rdC_fits (s : Txt) (hs : s.length ≤ 9223372036854775807) : (rdC s).fits := by
  have h1 := rd_len (Wm.numE 59) s
  have h2 := rd_len (Wm.numE 59) (rd1 s)
  have h3 := rd_len (Wm.numE 59) (rd2 s)
  have h4 := rd_txt (rd3 s)
  exact ⟨(rd_in s).int, (rd_in (rd1 s)).int, (rd_in (rd2 s)).int, by
    show (rdV Wm.textE [] (rd3 s)).length ≤ _
    unfold rd3 rd2 rd1 at *
    omega⟩
set_option maxHeartbeats 1000000 in
set_option maxRecDepth 100000 in
theorem read_any (s : Txt) (w : World) (hs : s.length ≤ 9223372036854775807) :
    Calls Tryd.prog 25 #[.string (S s)] w fun e w' => e = .returned (readV (readC s)) ∧ Fr w w' := by
  have h1 : (rd1 s).length ≤ s.length := rd_len _ _
  have h2 : (rd2 s).length ≤ (rd1 s).length := rd_len _ _
  have h3 : (rd3 s).length ≤ (rd2 s).length := rd_len _ _
  have HQ := Lib.hid (show readC s = if rdD s && okB (rdC s) then some (rdC s) else none from rfl)
  have HR := Lib.hid (fun w' => right_any (rdC s) w' (rdC_fits s hs))
  have HV : Hid ((rdC s).v = .agg #[.int .i64 (rdV (Wm.numE 59) 0 s), .int .i64 (rdV (Wm.numE 59) 0 (rd1 s)), .int .i64 (rdV (Wm.numE 59) 0 (rd2 s)), .string (S (rdV Wm.textE [] (rd3 s)))]) := Lib.hid rfl
  obtain ⟨d, hd⟩ : ∃ d, d = rdD s := ⟨_, rfl⟩
  obtain ⟨o, ho⟩ : ∃ o, o = okB (rdC s) := ⟨_, rfl⟩
  obtain ⟨c, hc⟩ : ∃ c, c = rdC s := ⟨_, rfl⟩
  rw [← hd, ← ho, ← hc] at HQ
  rw [← ho, ← hc] at HR
  rw [← hc] at HV
  have HDD := Lib.hid hd
  clear hd ho hc
  go_enter Tryd.func25, Tryd.ntmps25
  go_wp2_with fail
  have hF0 := Fr.alloc w (.cells #[.int .i64 0, .int .i64 0, .int .i64 0, .string ⟨#[]⟩] 68)
  have hR0 := heap_alloc_new w (.cells #[.int .i64 0, .int .i64 0, .int .i64 0, .string ⟨#[]⟩] 68)
  have hRB : w.heap.size < (w.alloc (.cells #[.int .i64 0, .int .i64 0, .int .i64 0, .string ⟨#[]⟩] 68)).heap.size := by simp
  generalize w.alloc (.cells #[.int .i64 0, .int .i64 0, .int .i64 0, .string ⟨#[]⟩] 68) = w0 at *
  obtain ⟨R, hR⟩ : ∃ R, R = w.heap.size := ⟨_, rfl⟩
  have HRR := Lib.hid hR
  rw [← hR] at hR0 hRB ⊢
  clear hR
  refine (wopen_any s _).mono ?_
  rintro e w1 ⟨rfl, hrd1, hf1⟩
  have hG1 : FrB w0.heap.size w0 w1 := hf1.frb _
  generalize w0.heap.size = B at *
  clear hf1
  go_wp2_with fail
  refine (rNum_det hrd1 (by omega)).mono ?_
  rintro e w2 ⟨rfl, hrd2, hf2⟩
  have hG2 := hG1.trans hf2
  clear hG1 hf2 hrd1
  replace hrd2 : Rd 114 B (rd1 s) (rdF (Wm.numE 59) s false) w2 := hrd2
  go_wp2_with fail
  refine (rNum_det hrd2 (show (rd1 s).length ≤ _ by omega)).mono ?_
  rintro e w3 ⟨rfl, hrd3, hf3⟩
  have hG3 := hG2.trans hf3
  clear hG2 hf3 hrd2
  replace hrd3 : Rd 114 B (rd2 s) (rdF (Wm.numE 59) (rd1 s) (rdF (Wm.numE 59) s false)) w3 := hrd3
  go_wp2_with fail
  refine (rNum_det hrd3 (show (rd2 s).length ≤ _ by omega)).mono ?_
  rintro e w4 ⟨rfl, hrd4, hf4⟩
  have hG4 := hG3.trans hf4
  clear hG3 hf4 hrd3
  replace hrd4 : Rd 114 B (rd3 s) (rdF (Wm.numE 59) (rd2 s) (rdF (Wm.numE 59) (rd1 s) (rdF (Wm.numE 59) s false))) w4 := hrd4
  go_wp2_with fail
  refine (rText_det hrd4 (show (rd3 s).length ≤ _ by omega)).mono ?_
  rintro e w5 ⟨rfl, hrd5, hf5⟩
  have hG5 := hG4.trans hf5
  clear hG4 hf5 hrd4
  have hrd5 : Rd 114 B (rd4 s) (rdB s) w5 := hrd5
  have HDE : Hid ((!rdB s && decide (rd4 s = [])) = d) := Lib.hid HDD.out.symm
  have hR5 : w5.heap[R]? = some (.cells #[.int .i64 0, .int .i64 0, .int .i64 0, .string ⟨#[]⟩] 68 (0, 0)) := by
    rw [hG5.block R (Array.getElem?_eq_some_iff.1 hR0).1 (by simp; omega)]; exact hR0
  have hF5 : Fr w w5 := hF0.withB hG5 (by rw [← HRR.out]; omega)
  rw [HV.out] at HR
  have HCV : Hid (∀ r, readV (some r) = .tuple #[r.v, .int .i64 0]) := Lib.hid fun _ => rfl
  clear HDD h1 h2 h3 hF0 hR0 hG5
  generalize rdB s = f at *
  generalize rd4 s = q at *
  generalize rdV Wm.textE [] (rd3 s) = x4 at *
  generalize rdV (Wm.numE 59) 0 (rd2 s) = x3 at *
  generalize rdV (Wm.numE 59) 0 (rd1 s) = x2 at *
  generalize rdV (Wm.numE 59) 0 s = x1 at *
  have hA := (CAt.new w5 ⟨x1, x2, x3, x4⟩)
  simp only at hA
  have hrd6 := hrd5.fr (Fr.alloc w5 (.cells #[.int .i64 x1, .int .i64 x2, .int .i64 x3, .string (S x4)] 68))
  have hR6 := (Fr.alloc w5 (.cells #[.int .i64 x1, .int .i64 x2, .int .i64 x3, .string (S x4)] 68)).heap hR5
  have hF6 := hF5.trans (Fr.alloc w5 (.cells #[.int .i64 x1, .int .i64 x2, .int .i64 x3, .string (S x4)] 68))
  have HDN := Lib.hid (done_any hrd6)
  rw [HDE.out] at HDN
  have hRw : w.heap.size ≤ R := by rw [← HRR.out]; omega
  clear hrd5 hrd6 hR5 hF5 hs
  go_wp2_with fail
  generalize w5.alloc (.cells #[.int .i64 x1, .int .i64 x2, .int .i64 x3, .string (S x4)] 68) = w6 at *
  generalize w5.heap.size = A at *
  obtain ⟨e0, e1, e2, e3⟩ := hA
  refine HDN.out.mono ?_
  rintro e w7 ⟨rfl, rfl⟩
  cases d with
  | false =>
    have r0 := Lib.cell_of_heap hR6 (j := 0)
    have r1 := Lib.cell_of_heap hR6 (j := 1)
    have r2 := Lib.cell_of_heap hR6 (j := 2)
    have r3 := Lib.cell_of_heap hR6 (j := 3)
    have f0 : w7.frozen? ⟨R, 0, none⟩ = false := Lib.frozen_of_heap hR6 0
    have f1 : w7.frozen? ⟨R, 1, none⟩ = false := Lib.frozen_of_heap hR6 1
    have f2 : w7.frozen? ⟨R, 2, none⟩ = false := Lib.frozen_of_heap hR6 2
    have f3 : w7.frozen? ⟨R, 3, none⟩ = false := Lib.frozen_of_heap hR6 3
    have HP := Lib.hid (put4 hR6 hF6 hRw zeroC)
    clear hR6 hF6 hRw
    go_wp2_with fail
    obtain ⟨w9, hw9⟩ : ∃ w9, w9 = (((w7.setCell ⟨R, 0, none⟩ (.int .i64 0)).setCell ⟨R, 1, none⟩ (.int .i64 0)).setCell ⟨R, 2, none⟩ (.int .i64 0)).setCell ⟨R, 3, none⟩ (.string ⟨#[]⟩) := ⟨_, rfl⟩
    have hP : CAt w9 R zeroC ∧ Fr w w9 := by rw [hw9]; exact HP.out
    obtain ⟨⟨g0, g1, g2, g3⟩, hF9⟩ := hP
    rw [← hw9]
    refine bodyPost_ret (v := readV none) (by simp [results, Tryd.results25, go_sem, g0, g1, g2, g3]; rfl) rfl ⟨?_, hF9⟩
    rw [HQ.out]; rfl
  | true =>
    go_wp2_with fail
    refine (HR.out _).mono ?_
    rintro e w8 ⟨rfl, hf8⟩
    have hF8 := hF6.trans hf8
    have hR8 := hf8.heap hR6
    replace e0 := hf8.cell e0
    replace e1 := hf8.cell e1
    replace e2 := hf8.cell e2
    replace e3 := hf8.cell e3
    have r0 := Lib.cell_of_heap hR8 (j := 0)
    have r1 := Lib.cell_of_heap hR8 (j := 1)
    have r2 := Lib.cell_of_heap hR8 (j := 2)
    have r3 := Lib.cell_of_heap hR8 (j := 3)
    have f0 : w8.frozen? ⟨R, 0, none⟩ = false := Lib.frozen_of_heap hR8 0
    have f1 : w8.frozen? ⟨R, 1, none⟩ = false := Lib.frozen_of_heap hR8 1
    have f2 : w8.frozen? ⟨R, 2, none⟩ = false := Lib.frozen_of_heap hR8 2
    have f3 : w8.frozen? ⟨R, 3, none⟩ = false := Lib.frozen_of_heap hR8 3
    have HPz := Lib.hid (put4 hR8 hF8 hRw zeroC)
    have HPc := Lib.hid (put4 hR8 hF8 hRw ⟨x1, x2, x3, x4⟩)
    clear hR6 hF6 hRw hf8 hR8 hF8 HR
    cases o with
    | false =>
      go_wp2_with fail
      obtain ⟨w9, hw9⟩ : ∃ w9, w9 = (((w8.setCell ⟨R, 0, none⟩ (.int .i64 0)).setCell ⟨R, 1, none⟩ (.int .i64 0)).setCell ⟨R, 2, none⟩ (.int .i64 0)).setCell ⟨R, 3, none⟩ (.string ⟨#[]⟩) := ⟨_, rfl⟩
      have hP : CAt w9 R zeroC ∧ Fr w w9 := by rw [hw9]; exact HPz.out
      obtain ⟨⟨g0, g1, g2, g3⟩, hF9⟩ := hP
      rw [← hw9]
      refine bodyPost_ret (v := readV none) (by simp [results, Tryd.results25, go_sem, g0, g1, g2, g3]; rfl) rfl ⟨?_, hF9⟩
      rw [HQ.out]; rfl
    | true =>
      go_wp2_with fail
      obtain ⟨w9, hw9⟩ : ∃ w9, w9 = (((w8.setCell ⟨R, 0, none⟩ (.int .i64 x1)).setCell ⟨R, 1, none⟩ (.int .i64 x2)).setCell ⟨R, 2, none⟩ (.int .i64 x3)).setCell ⟨R, 3, none⟩ (.string (S x4)) := ⟨_, rfl⟩
      have hP : CAt w9 R ⟨x1, x2, x3, x4⟩ ∧ Fr w w9 := by rw [hw9]; exact HPc.out
      obtain ⟨⟨g0, g1, g2, g3⟩, hF9⟩ := hP
      rw [← hw9]
      refine bodyPost_ret (v := readV (some c)) (by rw [HCV.out, HV.out]; simp [results, Tryd.results25, go_sem, g0, g1, g2, g3]) rfl ⟨?_, hF9⟩
      rw [HQ.out]; rfl
end Go.Proofs.YthppefkamklakaaDoor
namespace Go.Proofs.YthppefkamklakaaDoor
open Go.RowKit

/-- The two boxes of two claims. -/
theorem boxes (w : World) (a b : C) :
    ∃ w', w' = (w.alloc (.cells #[.int .i64 a.k, .int .i64 a.n, .int .i64 a.t, .string (S a.s)] 68)).alloc (.cells #[.int .i64 b.k, .int .i64 b.n, .int .i64 b.t, .string (S b.s)] 68) ∧
      CAt w' w.heap.size a ∧ CAt w' (w.heap.size + 1) b ∧ Fr w w' := by
  refine ⟨_, rfl, (CAt.new w a).fr (Fr.alloc _ _), ?_, (Fr.alloc _ _).trans (Fr.alloc _ _)⟩
  have := CAt.new (w.alloc (.cells #[.int .i64 a.k, .int .i64 a.n, .int .i64 a.t, .string (S a.s)] 68)) b
  simpa using this

theorem bne_dec {α : Type} [BEq α] [LawfulBEq α] [DecidableEq α] (x y : α) : (x != y) = decide (x ≠ y) := by
  by_cases h : x = y <;> simp [h]
theorem beq_dec {α : Type} [BEq α] [LawfulBEq α] [DecidableEq α] (x y : α) : (x == y) = decide (x = y) := by
  by_cases h : x = y <;> simp [h]

set_option maxHeartbeats 1000000 in
set_option maxRecDepth 100000 in
theorem denies_any (a b : C) (w : World) (hb : b.fits) (hk : b.k = 0 → (key b.s).isSome = true) :
    Calls Tryd.prog 46 #[a.v, b.v] w fun e w' => e = .returned (.bool (den a b)) ∧ Fr w w' := by
  have HD := Lib.hid (show den a b = (decide (a.k = 2) && decide (b.k = 0) && decide (b.n < a.n) && decide (key b.s = some a.s)) from rfl)
  obtain ⟨w1, hw1, hA, hB, hF⟩ := boxes w a b
  obtain ⟨c0, c1, c2, c3⟩ := hA
  obtain ⟨d0, d1, d2, d3⟩ := hB
  have hs := hb.2.2.2
  obtain ⟨k, n, t, s⟩ := a
  obtain ⟨k', n', t', s'⟩ := b
  simp only at HD c0 c1 c2 c3 d0 d1 d2 d3 hs hk hw1
  unfold C.v
  simp only
  generalize den ⟨k, n, t, s⟩ ⟨k', n', t', s'⟩ = x at *
  have HF := Lib.hid hF
  clear hF hb
  by_cases h1 : k = 2
  · subst h1
    by_cases h2 : k' = 0
    · subst h2
      by_cases h3 : n' < n
      · have hy := hk rfl
        obtain ⟨y, hy'⟩ := Option.isSome_iff_exists.1 hy
        have hx : x = decide (y = s) := by rw [HD.out, hy']; simp [h3]
        subst hx
        have HY := Lib.hid hy'
        have hs2 : s'.length ≤ 9223372036854775807 := by omega
        clear hk hy hy' HD
        go_enter Tryd.func46, Tryd.ntmps46
        go_wp2_with fail
        rw [← hw1]
        refine (key_any s' _ hs2).mono ?_
        rw [HY.out]
        unfold keyV
        rintro e w2 ⟨rfl, hf2⟩
        replace c3 := hf2.cell c3
        go_wp2_with fail
        go_ret
        exact ⟨ret_bool (beq_dec y s), HF.out.trans hf2⟩
      · have hx : x = false := by rw [HD.out]; simp [h3]
        subst hx
        have h3' : n ≤ n' := by omega
        clear hk
        go_enter Tryd.func46, Tryd.ntmps46
        go_wp2_with fail
        go_ret
        exact ⟨rfl, by rw [← hw1]; exact HF.out⟩
    · have hx : x = false := by rw [HD.out]; simp [h2]
      subst hx
      have h2' : (k' != 0) = true := bne_iff_ne.2 h2
      clear hk
      go_enter Tryd.func46, Tryd.ntmps46
      go_wp2_with fail
      go_ret
      exact ⟨rfl, by rw [← hw1]; exact HF.out⟩
  · have hx : x = false := by rw [HD.out]; simp [h1]
    subst hx
    have h1' : (k != 2) = true := bne_iff_ne.2 h1
    clear hk
    go_enter Tryd.func46, Tryd.ntmps46
    go_wp2_with fail
    go_ret
    exact ⟨rfl, by rw [← hw1]; exact HF.out⟩

theorem szs_eq (a b : C) (h : a.t ≤ b.t) : szs a b = (decide (b.n < a.n) || (decide (a.t = b.t) && decide (a.n ≠ b.n))) := by
  unfold szs
  rw [Bool.eq_iff_iff]
  simp only [Bool.or_eq_true, Bool.and_eq_true, decide_eq_true_eq]
  omega
set_option maxHeartbeats 1000000 in
set_option maxRecDepth 100000 in
theorem sizes_any (a b : C) (w : World) :
    Calls Tryd.prog 47 #[a.v, b.v] w fun e w' => e = .returned (.bool (szs a b)) ∧ Fr w w' := by
  obtain ⟨w1, hw1, hA, hB, hF⟩ := boxes w a b
  by_cases hlt : b.t < a.t
  · have HD := Lib.hid (szs_eq b a (by omega))
    have HC := Lib.hid (szs_comm a b)
    obtain ⟨w2, hw2, hA2, hB2, hF2⟩ := boxes w b a
    have HA2 := Lib.hid hA2
    have HB2 := Lib.hid hB2
    have HF2 := Lib.hid hF2
    have HW2 := Lib.hid hw2
    clear hA2 hB2 hF2 hw2 hA hB hF
    generalize szs a b = x at *
    generalize szs b a = y at *
    obtain ⟨k, n, t, s⟩ := a
    obtain ⟨k', n', t', s'⟩ := b
    simp only at HD HA2 HB2 HF2 HW2 hlt
    unfold C.v
    simp only
    clear hw1
    go_enter Tryd.func47, Tryd.ntmps47
    go_upto_region 3 with fail
    rw [← HW2.out]
    obtain ⟨c0, c1, c2, c3⟩ := HA2.out
    obtain ⟨d0, d1, d2, d3⟩ := HB2.out
    simp only at c0 c1 c2 c3 d0 d1 d2 d3
    have h2 : (t' == t) = false := beq_eq_false_iff_ne.2 (by omega)
    by_cases h1 : n < n'
    · have hx : x = true := by rw [HC.out, HD.out]; simp [h1]
      subst hx
      go_wp2_with fail
      go_ret
      exact ⟨rfl, HF2.out⟩
    · have hx : x = false := by rw [HC.out, HD.out, ← beq_dec, h2]; simp [h1]
      subst hx
      go_wp2_with fail
      go_ret
      exact ⟨rfl, HF2.out⟩
  · have hle : a.t ≤ b.t := by omega
    have HD := Lib.hid (szs_eq a b hle)
    obtain ⟨c0, c1, c2, c3⟩ := hA
    obtain ⟨d0, d1, d2, d3⟩ := hB
    have HF := Lib.hid hF
    clear hF
    generalize szs a b = x at *
    obtain ⟨k, n, t, s⟩ := a
    obtain ⟨k', n', t', s'⟩ := b
    simp only at HD c0 c1 c2 c3 d0 d1 d2 d3 hw1 hle hlt
    unfold C.v
    simp only
    by_cases h1 : n' < n
    · have hx : x = true := by rw [HD.out]; simp [h1]
      subst hx
      go_enter Tryd.func47, Tryd.ntmps47
      go_wp2_with fail
      go_ret
      exact ⟨rfl, by rw [← hw1]; exact HF.out⟩
    · by_cases h2 : t = t'
      · have hx : x = (n != n') := by rw [HD.out, bne_dec]; simp [h1, h2]
        subst hx
        subst h2
        go_enter Tryd.func47, Tryd.ntmps47
        go_wp2_with fail
        go_ret
        exact ⟨rfl, by rw [← hw1]; exact HF.out⟩
      · have hx : x = false := by rw [HD.out]; simp [h1, h2]
        subst hx
        have h2' : (t == t') = false := beq_eq_false_iff_ne.2 h2
        go_enter Tryd.func47, Tryd.ntmps47
        go_wp2_with fail
        go_ret
        exact ⟨rfl, by rw [← hw1]; exact HF.out⟩
end Go.Proofs.YthppefkamklakaaDoor
namespace Go.Proofs.YthppefkamklakaaDoor
open Go.RowKit

theorem ok_key {c : C} (h : okB c = true) : c.k = 0 → (key c.s).isSome = true := fun hk => by
  rcases ((okB_iff c).1 h).2.2.2.2.2 with h1 | h1
  · exact absurd hk h1
  · exact h1
set_option maxHeartbeats 4000000 in
set_option maxRecDepth 100000 in
theorem contra_any (a b : C) (w : World) (ha : a.fits) (hb : b.fits) :
    Calls Tryd.prog 26 #[a.v, b.v] w fun e w' => e = .returned (.bool (contra a b)) ∧ Fr w w' := by
  have HD := Lib.hid (show contra a b = (okB a && okB b && (if a.k = b.k then alike a b else den a b || den b a)) from rfl)
  have HRa := Lib.hid (fun w' => right_any a w' ha)
  have HRb := Lib.hid (fun w' => right_any b w' hb)
  have HNa := Lib.hid (fun w' (h : okB b = true) => denies_any a b w' hb (ok_key h))
  have HNb := Lib.hid (fun w' (h : okB a = true) => denies_any b a w' ha (ok_key h))
  have HS := Lib.hid (fun w' => sizes_any a b w')
  have HBa := Lib.hid (ok_bounds (c := a))
  have HAL := Lib.hid (show alike a b = (if a.k = 0 then decide (a.n = b.n ∧ a.s ≠ b.s) else if a.k = 1 then szs a b else if a.k = 3 then decide (a.s = b.s ∧ a.n ≠ b.n) else if a.k = 4 then decide (a.n = b.n ∧ a.t = b.t ∧ a.s ≠ b.s) else false) from rfl)
  obtain ⟨w1, hw1, hA, hB, hF⟩ := boxes w a b
  have HF := Lib.hid hF
  clear hF ha hb
  generalize contra a b = x at *
  generalize alike a b = l at *
  generalize szs a b = z at *
  generalize den a b = d1 at *
  generalize den b a = d2 at *
  generalize okB a = oa at *
  generalize okB b = ob at *
  obtain ⟨k, n, t, s⟩ := a
  obtain ⟨k', n', t', s'⟩ := b
  unfold C.v at HRa HRb HNa HNb HS
  simp only at HD HAL HBa hw1 HRa HRb HNa HNb HS
  unfold CAt at hA hB
  simp only at hA hB
  unfold C.v
  simp only
  go_enter Tryd.func26, Tryd.ntmps26
  go_wp2_with fail
  rw [← hw1]
  refine (HRa.out _).mono ?_
  rintro e w2 ⟨rfl, hf2⟩
  have hF2 := HF.out.trans hf2
  replace hA : _ ∧ _ ∧ _ ∧ _ := ⟨hf2.cell hA.1, hf2.cell hA.2.1, hf2.cell hA.2.2.1, hf2.cell hA.2.2.2⟩
  replace hB : _ ∧ _ ∧ _ ∧ _ := ⟨hf2.cell hB.1, hf2.cell hB.2.1, hf2.cell hB.2.2.1, hf2.cell hB.2.2.2⟩
  clear hw1 HF HRa hf2
  generalize w.heap.size = A at *
  cases oa with
  | false =>
    have hx : x = false := by rw [HD.out]; rfl
    subst hx
    go_wp2_with fail
    go_ret
    exact ⟨rfl, hF2⟩
  | true =>
    obtain ⟨e0, e1, e2, e3⟩ := hB
    go_wp2_with fail
    refine (HRb.out _).mono ?_
    rintro e w3 ⟨rfl, hf3⟩
    have hF3 := hF2.trans hf3
    replace hA : _ ∧ _ ∧ _ ∧ _ := ⟨hf3.cell hA.1, hf3.cell hA.2.1, hf3.cell hA.2.2.1, hf3.cell hA.2.2.2⟩
    replace e0 := hf3.cell e0
    replace e1 := hf3.cell e1
    replace e2 := hf3.cell e2
    replace e3 := hf3.cell e3
    clear HRb hf3 hF2
    cases ob with
    | false =>
      have hx : x = false := by rw [HD.out]; rfl
      subst hx
      go_wp2_with fail
      go_ret
      exact ⟨rfl, hF3⟩
    | true =>
      obtain ⟨c0, c1, c2, c3⟩ := hA
      have hk0 := (HBa.out (by first | trivial | rfl)).1
      have hk4 := (HBa.out (by first | trivial | rfl)).2.1
      have HX : Hid (x = if k = k' then l else d1 || d2) := Lib.hid (by rw [HD.out]; rfl)
      clear HD HBa
      by_cases hk : k = k'
      · subst hk
        have hx : x = l := by rw [HX.out]; simp
        subst hx
        clear HX HNa HNb
        have hcase : k = 0 ∨ k = 1 ∨ k = 2 ∨ k = 3 ∨ k = 4 := by omega
        clear hk0 hk4
        rcases hcase with rfl | rfl | rfl | rfl | rfl
        · by_cases hn : n = n'
          · subst hn
            have hl : x = (s != s') := by rw [HAL.out, bne_dec]; simp
            subst hl
            go_wp2_with fail
            go_ret
            exact ⟨rfl, hF3⟩
          · have hl : x = false := by rw [HAL.out]; simp [hn]
            subst hl
            have hn' : (n == n') = false := beq_eq_false_iff_ne.2 hn
            go_wp2_with fail
            go_ret
            exact ⟨rfl, hF3⟩
        · have hl : x = z := by rw [HAL.out]; simp
          subst hl
          go_wp2_with fail
          refine (HS.out _).mono ?_
          rintro e w4 ⟨rfl, hf4⟩
          go_wp2_with fail
          go_ret
          exact ⟨rfl, hF3.trans hf4⟩
        · have hl : x = false := by rw [HAL.out]; simp
          subst hl
          go_wp2_with fail
          go_ret
          exact ⟨rfl, hF3⟩
        · by_cases hs : s = s'
          · subst hs
            have hl : x = (n != n') := by rw [HAL.out, bne_dec]; simp
            subst hl
            go_wp2_with fail
            go_ret
            exact ⟨rfl, hF3⟩
          · have hl : x = false := by rw [HAL.out]; simp [hs]
            subst hl
            have hs' : (s == s') = false := beq_eq_false_iff_ne.2 hs
            go_wp2_with fail
            go_ret
            exact ⟨rfl, hF3⟩
        · by_cases hn : n = n'
          · subst hn
            by_cases ht : t = t'
            · subst ht
              have hl : x = (s != s') := by rw [HAL.out, bne_dec]; simp
              subst hl
              go_wp2_with fail
              go_ret
              exact ⟨rfl, hF3⟩
            · have hl : x = false := by rw [HAL.out]; simp [ht]
              subst hl
              have ht' : (t == t') = false := beq_eq_false_iff_ne.2 ht
              go_wp2_with fail
              go_ret
              exact ⟨rfl, hF3⟩
          · have hl : x = false := by rw [HAL.out]; simp [hn]
            subst hl
            have hn' : (n == n') = false := beq_eq_false_iff_ne.2 hn
            go_wp2_with fail
            go_ret
            exact ⟨rfl, hF3⟩
      · have hk' : (k != k') = true := bne_iff_ne.2 hk
        have hx : x = (d1 || d2) := by rw [HX.out, if_neg hk]
        subst hx
        clear HX hk HAL HS
        go_wp2_with fail
        refine (HNa.out _ (by first | trivial | rfl)).mono ?_
        rintro e w4 ⟨rfl, hf4⟩
        have hF4 := hF3.trans hf4
        replace c0 := hf4.cell c0
        replace c1 := hf4.cell c1
        replace c2 := hf4.cell c2
        replace c3 := hf4.cell c3
        replace e0 := hf4.cell e0
        replace e1 := hf4.cell e1
        replace e2 := hf4.cell e2
        replace e3 := hf4.cell e3
        cases d1 with
        | true =>
          go_wp2_with fail
          go_ret
          exact ⟨rfl, hF4⟩
        | false =>
          go_wp2_with fail
          refine (HNb.out _ (by first | trivial | rfl)).mono ?_
          rintro e w5 ⟨rfl, hf5⟩
          go_wp2_with fail
          go_ret
          exact ⟨rfl, hF4.trans hf5⟩
end Go.Proofs.YthppefkamklakaaDoor
