/-
  Contracts: package claim: Right, Text.
-/
import Derived.Test.YtapdabebiinnnaaDoorCa
namespace Go.Proofs.YtapdabebiinnnaaDoor
open Go.RowKit

set_option maxHeartbeats 1000000 in
set_option maxRecDepth 100000 in
theorem right_any (c : C) (w : World) (hc : c.fits) :
    Calls Tryd.prog 40 #[c.v] w fun e w' => e = .returned (.bool (okB c)) ∧ Fr w w' := by
  have HI := Lib.hid (okB_iff c)
  have hs := hc.2.2.2
  have hN := lim_ge c.k
  have hN2 := limN_le c.k
  have hT2 := limT_le c.k
  have hS2 := limS_le c.k
  obtain ⟨k, n, t, s⟩ := c
  have HA := Lib.hid (CAt.new w ⟨k, n, t, s⟩)
  simp only at hs hN hN2 hT2 hS2
  obtain ⟨o, ho⟩ : ∃ o, o = okB ⟨k, n, t, s⟩ := ⟨_, rfl⟩
  rw [← ho] at HI ⊢
  have HO := Lib.hid ho
  clear ho hc
  have HL := Lib.hid (limits_any k)
  unfold C.v
  unfold limV at HL
  simp only
  have HI1 := Lib.hid (show o = true ↔ 0 ≤ n ∧ n ≤ limN k ∧ 0 ≤ t ∧ t ≤ limT k ∧ (s.length : Int) ≤ limS k ∧ (k ≠ 0 ∨ (key s).isSome = true) from HI.out)
  clear HI HO
  generalize limN k = a at *
  generalize limT k = b at *
  generalize limS k = d at *
  go_enter Tryd.func40, Tryd.ntmps40
  go_wp2_with fail
  refine (HL.out _).mono ?_
  rintro e w1 ⟨rfl, hf1⟩
  have hA1 := HA.out.fr (hf1.trans (Fr.alloc _ (.cells #[.int .i64 a, .int .i64 b, .int .i64 d] 114)))
  have hf2 := (Fr.alloc w (.cells #[.int .i64 k, .int .i64 n, .int .i64 t, .string (S s)] 32)).trans (hf1.trans (Fr.alloc _ (.cells #[.int .i64 a, .int .i64 b, .int .i64 d] 114)))
  have HF := Lib.hid hf2
  obtain ⟨c0, c1, c2, c3⟩ := hA1
  simp only at c0 c1 c2 c3
  clear hf1 hf2 HA HL
  by_cases hn : 0 ≤ n ∧ n ≤ a
  · by_cases ht : 0 ≤ t ∧ t ≤ b
    · by_cases hl : (s.length : Int) ≤ d
      · by_cases hk : k = 0
        · subst hk
          obtain ⟨y, hy⟩ : ∃ y, y = key s := ⟨_, rfl⟩
          rw [← hy] at HI1
          have HY := Lib.hid hy
          have ho : o = y.isSome := by
            rw [Bool.eq_iff_iff, HI1.out]
            exact ⟨fun h => by rcases h.2.2.2.2.2 with h | h; exact absurd rfl h; exact h, fun h => ⟨hn.1, hn.2, ht.1, ht.2, hl, .inr h⟩⟩
          clear hy HI1
          subst ho
          have hs2 : s.length ≤ 9223372036854775807 := by omega
          go_wp2_with fail
          refine (upTo_yes n a _ hn.1 hn.2).mono ?_
          rintro e w3 ⟨rfl, rfl⟩
          go_wp2_with fail
          refine (upTo_yes t b _ ht.1 ht.2).mono ?_
          rintro e w3 ⟨rfl, rfl⟩
          go_wp2_with fail
          refine (key_any s _ hs2).mono ?_
          rw [← HY.out]
          unfold keyV
          rintro e w4 ⟨rfl, hf4⟩
          cases y
          · go_wp2_with fail
            go_ret
            exact ⟨rfl, HF.out.trans hf4⟩
          · go_wp2_with fail
            go_ret
            exact ⟨rfl, HF.out.trans hf4⟩
        · have hb : (k != 0) = true := bne_iff_ne.2 hk
          have ho : o = true := HI1.out.2 ⟨hn.1, hn.2, ht.1, ht.2, hl, .inl hk⟩
          subst ho
          clear HI1 hk
          go_wp2_with fail
          refine (upTo_yes n a _ hn.1 hn.2).mono ?_
          rintro e w3 ⟨rfl, rfl⟩
          go_wp2_with fail
          refine (upTo_yes t b _ ht.1 ht.2).mono ?_
          rintro e w3 ⟨rfl, rfl⟩
          go_wp2_with fail
          go_ret
          exact ⟨rfl, HF.out⟩
      · have ho : o = false := by cases o with | false => rfl | true => exact absurd (HI1.out.1 rfl).2.2.2.2.1 hl
        subst ho
        clear HI1
        go_wp2_with fail
        refine (upTo_yes n a _ hn.1 hn.2).mono ?_
        rintro e w3 ⟨rfl, rfl⟩
        go_wp2_with fail
        refine (upTo_yes t b _ ht.1 ht.2).mono ?_
        rintro e w3 ⟨rfl, rfl⟩
        go_wp2_with fail
        go_ret
        exact ⟨rfl, HF.out⟩
    · have ho : o = false := by cases o with | false => rfl | true => exact absurd ⟨(HI1.out.1 rfl).2.2.1, (HI1.out.1 rfl).2.2.2.1⟩ ht
      subst ho
      clear HI1
      go_wp2_with fail
      refine (upTo_yes n a _ hn.1 hn.2).mono ?_
      rintro e w3 ⟨rfl, rfl⟩
      go_wp2_with fail
      refine (upTo_no t b _ (by omega)).mono ?_
      rintro e w3 ⟨rfl, rfl⟩
      go_wp2_with fail
      go_ret
      exact ⟨rfl, HF.out⟩
  · have ho : o = false := by cases o with | false => rfl | true => exact absurd ⟨(HI1.out.1 rfl).1, (HI1.out.1 rfl).2.1⟩ hn
    subst ho
    go_wp2_with (go_at_call 60; refine (upTo_no n a _ (by omega)).mono ?_; rintro e w3 ⟨rfl, rfl⟩)
    go_ret
    exact ⟨rfl, HF.out⟩

/-! ### Text -/
theorem run_concat (w : World) (l m : Txt) (h : l.length + m.length ≤ 9223372036854775807) : (Op.stringOp .add (S l) (S m)).run Tryd.prog w = .ok (.string (S (l ++ m))) w := by
  rw [run_string_add_sum w (S l) (S m) (show (S l).size + (S m).size ≤ 9223372036854775807 from h), S_append]
set_option maxRecDepth 100000 in
theorem ret_bool {a b : Bool} (h : a = b) : Ending.returned (.bool a) = .returned (.bool b) := by rw [h]
set_option maxHeartbeats 1000000 in
theorem textC_any (c : C) (w : World) (hc : c.fits) (ht : Tab w) :
    Calls Tryd.prog 69 #[c.v] w fun e w' => e = .returned (.string (S (textR c))) ∧ Fr w w' := by
  have HR := Lib.hid (fun w' => right_any c w' hc)
  have HA := Lib.hid (CAt.new w c)
  have HB := Lib.hid (ok_bounds (c := c))
  have HX := Lib.hid (show textR c = if okB c then textC c else [] from rfl)
  have HD := Lib.hid (show textC c = (Wm.numE 59).f c.k ++ (Wm.numE 59).f c.n ++ (Wm.numE 59).f c.t ++ Wm.textE.f c.s from rfl)
  have HT := Lib.hid ht
  clear ht
  obtain ⟨c0, c1, c2, c3⟩ := HA.out
  have hv : c.v = .agg #[.int .i64 c.k, .int .i64 c.n, .int .i64 c.t, .string (S c.s)] := rfl
  obtain ⟨o, ho⟩ : ∃ o, o = okB c := ⟨_, rfl⟩
  rw [← ho] at HR HX HB
  rw [hv] at HR ⊢
  obtain ⟨x, hx⟩ : ∃ x, x = textR c := ⟨_, rfl⟩
  rw [← hx] at HX ⊢
  clear hx hv ho
  go_enter Tryd.func69, Tryd.ntmps69
  go_wp2_with (go_at_call 40; refine (HR.out _).mono ?_; rintro e w1 ⟨rfl, hf1⟩; cases o)
  · go_wp2_with fail
    go_ret
    exact ⟨by rw [HX.out]; rfl, (Fr.alloc _ _).trans hf1⟩
  · have hF : Fr w w1 := (Fr.alloc _ _).trans hf1
    have HCT : Hid (∀ w', Fr w1 w' → w'.cell? ⟨w.heap.size, 0, none⟩ = some (.int .i64 c.k) ∧ w'.cell? ⟨w.heap.size, 1, none⟩ = some (.int .i64 c.n) ∧ w'.cell? ⟨w.heap.size, 2, none⟩ = some (.int .i64 c.t) ∧ w'.cell? ⟨w.heap.size, 3, none⟩ = some (.string (S c.s))) := Lib.hid fun w' h => HA.out.fr (hf1.trans h)
    have HT1 : Hid (∀ w', Fr w1 w' → Tab w') := Lib.hid fun w' h => HT.out.fr (hF.trans h)
    have HF := Lib.hid hF
    have hb := HB.out (by first | trivial | rfl)
    have hk := hb.1
    have hk2 := hb.2.1
    have hn := hb.2.2.1
    have hn2 := hb.2.2.2.1
    have ht := hb.2.2.2.2.1
    have ht2 := hb.2.2.2.2.2.1
    have hs := hb.2.2.2.2.2.2
    have HL : Hid (∀ z : Int, 0 ≤ z → z ≤ 1073741824 → ((Wm.numE 59).f z).length ≤ 30) := Lib.hid fun z h0 h1 => by
      have := Lib.itoa_length_le z (by omega) (by omega)
      rw [Wm.numE_f]; simp only [List.length_append, List.length_cons, List.length_nil]; omega
    have hlk := HL.out c.k (by omega) (by omega)
    have hln := HL.out c.n (by omega) (by omega)
    have hlt := HL.out c.t (by omega) (by omega)
    have hls : (Wm.textE.f c.s).length ≤ 30000 := by
      have := Lib.itoa_length_le (c.s.length : Int) (by omega) (by omega)
      rw [Wm.textE_f]; simp only [List.length_append, List.length_cons, List.length_nil]; omega
    obtain ⟨d0, d1, d2, d3⟩ := HCT.out w1 (Fr.refl w1)
    have HCD := Lib.hid (HCT.out _ (Fr.drew w1))
    have HX1 := Lib.hid (show x = textC c from HX.out)
    rw [HD.out] at HX1
    clear hf1 hF hb HA c0 c1 c2 c3 HR HB HL HX HT HD hc
    generalize w.heap.size = B at *
    obtain ⟨fk, hfk⟩ : ∃ f, (Wm.numE 59).f c.k = f := ⟨_, rfl⟩
    obtain ⟨fn, hfn⟩ : ∃ f, (Wm.numE 59).f c.n = f := ⟨_, rfl⟩
    obtain ⟨ft, hft⟩ : ∃ f, (Wm.numE 59).f c.t = f := ⟨_, rfl⟩
    obtain ⟨fs, hfs⟩ : ∃ f, Wm.textE.f c.s = f := ⟨_, rfl⟩
    rw [hfk, hfn, hft, hfs] at HX1
    rw [hfk] at hlk
    rw [hfn] at hln
    rw [hft] at hlt
    rw [hfs] at hls
    have HE := Lib.hid (And.intro hfk (And.intro hfn (And.intro hft hfs)))
    clear hfk hfn hft hfs
    have a1 : ∀ w', (Op.stringOp .add (S fk) (S fn)).run Tryd.prog w' = .ok (.string (S (fk ++ fn))) w' := fun w' => run_concat w' _ _ (by omega)
    have a2 : ∀ w', (Op.stringOp .add (S (fk ++ fn)) (S ft)).run Tryd.prog w' = .ok (.string (S (fk ++ (fn ++ ft)))) w' := fun w' => by rw [run_concat w' _ _ (by rw [List.length_append]; omega), List.append_assoc]
    have a3 : ∀ w', (Op.stringOp .add (S (fk ++ (fn ++ ft))) (S fs)).run Tryd.prog w' = .ok (.string (S (fk ++ (fn ++ (ft ++ fs))))) w' := fun w' => by rw [run_concat w' _ _ (by rw [List.length_append, List.length_append]; omega), List.append_assoc, List.append_assoc]
    rw [List.append_assoc, List.append_assoc] at HX1
    go_upto_region 3 with fail
    go_region_held3 (fun w' => w'.cell? ⟨B, 0, none⟩ = some (.int .i64 c.k) ∧ w'.cell? ⟨B, 1, none⟩ = some (.int .i64 c.n) ∧ w'.cell? ⟨B, 2, none⟩ = some (.int .i64 c.t) ∧ w'.cell? ⟨B, 3, none⟩ = some (.string (S c.s)))
      (first | exact HCD.out | exact HC4.out | exact HC3.out | exact HC2.out | exact HC1.out)
      (first
        | (go_at_call 20; refine (text_any c.s _ (by omega) (HT1.out _ (Fr.drew w1 |>.trans F3.out))).mono ?_; rw [HE.out.2.2.2]; rintro e w5 ⟨rfl, f5⟩; have F4 := Lib.hid (F3.out.trans f5); have HC4 := Lib.hid (HCT.out _ ((Fr.drew w1).trans F4.out)); clear f5)
        | (go_at_call 43; refine (num_any c.t _ (by omega) (by omega) (HT1.out _ (Fr.drew w1 |>.trans F2.out))).mono ?_; rw [HE.out.2.2.1]; rintro e w4 ⟨rfl, f4⟩; have F3 := Lib.hid (F2.out.trans f4); have HC3 := Lib.hid (HCT.out _ ((Fr.drew w1).trans F3.out)); clear f4)
        | (go_at_call 43; refine (num_any c.n _ (by omega) (by omega) (HT1.out _ (Fr.drew w1 |>.trans F1.out))).mono ?_; rw [HE.out.2.1]; rintro e w3 ⟨rfl, f3⟩; have F2 := Lib.hid (F1.out.trans f3); have HC2 := Lib.hid (HCT.out _ ((Fr.drew w1).trans F2.out)); clear f3)
        | (go_at_call 43; refine (num_any c.k _ (by omega) (by omega) (HT1.out _ (Fr.drew w1))).mono ?_; rw [HE.out.1]; rintro e w2 ⟨rfl, f2⟩; have F1 := Lib.hid f2; have HC1 := Lib.hid (HCT.out _ ((Fr.drew w1).trans F1.out)); clear f2))
    all_goals (go_wp2_with fail; go_ret; exact ⟨by rw [HX1.out]; rfl, HF.out.trans ((Fr.drew w1).trans F4.out)⟩)
end Go.Proofs.YtapdabebiinnnaaDoor
