/-
  The reference's disk: Write, Sync, Truncate, Lose, Start.
-/
import Derived.Test.YtpjoekjakjajcaaFq
namespace Go.Proofs.Ytpjoekjakjajcaa
open Go.RowKit

theorem mayE_down {r : FS} (h : r.down = true) (f : Int) : mayE r f = 8 := by unfold mayE; rw [if_pos h]
theorem mayE_no {r : FS} (h : r.down = false) {f : Int} (hf : ¬ isF f) : mayE r f = 1 := by unfold mayE; rw [if_neg (by rw [h]; decide), if_neg hf]
theorem mayE_ok {r : FS} (h : r.down = false) {f : Int} (hf : isF f) : mayE r f = 0 := by unfold mayE; rw [if_neg (by rw [h]; decide), if_pos hf]
set_option maxHeartbeats 2000000 in
set_option maxRecDepth 100000 in
theorem rwrite_any {w : World} {O : Nat → Prop} {B : Nat} {r : FS} {s : RS} (h : (RfT B r).at_ w O) (hr : RR r s) (hI : Inv s) (f a : Int) (l : Txt) (hl : l.length ≤ 1000) (hq : r.q.length ≤ 50000) (hkl : r.keep.length ≤ 17592186044416) (hA : r.armed ≤ 9223372036854775807) :
    Calls Try.prog 38 #[.pointer (some ⟨B, 0, none⟩), .int .i64 f, .int .i64 a, .string (S l)] w fun e w' => e = .returned (.int .i64 (writeFE r f a l)) ∧ (RfT B (writeF r f a l)).step O w w' := by
  have HCM := Lib.hid (rcomes_any h hr hI f a l hl hq hkl hA)
  obtain ⟨hr1, hI1⟩ := rr_comes hr hI f a l
  have hq1 := comes_qlen r f a l
  unfold writeF writeFE
  generalize comesF r f a l = r1 at *
  generalize comesS s f a l = s1 at *
  have HLL := Lib.hid hl
  have HR1 := Lib.hid hr1
  have HI1 := Lib.hid hI1
  have HQ1 := Lib.hid (show r1.q.length ≤ 100000 by omega)
  clear h hr hI hl hq hkl hA hq1 hI1
  by_cases hd : r1.down = true
  · have HM := Lib.hid (mayE_down hd f)
    rw [if_pos hd, if_pos (.inl hd)]
    clear hd hr1
    go_enter Try.func38, Try.ntmps38
    go_wp2_with (first
      | (go_at_call 51; refine HCM.out.mono ?_; rintro e w1 ⟨rfl, hs1⟩; obtain ⟨O1, hT1, hG1, hW1⟩ := hs1; have HT1 := Lib.hid hT1; have HG1 := Lib.hid hG1; have HW1 := Lib.hid hW1; clear hT1 hG1 hW1)
      | (go_at_call 47; refine (rmay_any HT1.out f).mono ?_; rw [HM.out]; rintro e w2 ⟨rfl, rfl⟩))
    go_ret
    exact ⟨rfl, O1, HT1.out, HG1.out, HW1.out⟩
  · have hd0 : r1.down = false := by simpa using hd
    rw [if_neg hd]
    by_cases hf : isF f
    · have HM := Lib.hid (mayE_ok hd0 hf)
      have hnf : ¬ ¬ isF f := fun e => e hf
      rw [if_neg hnf]
      by_cases ha : a < 0
      · have hv : ¬ (isF f ∧ fitsB a l.length = true) := fun e => by have := e.2; unfold fitsB at this; simp only [Bool.and_eq_true, decide_eq_true_eq] at this; omega
        rw [if_pos ha, if_pos (.inr hv)]
        clear hd hd0 hr1 hv hnf hf
        go_enter Try.func38, Try.ntmps38
        go_wp2_with (first
          | (go_at_call 51; refine HCM.out.mono ?_; rintro e w1 ⟨rfl, hs1⟩; obtain ⟨O1, hT1, hG1, hW1⟩ := hs1; have HT1 := Lib.hid hT1; have HG1 := Lib.hid hG1; have HW1 := Lib.hid hW1; clear hT1 hG1 hW1)
          | (go_at_call 47; refine (rmay_any HT1.out f).mono ?_; rw [HM.out]; rintro e w2 ⟨rfl, rfl⟩))
        go_ret
        exact ⟨rfl, O1, HT1.out, HG1.out, HW1.out⟩
      · rw [if_neg ha]
        by_cases hb : fitsB a l.length = true
        · have hv : isF f ∧ fitsB a l.length = true := ⟨hf, hb⟩
          rw [if_pos hb, if_neg (show ¬ (r1.down = true ∨ ¬ (isF f ∧ fitsB a l.length = true)) from fun e => e.elim hd (fun e => e hv))]
          have HB := Lib.hid hb
          unfold fitsB at hb
          simp only [Bool.and_eq_true, decide_eq_true_eq] at hb
          obtain ⟨⟨ha0, _⟩, ha1⟩ := hb
          obtain ⟨hf0, hf1⟩ := hf
          obtain ⟨fn, rfl⟩ : ∃ k : Nat, f = k := ⟨f.toNat, by omega⟩
          obtain ⟨an, rfl⟩ : ∃ k : Nat, a = k := ⟨a.toNat, by omega⟩
          simp only [Int.toNat_natCast]
          have HF := Lib.hid (show fn < 16 by omega)
          have HAN := Lib.hid (show an + l.length ≤ 16777216 by omega)
          have HLN := Lib.hid (rr_len HR1.out HI1.out fn (by omega)).1
          clear hd hd0 hr1 hv hnf ha1 ha0 hf0 hf1
          go_enter Try.func38, Try.ntmps38
          go_wp2_with (first
            | (go_at_call 51; refine HCM.out.mono ?_; rintro e w1 ⟨rfl, hs1⟩; obtain ⟨O1, hT1, hG1, hW1⟩ := hs1; have HT1 := Lib.hid hT1; have HG1 := Lib.hid hG1; have HW1 := Lib.hid hW1; clear hT1 hG1 hW1)
            | (go_at_call 47; refine (rmay_any HT1.out _).mono ?_; rw [HM.out]; rintro e w2 ⟨rfl, rfl⟩)
            | (go_at_call 54; refine (rfits_any _ l _ (by have := HLL.out; omega)).mono ?_; rw [HB.out]; rintro e w2 ⟨rfl, rfl⟩)
            | (go_at_call 55; refine (radd_any HT1.out fn an l HF.out HR1.out.fine HQ1.out HLN.out HAN.out).mono ?_; rintro e w3 ⟨rfl, hs3⟩; have HS3 := Lib.hid (Thing.step_trans HG1.out HW1.out hs3); clear hs3))
          go_ret
          exact ⟨rfl, HS3.out⟩
        · have hv : ¬ (isF f ∧ fitsB a l.length = true) := fun e => hb e.2
          rw [if_neg hb, if_pos (.inr hv)]
          have HB := Lib.hid (show fitsB a l.length = false by simpa using hb)
          clear hd hd0 hr1 hv hnf hf hb
          go_enter Try.func38, Try.ntmps38
          go_wp2_with (first
            | (go_at_call 51; refine HCM.out.mono ?_; rintro e w1 ⟨rfl, hs1⟩; obtain ⟨O1, hT1, hG1, hW1⟩ := hs1; have HT1 := Lib.hid hT1; have HG1 := Lib.hid hG1; have HW1 := Lib.hid hW1; clear hT1 hG1 hW1)
            | (go_at_call 47; refine (rmay_any HT1.out f).mono ?_; rw [HM.out]; rintro e w2 ⟨rfl, rfl⟩)
            | (go_at_call 54; refine (rfits_any _ l _ (by have := HLL.out; omega)).mono ?_; rw [HB.out]; rintro e w2 ⟨rfl, rfl⟩))
          go_ret
          exact ⟨rfl, O1, HT1.out, HG1.out, HW1.out⟩
    · have HM := Lib.hid (mayE_no hd0 hf)
      have hv : ¬ (isF f ∧ fitsB a l.length = true) := fun e => hf e.1
      rw [if_pos hf, if_pos (.inr hv)]
      clear hd hd0 hr1 hv hf
      go_enter Try.func38, Try.ntmps38
      go_wp2_with (first
        | (go_at_call 51; refine HCM.out.mono ?_; rintro e w1 ⟨rfl, hs1⟩; obtain ⟨O1, hT1, hG1, hW1⟩ := hs1; have HT1 := Lib.hid hT1; have HG1 := Lib.hid hG1; have HW1 := Lib.hid hW1; clear hT1 hG1 hW1)
        | (go_at_call 47; refine (rmay_any HT1.out f).mono ?_; rw [HM.out]; rintro e w2 ⟨rfl, rfl⟩))
      go_ret
      exact ⟨rfl, O1, HT1.out, HG1.out, HW1.out⟩

set_option maxHeartbeats 2000000 in
set_option maxRecDepth 100000 in
theorem rsync_any {w : World} {O : Nat → Prop} {B : Nat} {r : FS} {s : RS} (h : (RfT B r).at_ w O) (hr : RR r s) (hI : Inv s) (f : Int) (hq : r.q.length ≤ 50000) (hkl : r.keep.length ≤ 17592186044416) (hA : r.armed ≤ 9223372036854775807) (hL : r.lost ≤ 9223372036854775807) :
    Calls Try.prog 32 #[.pointer (some ⟨B, 0, none⟩), .int .i64 f] w fun e w' => e = .returned (.int .i64 (syncFE r f)) ∧ (RfT B (syncF r f)).step O w w' := by
  have HCM := Lib.hid (rcomes_any h hr hI 0 0 [] (by decide) hq hkl hA)
  obtain ⟨hr1, hI1⟩ := rr_comes hr hI 0 0 []
  have hq1 := comes_qlen r 0 0 []
  have hl1 : (comesF r 0 0 []).lost = r.lost := by
    unfold comesF
    split
    · rfl
    · split
      · rfl
      · unfold crashF
        split
        · split
          · first | rfl | exact (add_scalars _ _ _ _).2.2.2.trans rfl
          · rfl
        · split
          · first | rfl | exact (add_scalars _ _ _ _).2.2.2.trans rfl
          · rfl
  unfold syncF syncFE
  generalize comesF r 0 0 [] = r1 at *
  generalize comesS s 0 0 [] = s1 at *
  have HR1 := Lib.hid hr1
  have HI1 := Lib.hid hI1
  have HQ1 := Lib.hid (show r1.q.length ≤ 100000 by simp at hq1; omega)
  have hlb : (r1.lost : Int) ≤ 9223372036854775807 := by omega
  clear h hr hI hq hkl hA hq1 hI1 hL hl1
  by_cases hd : r1.down = true
  · have HM := Lib.hid (mayE_down hd f)
    rw [if_pos hd, if_pos hd]
    clear hd hr1
    go_enter Try.func32, Try.ntmps32
    go_wp2_with (first
      | (go_at_call 51; refine HCM.out.mono ?_; rintro e w1 ⟨rfl, hs1⟩; obtain ⟨O1, hT1, hG1, hW1⟩ := hs1; have HT1 := Lib.hid hT1; have HG1 := Lib.hid hG1; have HW1 := Lib.hid hW1; clear hT1 hG1 hW1)
      | (go_at_call 47; refine (rmay_any HT1.out f).mono ?_; rw [HM.out]; rintro e w2 ⟨rfl, rfl⟩))
    go_ret
    exact ⟨rfl, O1, HT1.out, HG1.out, HW1.out⟩
  · have hd0 : r1.down = false := by simpa using hd
    rw [if_neg hd, if_neg hd]
    by_cases hf : isF f
    · have HM := Lib.hid (mayE_ok hd0 hf)
      have hnf : ¬ ¬ isF f := fun e => e hf
      rw [if_neg hnf, if_neg hnf]
      by_cases hlo : 0 < r1.lost
      · rw [if_pos hlo, if_pos hlo]
        obtain ⟨n, hn⟩ : ∃ n, r1.lost = n + 1 := ⟨r1.lost - 1, by omega⟩
        have hnb : (n : Int) ≤ 9223372036854775806 := by omega
        have hnw : (n : Int) + 1 - 1 = (n : Int) := by omega
        have HN := Lib.hid hn
        have hn0 : (0 : Int) < (n : Int) + 1 := by omega
        clear hd hd0 hr1 hnf hf hlo hn hlb
        go_enter Try.func32, Try.ntmps32
        go_upto_region 5 with (first
          | (go_at_call 51; refine HCM.out.mono ?_; rintro e w1 ⟨rfl, hs1⟩; obtain ⟨O1, hT1, hG1, hW1⟩ := hs1; have HT1 := Lib.hid hT1; have HG1 := Lib.hid hG1; have HW1 := Lib.hid hW1; clear hT1 hG1 hW1)
          | (go_at_call 47; refine (rmay_any HT1.out f).mono ?_; rw [HM.out]; rintro e w2 ⟨rfl, rfl⟩))
        obtain ⟨fv, qv, kv, hh⟩ := HT1.out
        have h1 : RfAt (_root_.Go.World.setCell _ ⟨B, 2, none⟩ (.int .i64 (n : Int))) O1 B fv qv kv { r1 with lost := r1.lost - 1 } := hh.scalar 2 (.int .i64 (n : Int)) { r1 with lost := r1.lost - 1 } (by rw [HN.out]; rfl) rfl rfl rfl
        have HS1 := Lib.hid (Thing.step_trans HG1.out HW1.out (show (RfT B { r1 with lost := r1.lost - 1 }).step O1 _ _ from ⟨O1, ⟨fv, qv, kv, h1⟩, fun _ hk => .inl hk, (Own.refl O1 _).only (OnlyB.setCell _ B 2 _) (.inl hh.oB)⟩))
        have c2 := hh.c.2.2.1
        rw [HN.out, show ((n + 1 : Nat) : Int) = (n : Int) + 1 from by omega] at c2
        have z2 := hh.fz 2
        clear hh h1
        go_wp2_with fail
        go_ret
        exact ⟨rfl, HS1.out⟩
      · rw [if_neg hlo, if_neg hlo]
        obtain ⟨hf0, hf1⟩ := hf
        obtain ⟨fn, rfl⟩ : ∃ k : Nat, f = k := ⟨f.toNat, by omega⟩
        simp only [Int.toNat_natCast]
        have hlo' : r1.lost = 0 := by omega
        have HGT := Lib.hid (getI_nat r1.fl fn)
        have HLO := Lib.hid hlo'
        have HFL := Lib.hid HR1.out.fine.len
        clear hd hd0 hr1 hnf hlo hlo' hlb hf0 hf1
        have HFF := fun w' => fileF1 (fn : Int) (getF r1.fl fn).1 (getF r1.fl fn).2 w'
        go_enter Try.func32, Try.ntmps32
        go_upto_region 5 with (first
          | (go_at_call 51; refine HCM.out.mono ?_; rintro e w1 ⟨rfl, hs1⟩; obtain ⟨O1, hT1, hG1, hW1⟩ := hs1; have HT1 := Lib.hid hT1; have HG1 := Lib.hid hG1; have HW1 := Lib.hid hW1; clear hT1 hG1 hW1)
          | (go_at_call 47; refine (rmay_any HT1.out _).mono ?_; rw [HM.out]; rintro e w2 ⟨rfl, rfl⟩))
        obtain ⟨fv, qv, kv, hh⟩ := HT1.out
        have c2 := hh.c.2.2.1
        rw [HLO.out] at c2
        clear hh
        go_wp2_with (first
          | (go_at_call 40; refine (rget_any HT1.out fn HFL.out).mono ?_; rw [HGT.out]; unfold fileV; rintro e w4 ⟨rfl, hf4⟩; have HT4 := Lib.hid (Thing.fr _ HT1.out hf4); have HF4 := Lib.hid hf4; clear hf4)
          | (go_at_call 52; refine (rsettle_any HT4.out fn _ HFL.out HQ1.out).mono ?_; rintro e w5 ⟨rfl, hs5⟩; have HS5 := Lib.hid (Thing.step_trans HG1.out HW1.out (Thing.step_left HF4.out hs5)); clear hs5))
        go_ret
        exact ⟨rfl, HS5.out⟩
    · have HM := Lib.hid (mayE_no hd0 hf)
      rw [if_pos hf, if_pos hf]
      clear hd hd0 hr1 hf
      go_enter Try.func32, Try.ntmps32
      go_wp2_with (first
        | (go_at_call 51; refine HCM.out.mono ?_; rintro e w1 ⟨rfl, hs1⟩; obtain ⟨O1, hT1, hG1, hW1⟩ := hs1; have HT1 := Lib.hid hT1; have HG1 := Lib.hid hG1; have HW1 := Lib.hid hW1; clear hT1 hG1 hW1)
        | (go_at_call 47; refine (rmay_any HT1.out f).mono ?_; rw [HM.out]; rintro e w2 ⟨rfl, rfl⟩))
      go_ret
      exact ⟨rfl, O1, HT1.out, HG1.out, HW1.out⟩
end Go.Proofs.Ytpjoekjakjajcaa
