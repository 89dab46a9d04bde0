/-
  The reference's disk: Truncate, Lose, Start.
-/
import Derived.Test.YtpjoekjakjajcaaFt
namespace Go.Proofs.Ytpjoekjakjajcaa
open Go.RowKit

set_option maxHeartbeats 2000000 in
set_option maxRecDepth 100000 in
theorem rtrunc_any {w : World} {O : Nat → Prop} {B : Nat} {r : FS} {s : RS} (h : (RfT B r).at_ w O) (hr : RR r s) (hI : Inv s) (f n : Int) (hq : r.q.length ≤ 50000) (hkl : r.keep.length ≤ 17592186044416) (hA : r.armed ≤ 9223372036854775807) :
    Calls Try.prog 33 #[.pointer (some ⟨B, 0, none⟩), .int .i64 f, .int .i64 n] w fun e w' => e = .returned (.int .i64 (truncFE r f n)) ∧ (RfT B (truncF r f n)).step O w w' := by
  have HCM := Lib.hid (rcomes_any h hr hI 0 0 [] (by decide) hq hkl hA)
  obtain ⟨hr1, hI1⟩ := rr_comes hr hI 0 0 []
  have hq1 := comes_qlen r 0 0 []
  unfold truncF truncFE
  generalize comesF r 0 0 [] = r1 at *
  generalize comesS s 0 0 [] = s1 at *
  have HR1 := Lib.hid hr1
  have HI1 := Lib.hid hI1
  have HQ1 := Lib.hid (show r1.q.length ≤ 100000 by simp at hq1; omega)
  clear h hr hI hq hkl hA hq1 hI1
  by_cases hd : r1.down = true
  · have HM := Lib.hid (mayE_down hd f)
    rw [if_pos hd, if_pos hd]
    clear hd hr1
    go_enter Try.func33, Try.ntmps33
    go_wp2_with (first
      | (go_at_call 51; refine HCM.out.mono ?_; rintro e w1 ⟨rfl, hs1⟩; obtain ⟨O1, hT1, hG1, hW1⟩ := hs1; have HT1 := Lib.hid hT1; have HG1 := Lib.hid hG1; have HW1 := Lib.hid hW1; clear hT1 hG1 hW1)
      | (go_at_call 47; refine (rmay_any HT1.out _).mono ?_; rw [HM.out]; rintro e w2 ⟨rfl, rfl⟩))
    go_ret
    exact ⟨rfl, O1, HT1.out, HG1.out, HW1.out⟩
  · have hd0 : r1.down = false := by simpa using hd
    rw [if_neg hd, if_neg hd]
    by_cases hf : isF f
    · have HM := Lib.hid (mayE_ok hd0 hf)
      obtain ⟨hf0, hf1⟩ := id hf
      obtain ⟨fn, rfl⟩ : ∃ k : Nat, f = k := ⟨f.toNat, by omega⟩
      simp only [Int.toNat_natCast]
      have HGT := Lib.hid (getI_nat r1.fl fn)
      have HFL := Lib.hid HR1.out.fine.len
      have HLN := Lib.hid (rr_len HR1.out HI1.out fn (by omega)).1
      have hnf : ¬ ¬ isF (fn : Int) := fun e => e hf
      by_cases hn : 0 ≤ n ∧ n ≤ (getF r1.fl fn).1.length
      · have hv : ¬ ¬ (isF (fn : Int) ∧ 0 ≤ n ∧ n ≤ (getF r1.fl fn).1.length) := fun e => e ⟨hf, hn⟩
        rw [if_neg hv, if_neg hv]
        clear hv
        generalize getF r1.fl fn = x at *
        obtain ⟨x1, x2⟩ := x
        have HFF := fun w' => fileF1 (fn : Int) x1 x2 w'
        obtain ⟨hn0, hn1⟩ := hn
        obtain ⟨m, rfl⟩ : ∃ k : Nat, n = k := ⟨n.toNat, by omega⟩
        simp only [Int.toNat_natCast]
        have hsx : (S x1).extract 0 m = S (x1.take m) := by rw [S_extract]; simp
        have hxl : x1.length ≤ 16777216 := HLN.out
        have hlt : ¬ (m : Int) < 0 := by omega
        have hgt : ¬ (x1.length : Int) < m := by have : (m : Int) ≤ x1.length := hn1; omega
        have hn1 : (m : Int) ≤ x1.length := hn1
        have hm : m ≤ x1.length := by omega
        clear hd hd0 hr1 hnf hf hf0 hf1 hn0 hn1
        go_enter Try.func33, Try.ntmps33
        go_wp2_with (first
          | (go_at_call 51; refine HCM.out.mono ?_; rintro e w1 ⟨rfl, hs1⟩; obtain ⟨O1, hT1, hG1, hW1⟩ := hs1; have HT1 := Lib.hid hT1; have HG1 := Lib.hid hG1; have HW1 := Lib.hid hW1; clear hT1 hG1 hW1)
          | (go_at_call 47; refine (rmay_any HT1.out _).mono ?_; rw [HM.out]; rintro e w2 ⟨rfl, rfl⟩)
          | (go_at_call 40; refine (rget_any HT1.out fn HFL.out).mono ?_; rw [HGT.out]; unfold fileV; rintro e w4 ⟨rfl, hf4⟩; have HT4 := Lib.hid (Thing.fr _ HT1.out hf4); have HF4 := Lib.hid hf4; clear hf4)
          | (go_at_call 52; refine (rsettle_any HT4.out fn _ HFL.out HQ1.out).mono ?_; rintro e w5 ⟨rfl, hs5⟩; have HS5 := Lib.hid (Thing.step_trans HG1.out HW1.out (Thing.step_left HF4.out hs5)); clear hs5))
        go_ret
        exact ⟨rfl, HS5.out⟩
      · have hv : ¬ (isF (fn : Int) ∧ 0 ≤ n ∧ n ≤ (getF r1.fl fn).1.length) := fun e => hn e.2
        rw [if_pos hv, if_pos hv]
        clear hv
        generalize getF r1.fl fn = x at *
        obtain ⟨x1, x2⟩ := x
        have HFF := fun w' => fileF1 (fn : Int) x1 x2 w'
        have hxl : x1.length ≤ 16777216 := HLN.out
        by_cases hlt : n < 0
        · clear hd hd0 hr1 hnf hf hf0 hf1 hn
          go_enter Try.func33, Try.ntmps33
          go_wp2_with (first
            | (go_at_call 51; refine HCM.out.mono ?_; rintro e w1 ⟨rfl, hs1⟩; obtain ⟨O1, hT1, hG1, hW1⟩ := hs1; have HT1 := Lib.hid hT1; have HG1 := Lib.hid hG1; have HW1 := Lib.hid hW1; clear hT1 hG1 hW1)
            | (go_at_call 47; refine (rmay_any HT1.out _).mono ?_; rw [HM.out]; rintro e w2 ⟨rfl, rfl⟩)
            | (go_at_call 40; refine (rget_any HT1.out fn HFL.out).mono ?_; rw [HGT.out]; unfold fileV; rintro e w4 ⟨rfl, hf4⟩; have HT4 := Lib.hid (Thing.fr _ HT1.out hf4); have HF4 := Lib.hid hf4; clear hf4))
          go_ret
          exact ⟨rfl, Thing.step_trans HG1.out HW1.out (Thing.step_fr HT1.out HF4.out)⟩
        · have hgt : (x1.length : Int) < n := by have : ¬ (0 ≤ n ∧ n ≤ (x1.length : Int)) := hn; omega
          clear hd hd0 hr1 hnf hf hf0 hf1 hn
          go_enter Try.func33, Try.ntmps33
          go_wp2_with (first
            | (go_at_call 51; refine HCM.out.mono ?_; rintro e w1 ⟨rfl, hs1⟩; obtain ⟨O1, hT1, hG1, hW1⟩ := hs1; have HT1 := Lib.hid hT1; have HG1 := Lib.hid hG1; have HW1 := Lib.hid hW1; clear hT1 hG1 hW1)
            | (go_at_call 47; refine (rmay_any HT1.out _).mono ?_; rw [HM.out]; rintro e w2 ⟨rfl, rfl⟩)
            | (go_at_call 40; refine (rget_any HT1.out fn HFL.out).mono ?_; rw [HGT.out]; unfold fileV; rintro e w4 ⟨rfl, hf4⟩; have HT4 := Lib.hid (Thing.fr _ HT1.out hf4); have HF4 := Lib.hid hf4; clear hf4))
          go_ret
          exact ⟨rfl, Thing.step_trans HG1.out HW1.out (Thing.step_fr HT1.out HF4.out)⟩
    · have HM := Lib.hid (mayE_no hd0 hf)
      have hv : ¬ (isF f ∧ 0 ≤ n ∧ n ≤ (getF r1.fl f.toNat).1.length) := fun e => hf e.1
      rw [if_pos hv, if_pos hv]
      clear hd hd0 hr1 hf hv
      go_enter Try.func33, Try.ntmps33
      go_wp2_with (first
        | (go_at_call 51; refine HCM.out.mono ?_; rintro e w1 ⟨rfl, hs1⟩; obtain ⟨O1, hT1, hG1, hW1⟩ := hs1; have HT1 := Lib.hid hT1; have HG1 := Lib.hid hG1; have HW1 := Lib.hid hW1; clear hT1 hG1 hW1)
        | (go_at_call 47; refine (rmay_any HT1.out _).mono ?_; rw [HM.out]; rintro e w2 ⟨rfl, rfl⟩))
      go_ret
      exact ⟨rfl, O1, HT1.out, HG1.out, HW1.out⟩

theorem rlose_any {w : World} {O : Nat → Prop} {B : Nat} {r : FS} (h : (RfT B r).at_ w O) (n : Int) :
    Calls Try.prog 34 #[.pointer (some ⟨B, 0, none⟩), .int .i64 n] w fun e w' => e = .returned (.tuple #[]) ∧ (RfT B { r with lost := n.toNat }).step O w w' := by
  obtain ⟨fv, qv, kv, hh⟩ := h
  have h1 : RfAt (w.setCell ⟨B, 2, none⟩ (.int .i64 (n.toNat : Int))) O B fv qv kv { r with lost := n.toNat } := hh.scalar 2 (.int .i64 (n.toNat : Int)) _ rfl rfl rfl rfl
  have HS1 := Lib.hid (show (RfT B { r with lost := n.toNat }).step O w _ from ⟨O, ⟨fv, qv, kv, h1⟩, fun _ hk => .inl hk, (Own.refl O w).only (OnlyB.setCell _ B 2 _) (.inl hh.oB)⟩)
  have c2 := hh.c.2.2.1
  have z2 := hh.fz 2
  clear hh h1
  rcases Int.lt_or_le n 0 with hneg | hpos
  rotate_left
  · obtain ⟨k, rfl⟩ : ∃ k : Nat, n = k := ⟨n.toNat, by omega⟩
    simp only [Int.toNat_natCast] at HS1 ⊢
    go_enter Try.func34, Try.ntmps34
    go_wp2_with fail
    go_end0
    exact ⟨rfl, HS1.out⟩
  · have hn0 : n.toNat = 0 := by omega
    rw [hn0] at HS1 ⊢
    clear hn0
    go_enter Try.func34, Try.ntmps34
    go_wp2_with fail
    go_end0
    exact ⟨rfl, HS1.out⟩

theorem rstart_any {w : World} {O : Nat → Prop} {B : Nat} {r : FS} (h : (RfT B r).at_ w O) :
    Calls Try.prog 37 #[.pointer (some ⟨B, 0, none⟩)] w fun e w' => e = .returned (.tuple #[]) ∧ (RfT B { r with down := false }).step O w w' := by
  obtain ⟨fv, qv, kv, hh⟩ := h
  have h1 : RfAt (w.setCell ⟨B, 3, none⟩ (.bool false)) O B fv qv kv { r with down := false } := hh.scalar 3 (.bool false) _ rfl rfl rfl rfl
  have HS1 := Lib.hid (show (RfT B { r with down := false }).step O w _ from ⟨O, ⟨fv, qv, kv, h1⟩, fun _ hk => .inl hk, (Own.refl O w).only (OnlyB.setCell _ B 3 _) (.inl hh.oB)⟩)
  have c3 := hh.c.2.2.2.1
  have z3 := hh.fz 3
  clear hh h1
  go_enter Try.func37, Try.ntmps37
  go_wp2_with fail
  go_end0
  exact ⟨rfl, HS1.out⟩
end Go.Proofs.Ytpjoekjakjajcaa
