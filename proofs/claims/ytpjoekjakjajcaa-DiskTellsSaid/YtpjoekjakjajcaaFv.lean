/-
  The reference's disk: Read.
-/
import Derived.Test.YtpjoekjakjajcaaFu
namespace Go.Proofs.Ytpjoekjakjajcaa
open Go.RowKit

theorem rr_readE {r : FS} {s : RS} (h : RR r s) (f a n : Int) : readE s f a n = if r.down = true then 8 else if ¬ isF f then 1 else if a < 0 ∨ n < 0 then 1 else 0 := by
  unfold readE
  rw [← h.down]
  by_cases hd : r.down = true
  · rw [if_pos hd, if_pos hd]
  · rw [if_neg hd, if_neg hd]
    by_cases hf : isF f
    · by_cases ha : a < 0 ∨ n < 0
      · rw [if_pos (.inr ha), if_neg (fun e => e hf), if_pos ha]
      · rw [if_neg (fun e => e.elim (fun e => e hf) ha), if_neg (fun e => e hf), if_neg ha]
    · rw [if_pos (.inl hf), if_pos hf]
def rdE (r : FS) (f a n : Int) : Int := if r.down = true then 8 else if ¬ isF f then 1 else if a < 0 ∨ n < 0 then 1 else 0

set_option maxHeartbeats 2000000 in
set_option maxRecDepth 100000 in
theorem rread_any {w : World} {O : Nat → Prop} {B : Nat} {r : FS} {s : RS} (h : (RfT B r).at_ w O) (hr : RR r s) (hI : Inv s) (f a n : Int) (ha0 : a ≤ 9223372036854775807) (hn0 : n ≤ 9223372036854775807) :
    Calls Try.prog 21 #[.pointer (some ⟨B, 0, none⟩), .int .i64 f, .int .i64 a, .int .i64 n] w fun e w' => e = .returned (.tuple #[.string (S (readFL r f a n)), .int .i64 (rdE r f a n)]) ∧ Fr w w' := by
  have HT := Lib.hid h
  have HR := Lib.hid hr
  have HI := Lib.hid hI
  clear h hI
  unfold readFL rdE
  by_cases hd : r.down = true
  · have HM := Lib.hid (mayE_down hd f)
    rw [if_pos hd, if_pos (.inl hd)]
    clear hd hr
    go_enter Try.func21, Try.ntmps21
    go_wp2_with (first
      | (go_at_call 47; refine (rmay_any HT.out _).mono ?_; rw [HM.out]; rintro e w2 ⟨rfl, rfl⟩))
    go_ret2
    exact ⟨rfl, Fr.refl _⟩
  · have hd0 : r.down = false := by simpa using hd
    rw [if_neg hd]
    by_cases hf : isF f
    · have HM := Lib.hid (mayE_ok hd0 hf)
      obtain ⟨hf0, hf1⟩ := id hf
      have hnf : ¬ ¬ isF f := fun e => e hf
      rw [if_neg hnf]
      clear hnf
      by_cases hx : a < 0 ∨ n < 0
      · have hv : r.down = true ∨ ¬ isF f ∨ a < 0 ∨ n < 0 := .inr (.inr hx)
        rw [if_pos hx, if_pos hv]
        by_cases ha : a < 0
        · clear hd hd0 hr hf hf0 hf1 hx hv
          go_enter Try.func21, Try.ntmps21
          go_wp2_with (first
            | (go_at_call 47; refine (rmay_any HT.out _).mono ?_; rw [HM.out]; rintro e w2 ⟨rfl, rfl⟩))
          go_ret2
          exact ⟨rfl, Fr.refl _⟩
        · have hn : n < 0 := by omega
          clear hd hd0 hr hf hf0 hf1 hx hv
          go_enter Try.func21, Try.ntmps21
          go_wp2_with (first
            | (go_at_call 47; refine (rmay_any HT.out _).mono ?_; rw [HM.out]; rintro e w2 ⟨rfl, rfl⟩))
          go_ret2
          exact ⟨rfl, Fr.refl _⟩
      · have hv : ¬ (r.down = true ∨ ¬ isF f ∨ a < 0 ∨ n < 0) := fun e => by
          rcases e with e | e | e
          · exact hd e
          · exact e hf
          · exact hx e
        rw [if_neg hx, if_neg hv]
        obtain ⟨fn, rfl⟩ : ∃ k : Nat, f = k := ⟨f.toNat, by omega⟩
        obtain ⟨an, rfl⟩ : ∃ k : Nat, a = k := ⟨a.toNat, by omega⟩
        obtain ⟨nn, rfl⟩ : ∃ k : Nat, n = k := ⟨n.toNat, by omega⟩
        simp only [Int.toNat_natCast]
        have HGT := Lib.hid (getI_nat r.fl fn)
        have HFL := Lib.hid HR.out.fine.len
        have hln := (rr_len HR.out HI.out fn (by omega)).1
        clear hd hd0 hr hf hf0 hf1 hx hv
        generalize getF r.fl fn = x at *
        obtain ⟨x1, x2⟩ := x
        have hln : x1.length ≤ 16777216 := hln
        have HFF := fun w' => fileF1 (fn : Int) x1 x2 w'
        show Calls _ _ _ _ fun e w' => e = Ending.returned (.tuple #[.string (S ((x1.drop an).take nn)), .int .i64 0]) ∧ Fr w w'
        rcases Nat.lt_or_ge an x1.length with hal | hal
        · by_cases hle : nn ≤ x1.length - an
          · have hsx : (S x1).extract an (an + nn) = S ((x1.drop an).take nn) := by rw [S_extract, Nat.add_sub_cancel_left]
            have hmin : min (nn : Int) ((x1.length : Int) - (an : Int)) = (nn : Int) := by omega
            have h1 : (an : Int) + (nn : Int) ≤ 16777216 := by omega
            have h5 : ((an : Int) + (nn : Int)).toNat = an + nn := by omega
            have h2 : an + nn ≤ x1.length := by omega
            have h3 : an ≤ an + nn := by omega
            clear hle
            go_enter Try.func21, Try.ntmps21
            go_wp2_with (first
              | (go_at_call 47; refine (rmay_any HT.out _).mono ?_; rw [HM.out]; rintro e w2 ⟨rfl, rfl⟩)
              | (go_at_call 40; refine (rget_any HT.out fn HFL.out).mono ?_; rw [HGT.out]; unfold fileV; rintro e w4 ⟨rfl, hf4⟩; have HF4 := Lib.hid hf4; clear hf4))
            go_ret2
            exact ⟨by first | rfl | rw [hsx] | (simp only [hsx]), HF4.out⟩
          · have hsx : (S x1).extract an x1.length = S ((x1.drop an).take nn) := by rw [S_extract, List.take_of_length_le (by simp), List.take_of_length_le (by simp; omega)]
            have hmin : min (nn : Int) ((x1.length : Int) - (an : Int)) = (x1.length : Int) - (an : Int) := by omega
            have h1 : (an : Int) + ((x1.length : Int) - (an : Int)) = (x1.length : Int) := by omega
            have h4 : ¬ (nn : Int) ≤ (x1.length : Int) - (an : Int) := by omega
            go_enter Try.func21, Try.ntmps21
            go_wp2_with (first
              | (go_at_call 47; refine (rmay_any HT.out _).mono ?_; rw [HM.out]; rintro e w2 ⟨rfl, rfl⟩)
              | (go_at_call 40; refine (rget_any HT.out fn HFL.out).mono ?_; rw [HGT.out]; unfold fileV; rintro e w4 ⟨rfl, hf4⟩; have HF4 := Lib.hid hf4; clear hf4))
            go_ret2
            exact ⟨by first | rfl | rw [hsx] | (simp only [hsx]), HF4.out⟩
        · have hnl : (x1.drop an).take nn = [] := by rw [List.drop_eq_nil_of_le hal, List.take_nil]
          rw [hnl]
          clear hnl
          go_enter Try.func21, Try.ntmps21
          go_wp2_with (first
            | (go_at_call 47; refine (rmay_any HT.out _).mono ?_; rw [HM.out]; rintro e w2 ⟨rfl, rfl⟩)
            | (go_at_call 40; refine (rget_any HT.out fn HFL.out).mono ?_; rw [HGT.out]; unfold fileV; rintro e w4 ⟨rfl, hf4⟩; have HF4 := Lib.hid hf4; clear hf4))
          go_ret2
          exact ⟨rfl, HF4.out⟩
    · have HM := Lib.hid (mayE_no hd0 hf)
      have hv : r.down = true ∨ ¬ isF f ∨ a < 0 ∨ n < 0 := .inr (.inl hf)
      rw [if_pos hf, if_pos hv]
      clear hd hd0 hr hf hv
      go_enter Try.func21, Try.ntmps21
      go_wp2_with (first
        | (go_at_call 47; refine (rmay_any HT.out _).mono ?_; rw [HM.out]; rintro e w2 ⟨rfl, rfl⟩))
      go_ret2
      exact ⟨rfl, Fr.refl _⟩
end Go.Proofs.Ytpjoekjakjajcaa
