/-
  Contracts: the functions of the reference (ladingref01) that write.
-/
import Derived.Test.YtjcajgcfkidbkaaDoorEnc
namespace Go.Proofs.YtjcajgcfkidbkaaDoor
open Go.RowKit

theorem digits_len (u : Nat) (h : u ≤ 9223372036854775808) : (Lib.decDigits u).length ≤ 20 := by
  rw [Lib.decDigits_length]; exact Lib.nDigits_le20 u (by omega)
theorem dec_snoc (u : Nat) (h : ¬ u < 10) : Lib.decDigits u = Lib.decDigits (u / 10) ++ [UInt8.ofNat (48 + u % 10)] := by
  rw [Lib.decDigits, dif_neg h]

def chr (u : Nat) : UInt8 := UInt8.ofNat (48 + u % 10)
theorem chr_run (u : Nat) (w : World) :
    (convert 65 9 (.slice (some ⟨w.heap.size, 0, none⟩) 1 1)).run Tryd.prog (w.alloc (.cells #[.int .u8 (48 + (u : Int) % 10)] 5)) =
      .ok (.string (S [chr u])) (w.alloc (.cells #[.int .u8 (48 + (u : Int) % 10)] 5)) := by
  refine run_convert_bytes_back _ _ _ _ ⟨w.heap.size, 0, none⟩ 1 [UInt8.ofNat (48 + u % 10)] Tryd.underlying65 Tryd.underlying5 Tryd.underlying9 ?_
  intro j hj
  match j, hj with
  | 0, hj =>
    rw [List.getElem_cons_zero, Wm.ofNat_dig (by omega)]
    simp [Addr.add]

set_option maxHeartbeats 400000 in
set_option maxRecDepth 100000 in
theorem rdigits_any (k : Nat) : ∀ (u : Nat) (w : World), u < 10 ^ (k + 1) → u ≤ 9223372036854775808 →
    Calls Tryd.prog 91 #[.int .i64 (-(u : Int))] w fun e w' => e = .returned (.string (S (Lib.decDigits u))) ∧ Fr w w' := by
  induction k with
  | zero =>
    intro u w hk _
    have h10 : u < 10 := by simpa using hk
    have hr := chr_run u w
    go_enter Tryd.func91, Tryd.ntmps91
    go_wp2_with fail
    go_ret
    exact ⟨ret_str (by rw [Lib.decDigits, dif_pos h10, chr, Nat.mod_eq_of_lt h10]), Fr.alloc _ _⟩
  | succ k ih =>
    intro u w hk hu
    by_cases h10 : u < 10
    · have hr := chr_run u w
      go_enter Tryd.func91, Tryd.ntmps91
      go_wp2_with fail
      go_ret
      exact ⟨ret_str (by rw [Lib.decDigits, dif_pos h10, chr, Nat.mod_eq_of_lt h10]), Fr.alloc _ _⟩
    · have hr := chr_run u w
      have hl := digits_len (u / 10) (by omega)
      have hk' : u / 10 < 10 ^ (k + 1) := by rw [Nat.pow_succ] at hk; omega
      have IH := Lib.hid (ih (u / 10) (w.alloc (.cells #[.int .u8 (48 + (u : Int) % 10)] 5)) hk' (by omega))
      have HD := Lib.hid (dec_snoc u h10)
      clear ih hk hk'
      go_enter Tryd.func91, Tryd.ntmps91
      go_wp2_with fail
      rw [show ((u : Int) / 10) = ((u / 10 : Nat) : Int) from by omega]
      refine IH.out.mono ?_
      rintro e w' ⟨rfl, hf⟩
      go_wp2_with fail
      go_ret
      exact ⟨ret_str (by rw [HD.out, S_append]; rfl), (Fr.alloc _ _).trans hf⟩
set_option maxRecDepth 100000 in
theorem rdigits (u : Nat) (w : World) (h : u ≤ 9223372036854775808) :
    Calls Tryd.prog 91 #[.int .i64 (-(u : Int))] w fun e w' => e = .returned (.string (S (Lib.decDigits u))) ∧ Fr w w' :=
  rdigits_any 18 u w (by simp only [Nat.reduceAdd, Nat.reducePow]; omega) h

set_option maxRecDepth 100000 in
theorem rint_any (n : Int) (w : World) (h0 : -9223372036854775808 ≤ n) (h1 : n ≤ 9223372036854775807) :
    Calls Tryd.prog 92 #[.int .i64 n] w fun e w' => e = .returned (.string (S ((Wm.intE 59).f n))) ∧ Fr w w' := by
  by_cases hneg : n < 0
  · obtain ⟨u, rfl⟩ : ∃ u : Nat, n = -(u : Int) := ⟨n.natAbs, by omega⟩
    have hl := digits_len u (by omega)
    have HI := Lib.hid (Lib.itoa_neg u (by omega))
    go_enter Tryd.func92, Tryd.ntmps92
    go_wp2_with fail
    refine (rdigits u _ (by omega)).mono ?_
    rintro e w' ⟨rfl, hf⟩
    go_wp2_with fail
    go_ret
    refine ⟨ret_str ?_, hf⟩
    rw [show (⟨#[45]⟩ : ByteArray) = S [45] from rfl, show (⟨#[59]⟩ : ByteArray) = S [59] from rfl, S_append, S_append, Wm.intE_f]
    rw [HI.out]; rfl
  · obtain ⟨u, rfl⟩ : ∃ u : Nat, n = (u : Int) := ⟨n.toNat, by omega⟩
    have hl := digits_len u (by omega)
    have HI := Lib.hid (Lib.itoa_nonneg u)
    go_enter Tryd.func92, Tryd.ntmps92
    go_wp2_with fail
    refine (rdigits u _ (by omega)).mono ?_
    rintro e w' ⟨rfl, hf⟩
    go_wp2_with fail
    go_ret
    refine ⟨ret_str ?_, hf⟩
    rw [show (⟨#[59]⟩ : ByteArray) = S [59] from rfl, S_append, Wm.intE_f]
    rw [HI.out]

set_option maxRecDepth 100000 in
theorem rnum_neg (n : Int) (w : World) (h : n < 0) :
    Calls Tryd.prog 81 #[.int .i64 n] w fun e w' => e = .returned (.string (S [])) ∧ Fr w w' := by
  go_enter Tryd.func81, Tryd.ntmps81
  go_wp2
  go_ret
  exact ⟨rfl, Fr.refl _⟩
set_option maxRecDepth 100000 in
theorem rnum_any (n : Int) (w : World) (h0 : 0 ≤ n) (h1 : n ≤ 9223372036854775807) :
    Calls Tryd.prog 81 #[.int .i64 n] w fun e w' => e = .returned (.string (S ((Wm.numE 59).f n))) ∧ Fr w w' := by
  go_enter Tryd.func81, Tryd.ntmps81
  go_wp2_with fail
  refine (rint_any n _ (by omega) h1).mono ?_
  rintro e w' ⟨rfl, hf⟩
  go_wp2_with fail
  go_ret
  exact ⟨rfl, hf⟩

set_option maxRecDepth 100000 in
theorem rtext_any (s : List UInt8) (w : World) (h : s.length ≤ 4611686018427387904) :
    Calls Tryd.prog 80 #[.string (S s)] w fun e w' => e = .returned (.string (S (Wm.textE.f s))) ∧ Fr w w' := by
  have hl := digits_len s.length (by omega)
  have HI := Lib.hid (Lib.itoa_nonneg s.length)
  go_enter Tryd.func80, Tryd.ntmps80
  go_wp2_with fail
  refine (rdigits s.length _ (by omega)).mono ?_
  rintro e w' ⟨rfl, hf⟩
  go_wp2_with fail
  go_ret
  refine ⟨ret_str ?_, hf⟩
  rw [show (⟨#[44]⟩ : ByteArray) = S [44] from rfl, show (⟨#[58]⟩ : ByteArray) = S [58] from rfl, S_append, S_append, S_append, Wm.textE_f]
  rw [HI.out]; simp
end Go.Proofs.YtjcajgcfkidbkaaDoor
