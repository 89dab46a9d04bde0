/-
  Contracts: the functions of the reference (ladingref01) that write.
-/
import Derived.Test.YtjabpagfoclajaaDoorEnc
namespace Go.Proofs.YtjabpagfoclajaaDoor
open Go.RowKit

theorem digits_len (u : Nat) (h : u ≤ 9223372036854775808) : (Lib.decDigits u).length ≤ 20 := by
  rw [Lib.decDigits_length]; exact Lib.nDigits_le20 u (by omega)
theorem dec_snoc (u : Nat) (h : ¬ u < 10) : Lib.decDigits u = Lib.decDigits (u / 10) ++ [UInt8.ofNat (48 + u % 10)] := by
  rw [Lib.decDigits, dif_neg h]

def chr (u : Nat) : UInt8 := UInt8.ofNat (48 + u % 10)
theorem chr_run (u : Nat) (w : World) :
    (convert 65 9 (.slice (some ⟨w.heap.size, 0, none⟩) 1 1)).run Tryd.prog (w.alloc (.cells #[.int .u8 (48 + (u : Int) % 10)] 5)) =
      .ok (.string (S [chr u])) (w.alloc (.cells #[.int .u8 (48 + (u : Int) % 10)] 5)) := by
  refine run_convert_bytes_back _ _ _ _ ⟨w.heap.size, 0, none⟩ 1 [UInt8.ofNat (48 + u % 10)] Tryd.underlying65 Tryd.underlying5 Tryd.underlying9 ?_
  intro j hj
  match j, hj with
  | 0, hj =>
    rw [List.getElem_cons_zero, Wm.ofNat_dig (by omega)]
    simp [Addr.add]

set_option maxHeartbeats 400000 in
theorem rdigits_any (k : Nat) : ∀ (u : Nat) (w : World), u < 10 ^ (k + 1) → u ≤ 9223372036854775808 →
    Calls Tryd.prog 45 #[.int .i64 (-(u : Int))] w fun e w' => e = .returned (.string (S (Lib.decDigits u))) ∧ Fr w w' := by
  induction k with
  | zero =>
    intro u w hk _
    have h10 : u < 10 := by simpa using hk
    have hr := chr_run u w
    go_enter Tryd.func45, Tryd.ntmps45
    go_wp2_with fail
    go_ret
    exact ⟨ret_str (by rw [Lib.decDigits, dif_pos h10, chr, Nat.mod_eq_of_lt h10]), Fr.alloc _ _⟩
  | succ k ih =>
    intro u w hk hu
    by_cases h10 : u < 10
    · have hr := chr_run u w
      go_enter Tryd.func45, Tryd.ntmps45
      go_wp2_with fail
      go_ret
      exact ⟨ret_str (by rw [Lib.decDigits, dif_pos h10, chr, Nat.mod_eq_of_lt h10]), Fr.alloc _ _⟩
    · have hr := chr_run u w
      have hl := digits_len (u / 10) (by omega)
      have hk' : u / 10 < 10 ^ (k + 1) := by rw [Nat.pow_succ] at hk; omega
      have IH := Lib.hid (ih (u / 10) (w.alloc (.cells #[.int .u8 (48 + (u : Int) % 10)] 5)) hk' (by omega))
      have HD := Lib.hid (dec_snoc u h10)
      clear ih hk hk'
      go_enter Tryd.func45, Tryd.ntmps45
      go_wp2_with fail
      rw [show ((u : Int) / 10) = ((u / 10 : Nat) : Int) from by omega]
      refine IH.out.mono ?_
      rintro e w' ⟨rfl, hf⟩
      go_wp2_with fail
      go_ret
      exact ⟨ret_str (by rw [HD.out, S_append]; rfl), (Fr.alloc _ _).trans hf⟩
theorem rdigits (u : Nat) (w : World) (h : u ≤ 9223372036854775808) :
    Calls Tryd.prog 45 #[.int .i64 (-(u : Int))] w fun e w' => e = .returned (.string (S (Lib.decDigits u))) ∧ Fr w w' :=
  rdigits_any 18 u w (by simp only [Nat.reduceAdd, Nat.reducePow]; omega) h

theorem rint_any (n : Int) (w : World) (h0 : -9223372036854775808 ≤ n) (h1 : n ≤ 9223372036854775807) :
    Calls Tryd.prog 14 #[.int .i64 n] w fun e w' => e = .returned (.string (S ((Wm.intE 59).f n))) ∧ Fr w w' := by
  by_cases hneg : n < 0
  · obtain ⟨u, rfl⟩ : ∃ u : Nat, n = -(u : Int) := ⟨n.natAbs, by omega⟩
    have hl := digits_len u (by omega)
    have HI := Lib.hid (Lib.itoa_neg u (by omega))
    go_enter Tryd.func14, Tryd.ntmps14
    go_wp2_with fail
    refine (rdigits u _ (by omega)).mono ?_
    rintro e w' ⟨rfl, hf⟩
    go_wp2_with fail
    go_ret
    refine ⟨ret_str ?_, hf⟩
    rw [show (⟨#[45]⟩ : ByteArray) = S [45] from rfl, show (⟨#[59]⟩ : ByteArray) = S [59] from rfl, S_append, S_append, Wm.intE_f]
    rw [HI.out]; rfl
  · obtain ⟨u, rfl⟩ : ∃ u : Nat, n = (u : Int) := ⟨n.toNat, by omega⟩
    have hl := digits_len u (by omega)
    have HI := Lib.hid (Lib.itoa_nonneg u)
    go_enter Tryd.func14, Tryd.ntmps14
    go_wp2_with fail
    refine (rdigits u _ (by omega)).mono ?_
    rintro e w' ⟨rfl, hf⟩
    go_wp2_with fail
    go_ret
    refine ⟨ret_str ?_, hf⟩
    rw [show (⟨#[59]⟩ : ByteArray) = S [59] from rfl, S_append, Wm.intE_f]
    rw [HI.out]

theorem rnum_neg (n : Int) (w : World) (h : n < 0) :
    Calls Tryd.prog 12 #[.int .i64 n] w fun e w' => e = .returned (.string (S [])) ∧ Fr w w' := by
  go_enter Tryd.func12, Tryd.ntmps12
  go_wp2
  go_ret
  exact ⟨rfl, Fr.refl _⟩
theorem rnum_any (n : Int) (w : World) (h0 : 0 ≤ n) (h1 : n ≤ 9223372036854775807) :
    Calls Tryd.prog 12 #[.int .i64 n] w fun e w' => e = .returned (.string (S ((Wm.numE 59).f n))) ∧ Fr w w' := by
  go_enter Tryd.func12, Tryd.ntmps12
  go_wp2_with fail
  refine (rint_any n _ (by omega) h1).mono ?_
  rintro e w' ⟨rfl, hf⟩
  go_wp2_with fail
  go_ret
  exact ⟨rfl, hf⟩

theorem rtext_any (s : List UInt8) (w : World) (h : s.length ≤ 4611686018427387904) :
    Calls Tryd.prog 16 #[.string (S s)] w fun e w' => e = .returned (.string (S (Wm.textE.f s))) ∧ Fr w w' := by
  have hl := digits_len s.length (by omega)
  have HI := Lib.hid (Lib.itoa_nonneg s.length)
  go_enter Tryd.func16, Tryd.ntmps16
  go_wp2_with fail
  refine (rdigits s.length _ (by omega)).mono ?_
  rintro e w' ⟨rfl, hf⟩
  go_wp2_with fail
  go_ret
  refine ⟨ret_str ?_, hf⟩
  rw [show (⟨#[44]⟩ : ByteArray) = S [44] from rfl, show (⟨#[58]⟩ : ByteArray) = S [58] from rfl, S_append, S_append, S_append, Wm.textE_f]
  rw [HI.out]; simp

set_option maxHeartbeats 400000 in
theorem rwriteInts (b o c : Nat) (zs : List Int) (w : World) (hcell : ∀ i x, (zs.map (Value.int .i64))[i]? = some x → w.cell? ⟨b, o + i, none⟩ = some x) (hn : (zs.flatMap (Wm.intE 59).f).length ≤ 4294967296) (hm : zs.length ≤ 4294967296) (hz : ∀ z ∈ zs, Wm.inInt z) :
    Calls Tryd.prog 18 #[.slice (some ⟨b, o, none⟩) zs.length c] w fun e w' => e = .returned (.string (S ((Wm.listE (Wm.intE 59)).f zs))) ∧ Fr w w' := by
  have hl := digits_len zs.length (by omega)
  have HI := Lib.hid (Lib.itoa_nonneg zs.length)
  have HC := Lib.hid hcell
  have HZ := Lib.hid hz
  clear hcell hz
  go_enter Tryd.func18, Tryd.ntmps18
  go_wp2_with fail
  refine (rdigits zs.length _ (by omega)).mono ?_
  rintro e w1 ⟨rfl, hf1⟩
  go_wp2_with fail
  rw [show (⟨#[91]⟩ : ByteArray) = S [91] from rfl, S_append]
  go_loopw [3, 4] (fun s i wr => ∃ k : Nat, k ≤ zs.length ∧ i = .int .i64 k ∧ s = .string (S (Lib.decDigits zs.length ++ [91] ++ (zs.take k).flatMap (Wm.intE 59).f)) ∧ Fr w wr) (fun _ i _ => zs.length - (intOf i).toNat)
  case atStart => exact ⟨0, Nat.zero_le _, rfl, by simp, hf1⟩
  case round =>
    obtain ⟨k, hk, rfl, rfl, hwk⟩ := hrel
    clear hf1
    by_cases hlt : k < zs.length
    · have hc0 := HC.out k (.int .i64 zs[k]) (by simp [hlt])
      have hc : wr.cell? ⟨b, o + k, none⟩ = some (.int .i64 zs[k]) := hwk.cell hc0
      have hzk := HZ.out zs[k] (List.getElem_mem hlt)
      have hL := flat_get_le (Wm.intE 59).f zs k hlt
      have HS := Lib.hid (flat_take (Wm.intE 59).f zs k hlt)
      clear hc0
      generalize hzz : zs[k] = z at *
      have HZZ := Lib.hid hzz
      clear hzz
      generalize hfl : (zs.take k).flatMap (Wm.intE 59).f = fl at *
      have HF := Lib.hid hfl
      clear hfl
      go_wp2_with fail
      refine (rint_any z _ hzk.1 hzk.2).mono ?_
      rintro e w4 ⟨rfl, hf4⟩
      have hw4 := hwk.trans hf4
      clear hwk hf4 hc
      go_wp2_with fail
      go_roundw
      case rel => exact ⟨k + 1, by omega, by go_num, by rw [HS.out, S_append, ← List.append_assoc]; simp, hw4⟩
      case measure => simp [intOf]; omega
    · have hkk : zs.take k = zs := List.take_of_length_le (by omega)
      rw [hkk]
      clear hkk
      generalize hfl : zs.flatMap (Wm.intE 59).f = fl at *
      have HF := Lib.hid hfl
      clear hfl
      go_wp2_with fail
      go_ret
      refine ⟨ret_str ?_, hwk⟩
      rw [show (⟨#[93]⟩ : ByteArray) = S [93] from rfl, S_append, Wm.listE_f]
      rw [HI.out, HF.out]; simp

set_option maxHeartbeats 400000 in
theorem rwriteInts0 (a : Option Addr) (c : Nat) (w : World) :
    Calls Tryd.prog 18 #[.slice a 0 c] w fun e w' => e = .returned (.string (S ((Wm.listE (Wm.intE 59)).f []))) ∧ Fr w w' := by
  have HI := Lib.hid (Lib.itoa_nonneg 0)
  have hl := digits_len 0 (by omega)
  go_enter Tryd.func18, Tryd.ntmps18
  go_wp2_with fail
  refine (rdigits 0 _ (by omega)).mono ?_
  rintro e w1 ⟨rfl, hf1⟩
  go_wp2_with fail
  rw [show (⟨#[91]⟩ : ByteArray) = S [91] from rfl, S_append]
  go_loopw [3, 4] (fun s i wr => i = .int .i64 0 ∧ s = .string (S (Lib.decDigits 0 ++ [91])) ∧ wr = w1) (fun _ _ _ => 0)
  case atStart => exact ⟨rfl, rfl, rfl⟩
  case round =>
    obtain ⟨rfl, rfl, rfl⟩ := hrel
    go_wp2_with fail
    go_ret
    refine ⟨ret_str ?_, hf1⟩
    rw [show (⟨#[93]⟩ : ByteArray) = S [93] from rfl, S_append, Wm.listE_f]
    simp only [List.length_nil]
    rw [HI.out]; simp

theorem rnums_any (v : Value) (zs : List Int) (w : World) (hs : IsSl w v (zs.map (Value.int .i64))) (hn : (zs.flatMap (Wm.intE 59).f).length ≤ 4294967296) (hm : zs.length ≤ 4294967296) (hz : ∀ z ∈ zs, Wm.inInt z) :
    Calls Tryd.prog 18 #[v] w fun e w' => e = .returned (.string (S ((Wm.listE (Wm.intE 59)).f zs))) ∧ Fr w w' := by
  rcases hs with ⟨h0, a, c, rfl⟩ | ⟨b, o, c, rfl, hcell⟩
  · obtain rfl : zs = [] := by simpa using h0
    exact rwriteInts0 a c w
  · rw [List.length_map]
    exact rwriteInts b o c zs w hcell hn hm hz

set_option maxHeartbeats 400000 in
theorem rwriteStrs (b o c : Nat) (zs : List (List UInt8)) (w : World) (hcell : ∀ i x, (zs.map (fun z => Value.string (S z)))[i]? = some x → w.cell? ⟨b, o + i, none⟩ = some x) (hn : (zs.flatMap Wm.textE.f).length ≤ 4294967296) (hm : zs.length ≤ 4294967296) (hz : ∀ z ∈ zs, z.length ≤ 4611686018427387904) :
    Calls Tryd.prog 20 #[.slice (some ⟨b, o, none⟩) zs.length c] w fun e w' => e = .returned (.string (S ((Wm.listE Wm.textE).f zs))) ∧ Fr w w' := by
  have hl := digits_len zs.length (by omega)
  have HI := Lib.hid (Lib.itoa_nonneg zs.length)
  have HC := Lib.hid hcell
  have HZ := Lib.hid hz
  clear hcell hz
  go_enter Tryd.func20, Tryd.ntmps20
  go_wp2_with fail
  refine (rdigits zs.length _ (by omega)).mono ?_
  rintro e w1 ⟨rfl, hf1⟩
  go_wp2_with fail
  rw [show (⟨#[91]⟩ : ByteArray) = S [91] from rfl, S_append]
  go_loopw [3, 4] (fun s i wr => ∃ k : Nat, k ≤ zs.length ∧ i = .int .i64 k ∧ s = .string (S (Lib.decDigits zs.length ++ [91] ++ (zs.take k).flatMap Wm.textE.f)) ∧ Fr w wr) (fun _ i _ => zs.length - (intOf i).toNat)
  case atStart => exact ⟨0, Nat.zero_le _, rfl, by simp, hf1⟩
  case round =>
    obtain ⟨k, hk, rfl, rfl, hwk⟩ := hrel
    clear hf1
    by_cases hlt : k < zs.length
    · have hc0 := HC.out k (.string (S zs[k])) (by simp [hlt])
      have hc : wr.cell? ⟨b, o + k, none⟩ = some (.string (S zs[k])) := hwk.cell hc0
      have hzk := HZ.out zs[k] (List.getElem_mem hlt)
      have hL := flat_get_le Wm.textE.f zs k hlt
      have HS := Lib.hid (flat_take Wm.textE.f zs k hlt)
      clear hc0
      generalize hzz : zs[k] = z at *
      have HZZ := Lib.hid hzz
      clear hzz
      generalize hfl : (zs.take k).flatMap Wm.textE.f = fl at *
      have HF := Lib.hid hfl
      clear hfl
      go_wp2_with fail
      refine (rtext_any z _ hzk).mono ?_
      rintro e w4 ⟨rfl, hf4⟩
      have hw4 := hwk.trans hf4
      clear hwk hf4 hc
      go_wp2_with fail
      go_roundw
      case rel => exact ⟨k + 1, by omega, by go_num, by rw [HS.out, S_append, ← List.append_assoc]; simp, hw4⟩
      case measure => simp [intOf]; omega
    · have hkk : zs.take k = zs := List.take_of_length_le (by omega)
      rw [hkk]
      clear hkk
      generalize hfl : zs.flatMap Wm.textE.f = fl at *
      have HF := Lib.hid hfl
      clear hfl
      go_wp2_with fail
      go_ret
      refine ⟨ret_str ?_, hwk⟩
      rw [show (⟨#[93]⟩ : ByteArray) = S [93] from rfl, S_append, Wm.listE_f]
      rw [HI.out, HF.out]; simp

set_option maxHeartbeats 400000 in
theorem rwriteStrs0 (a : Option Addr) (c : Nat) (w : World) :
    Calls Tryd.prog 20 #[.slice a 0 c] w fun e w' => e = .returned (.string (S ((Wm.listE Wm.textE).f []))) ∧ Fr w w' := by
  have HI := Lib.hid (Lib.itoa_nonneg 0)
  have hl := digits_len 0 (by omega)
  go_enter Tryd.func20, Tryd.ntmps20
  go_wp2_with fail
  refine (rdigits 0 _ (by omega)).mono ?_
  rintro e w1 ⟨rfl, hf1⟩
  go_wp2_with fail
  rw [show (⟨#[91]⟩ : ByteArray) = S [91] from rfl, S_append]
  go_loopw [3, 4] (fun s i wr => i = .int .i64 0 ∧ s = .string (S (Lib.decDigits 0 ++ [91])) ∧ wr = w1) (fun _ _ _ => 0)
  case atStart => exact ⟨rfl, rfl, rfl⟩
  case round =>
    obtain ⟨rfl, rfl, rfl⟩ := hrel
    go_wp2_with fail
    go_ret
    refine ⟨ret_str ?_, hf1⟩
    rw [show (⟨#[93]⟩ : ByteArray) = S [93] from rfl, S_append, Wm.listE_f]
    simp only [List.length_nil]
    rw [HI.out]; simp

theorem rtexts_any (v : Value) (zs : List (List UInt8)) (w : World) (hs : IsSl w v (zs.map (fun z => Value.string (S z)))) (hn : (zs.flatMap Wm.textE.f).length ≤ 4294967296) (hm : zs.length ≤ 4294967296) (hz : ∀ z ∈ zs, z.length ≤ 4611686018427387904) :
    Calls Tryd.prog 20 #[v] w fun e w' => e = .returned (.string (S ((Wm.listE Wm.textE).f zs))) ∧ Fr w w' := by
  rcases hs with ⟨h0, a, c, rfl⟩ | ⟨b, o, c, rfl, hcell⟩
  · obtain rfl : zs = [] := by simpa using h0
    exact rwriteStrs0 a c w
  · rw [List.length_map]
    exact rwriteStrs b o c zs w hcell hn hm hz

end Go.Proofs.YtjabpagfoclajaaDoor
