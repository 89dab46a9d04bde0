/-
  The law's helpers: after, byteAt.
-/
import Derived.Test.YtpjoekjakjajcaaVm
namespace Go.Proofs.Ytpjoekjakjajcaa
open Go.RowKit

theorem after_any (O : Nat → Prop) (B f : Nat) (s : RS) (w : World) (kv : Value) (ks : List Int) (hf : f < 16) (h : Dk w O B s) (hg : Good s) (hk : Ints w kv ks) :
    Calls Try.prog 23 #[.pointer (some ⟨B, 0, none⟩), .int .i64 f, kv] w fun e w' => e = .returned (.tuple #[.string (fb ((crashS s ks).now f) ((crashS s ks).sz f)), .bool true]) ∧ Fr w w' := by
  have HD := Lib.hid h
  have HK := Lib.hid hk
  have HKL : Hid (∀ p, ks ≠ [] → kv.ownBlock = some p → p < w.heap.size) := Lib.hid (fun p h0 hp => hk.lt p h0 hp)
  clear h hk
  have HC : Hid (Calls Try.prog 18 #[.pointer (some ⟨B, 0, none⟩)] w (fun e w' => ∃ B', e = .returned (.pointer (some ⟨B', 0, none⟩)) ∧ DN w w' B' s)) := Lib.hid (by
    refine (copy_any O B s _ HD.out hg.inv (by have := hg.keep; omega)).mono ?_
    rintro e w' ⟨B', rfl, hp⟩
    exact ⟨B', rfl, .step (Fr.refl w) (fun _ h => h.elim) hp⟩)
  go_enter Try.func23, Try.ntmps23
  go_wp2_with fail
  refine HC.out.mono ?_
  rintro e w1 ⟨B', rfl, h1⟩
  have H1 := Lib.hid h1
  clear h1 HC HD
  go_wp2_with fail
  refine (H1.out.one (fun O hd hO hb => crash_any ks _ O B' s _ hd hg.inv (HK.out.fr H1.out.1) (fun p h0 hp hop => absurd (hO p hop) (by have := HKL.out p h0 hp; omega)))).mono ?_
  rintro e w2 ⟨rfl, h2⟩
  have HG2 : Hid (Good (crashS s ks)) := Lib.hid (good_crash hg ks)
  obtain ⟨s2, hs2⟩ : ∃ s2, s2 = crashS s ks := ⟨_, rfl⟩
  rw [← hs2] at HG2 h2
  have HS2 := Lib.hid hs2
  clear hs2
  have H2 : Hid (DN w w2 B' s2) := Lib.hid h2
  clear h2 H1
  go_wp2_with fail
  refine (H2.out.one (fun O hd hO hb => start_any O _ s2 _ hd)).mono ?_
  rintro e w3 ⟨rfl, h3⟩
  have H3 : Hid (DN w w3 B' (upS s2)) := Lib.hid h3
  have HG3 : Hid (Good (upS s2)) := Lib.hid (good_down HG2.out _)
  have HR : Hid ((⟨(readL (upS s2) f 0 16777216).toArray⟩ : ByteArray) = fb (s2.now f) (s2.sz f)) := Lib.hid (read_fb HG3.out.inv rfl f hf)
  have HE : Hid (readE (upS s2) f 0 16777216 = 0) := Lib.hid (readE_whole rfl f hf)
  clear h3 H2
  generalize upS s2 = s3 at *
  go_wp2_with fail
  refine (H3.out.look (fun O hd => read_any O B' f 0 16777216 s3 _ hd HG3.out.inv (by decide) (by decide))).mono ?_
  rw [HE.out, HR.out]
  obtain ⟨str, hstr⟩ : ∃ str, str = fb (s2.now f) (s2.sz f) := ⟨_, rfl⟩
  rw [← hstr]
  have HSTR := Lib.hid hstr
  clear hstr HR HE
  rintro e w4 ⟨rfl, h4⟩
  have H4 := Lib.hid h4
  clear h4 H3
  go_wp2_with fail
  exact bodyPost_ret (v := .tuple #[.string str, .bool true]) (by simp [results, Try.results23, go_sem]) rfl ⟨by rw [HSTR.out, HS2.out], H4.out.1⟩

theorem byteAt_in (str : ByteArray) (i : Nat) (w : World) (h : i < str.size) (_h2 : str.size ≤ 9223372036854775807) :
    Calls Try.prog 24 #[.string str, .int .i64 i] w fun e w' => e = .returned (.int .u8 (str[i].toNat : Int)) ∧ w' = w := by
  go_enter Try.func24, Try.ntmps24
  go_wp2_with fail
  go_ret
  exact ⟨rfl, rfl⟩
theorem byteAt_out (str : ByteArray) (i : Nat) (w : World) (h : str.size ≤ i) (_h2 : str.size ≤ 9223372036854775807) :
    Calls Try.prog 24 #[.string str, .int .i64 i] w fun e w' => e = .returned (.int .u8 0) ∧ w' = w := by
  go_enter Try.func24, Try.ntmps24
  go_wp2_with fail
  go_ret
  exact ⟨rfl, rfl⟩
/-- A byte, or 0 behind the end. -/
def byteZ (str : ByteArray) (i : Nat) : Int := if h : i < str.size then (str[i].toNat : Int) else 0
theorem byteZ_in {str : ByteArray} {i : Nat} (h : i < str.size) : byteZ str i = (str[i].toNat : Int) := dif_pos h
theorem byteZ_out {str : ByteArray} {i : Nat} (h : ¬ i < str.size) : byteZ str i = 0 := dif_neg h
theorem byteAt_any (str : ByteArray) (i : Nat) (w : World) (h2 : str.size ≤ 9223372036854775807) (_h3 : i ≤ 9223372036854775807) :
    Calls Try.prog 24 #[.string str, .int .i64 i] w fun e w' => e = .returned (.int .u8 (byteZ str i)) ∧ w' = w := by
  by_cases h : i < str.size
  · rw [byteZ_in h]; exact byteAt_in str i w h h2
  · rw [byteZ_out h]; exact byteAt_out str i w (by omega) h2
end Go.Proofs.Ytpjoekjakjajcaa
