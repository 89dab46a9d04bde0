/-
  The law's helper: same; and steps of two disks.
-/
import Derived.Test.YtpjoekjakjajcaaAm
namespace Go.Proofs.Ytpjoekjakjajcaa
open Go.RowKit

theorem do_d2 {W w : World} {B B' : Nat} {s t : RS} (a : AC) (ha : a.In W) (h : D2 W w B s B' t) (hg : Good s) :
    Calls Try.prog 12 #[.pointer (some ⟨B, 0, none⟩), .agg #[.int .i64 a.k, .int .i64 a.f, .int .i64 a.n, .string a.str, a.v]] w fun e w' => e = .returned (.int .i64 (doE s a)) ∧ D2 W w' B (doS s a) B' t :=
  h.one (fun O hd hO _ => do_any O B a s w ⟨ha.ints.fr h.1, ha.n, Nat.le_trans ha.few.1 (by decide), by have := ha.few.2.1; omega⟩ (fun p h0 hp => by
    have := ha.ints.lt p h0 hp
    exact ⟨Nat.lt_of_lt_of_le this h.1.size, fun hk => absurd (hO p hk) (by omega)⟩) hd hg.inv hg.calls hg.lost)
theorem crash_d2 {W w : World} {B B' : Nat} {s t : RS} {kv : Value} {ks : List Int} (hk : Ints W kv ks) (h : D2 W w B s B' t) (hg : Good s) :
    Calls Try.prog 25 #[.pointer (some ⟨B, 0, none⟩), kv] w fun e w' => e = .returned (.tuple #[]) ∧ D2 W w' B (crashS s ks) B' t :=
  h.one (fun O hd hO _ => crash_any ks _ O B s _ hd hg.inv (hk.fr h.1) (fun p h0 hp hop => absurd (hO p hop) (by have := hk.lt p h0 hp; omega)))
theorem down_d2 {W w : World} {B B' : Nat} {s t : RS} (h : D2 W w B s B' t) :
    Calls Try.prog 14 #[.pointer (some ⟨B, 0, none⟩)] w fun e w' => e = .returned (.bool s.down) ∧ D2 W w' B s B' t :=
  h.look (fun O hd => (down_any O B s _ hd).mono (fun _ _ h => ⟨h.1, h.2 ▸ Fr.refl _⟩))
theorem start_d2 {W w : World} {B B' : Nat} {s t : RS} (h : D2 W w B s B' t) :
    Calls Try.prog 26 #[.pointer (some ⟨B, 0, none⟩)] w fun e w' => e = .returned (.tuple #[]) ∧ D2 W w' B (upS s) B' t :=
  h.one (fun O hd _ _ => start_any O _ s _ hd)

set_option maxHeartbeats 2000000 in
theorem same_any (v : Value) (l : List AC) (W w : World) (B B' : Nat) (s t : RS) (hA : Alike s t) (hg : Good s) (hgt : Good t) (h2 : D2 W w B s B' t) (hm : l.length ≤ 40) (hat : Acts W v l) :
    Calls Try.prog 28 #[.pointer (some ⟨B, 0, none⟩), .pointer (some ⟨B', 0, none⟩), v] w fun e w' => e = .returned (.bool true) ∧ D2 W w' B s B' t := by
  obtain ⟨ao, c, rfl⟩ := hat.form
  have HA := Lib.hid hat
  have H0 := Lib.hid h2
  clear hat h2
  go_enter Try.func28, Try.ntmps28
  go_wp2_with fail
  refine (down_d2 H0.out).mono ?_
  rintro e w1 ⟨rfl, h1⟩
  have H1 := Lib.hid h1
  clear h1 H0
  go_wp2_with fail
  refine (down_d2 H1.out.swap).mono ?_
  rw [← hA.down]
  rintro e w2 ⟨rfl, h2⟩
  have H2 := Lib.hid h2.swap
  clear h2 H1
  go_wp2_with fail
  go_loopw [7] (fun i wr => ∃ (k : Nat), k ≤ l.length ∧ i = .int .i64 k ∧ D2 W wr B s B' t) (fun i _ => l.length - (intOf i).toNat)
  case atStart => exact ⟨0, Nat.zero_le _, rfl, H2.out⟩
  case round =>
    obtain ⟨k, hk, rfl, hwr⟩ := hrel
    have H3 := Lib.hid hwr
    clear hwr H2
    by_cases hlt : k < l.length
    · obtain ⟨b, o, rfl, hat⟩ := HA.out.get k hlt
      generalize l[k] = a at *
      have HAT := Lib.hid hat
      clear hat
      have c1 := (HAT.out.fr H3.out.1).c1
      obtain ⟨x, hx⟩ : ∃ x : ByteArray, x = ⟨(readL s a.f 0 16777216).toArray⟩ := ⟨_, rfl⟩
      obtain ⟨re, hre⟩ : ∃ re, re = readE s a.f 0 16777216 := ⟨_, rfl⟩
      have HX := Lib.hid hx
      have HRE := Lib.hid hre
      clear hx hre
      go_wp2_with fail
      refine (H3.out.look (fun O hd => read_any O B a.f 0 16777216 s _ hd hg.inv (by decide) (by decide))).mono ?_
      rw [← HX.out, ← HRE.out]
      rintro e w4 ⟨rfl, h4⟩
      have H4 := Lib.hid h4
      clear h4 H3 c1
      have c1 := (HAT.out.fr H4.out.1).c1
      go_wp2_with fail
      refine (H4.out.swap.look (fun O hd => read_any O B' a.f 0 16777216 t _ hd hgt.inv (by decide) (by decide))).mono ?_
      rw [hA.readL, hA.readE, ← HX.out, ← HRE.out]
      rintro e w5 ⟨rfl, h5⟩
      have H5 := Lib.hid h5.swap
      clear h5 H4 c1
      have c1 := (HAT.out.fr H5.out.1).c1
      have HS1 : Hid (∀ n, Calls Try.prog 16 #[.pointer (some ⟨B, 0, none⟩), .int .i64 a.f] (w5.drewN n) fun e w' => e = .returned (.int .i64 (szE s a.f)) ∧ w' = w5.drewN n) := Lib.hid (fun n => by
        obtain ⟨_, O, O', hd, hd', _⟩ := H5.out
        exact size_any O B a.f s _ (hd.fr ⟨rfl, rfl, rfl, Nat.le_refl _, fun _ _ _ => rfl⟩))
      have HS2 : Hid (∀ n, Calls Try.prog 16 #[.pointer (some ⟨B', 0, none⟩), .int .i64 a.f] (w5.drewN n) fun e w' => e = .returned (.int .i64 (szE s a.f)) ∧ w' = w5.drewN n) := Lib.hid (fun n => by
        obtain ⟨_, O, O', hd, hd', _⟩ := H5.out
        rw [← hA.szE]
        exact size_any O' B' a.f t _ (hd'.fr ⟨rfl, rfl, rfl, Nat.le_refl _, fun _ _ _ => rfl⟩))
      go_wp2_with fail
      go_quiet (first
        | (go_at_call_of 16 (Value.pointer (some ⟨B, 0, none⟩)); exact Calls.quiet_of_same (HS1.out _))
        | (go_at_call_of 16 (Value.pointer (some ⟨B', 0, none⟩)); exact Calls.quiet_of_same (HS2.out _)))
      have h6 := H5.out.fr (show Fr w5 (w5.drewN nq) from ⟨rfl, rfl, rfl, Nat.le_refl _, fun _ _ _ => rfl⟩)
      generalize w5.drewN nq = w6 at *
      have H6 := Lib.hid h6
      clear h6 H5 HS1 HS2 c1
      go_wp2_with fail
      go_roundw
      case rel => exact ⟨k + 1, by omega, by go_num, H6.out⟩
      case measure => simp [intOf]; omega
    · go_wp2_with fail
      go_ret
      exact ⟨rfl, H3.out⟩

end Go.Proofs.Ytpjoekjakjajcaa
