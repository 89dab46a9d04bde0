/-
  Plain mathematics about the state of a disk, for DiskArms: a disk with a scheduled crash beside one without.
-/
import Derived.Test.YtpjoekjakjajcaaAf
namespace Go.Proofs.Ytpjoekjakjajcaa
open Go.RowKit

def arm (t : RS) (m : Nat) (ks : List Int) : RS := { t with calls := m, keep := ks }
theorem crK_arm (t : RS) (m : Nat) (kp ks : List Int) (k : Nat) : crK (arm t m kp) ks k = arm (crK t ks k) m kp := by
  induction k with
  | zero => rfl
  | succ k ih =>
    unfold crK
    split
    · rename_i h
      have h' : k < t.q.length := h
      rw [dif_pos h', ih]; rfl
    · rename_i h
      have h' : ¬ k < t.q.length := h
      rw [dif_neg h', ih]
theorem crash_arm {t : RS} (hd : t.down = false) (m : Nat) (kp ks : List Int) : crashS (arm t m kp) ks = crashS t ks := by
  have e := crK_arm t m kp ks t.q.length
  have hn : ¬ t.down = true := by rw [hd]; exact Bool.false_ne_true
  have hn' : ¬ (arm t m kp).down = true := hn
  unfold crashS
  rw [if_neg hn, if_neg hn']
  change { crK (arm t m kp) ks t.q.length with sz := (crK (arm t m kp) ks t.q.length).dz, q := [], keep := [], calls := 0, down := true } = _
  rw [e]; rfl
theorem wr_arm (t : RS) (m : Nat) (kp : List Int) (f at_ : Int) (l : List UInt8) : wrS (arm t m kp) f at_ l = arm (wrS t f at_ l) m kp := by
  unfold wrS
  split <;> rfl
theorem strike_arm (t : RS) (m : Nat) (kp : List Int) (hm : 2 ≤ m) : strikeS (arm t m kp) = arm t (m - 1) kp := by
  unfold strikeS
  have h0 : ¬ (arm t m kp).calls = 0 := by show ¬ m = 0; omega
  have h1 : ¬ (arm t m kp).calls = 1 := by show ¬ m = 1; omega
  rw [if_neg h0, if_neg h1]; rfl
theorem strike_hit {t : RS} (hd : t.down = false) (kp : List Int) : strikeS (arm t 1 kp) = crashS t kp := by
  unfold strikeS
  have h0 : ¬ (arm t 1 kp).calls = 0 := by show ¬ (1 : Nat) = 0; omega
  have h1 : (arm t 1 kp).calls = 1 := rfl
  rw [if_neg h0, if_pos h1]
  exact crash_arm hd 0 kp kp
theorem crash_down' {t : RS} (hd : t.down = false) (ks : List Int) : (crashS t ks).down = true := by
  unfold crashS
  rw [if_neg (by rw [hd]; exact Bool.false_ne_true)]
theorem settle_arm (t : RS) (m : Nat) (kp : List Int) (f : Nat) : settleS (arm t m kp) f = arm (settleS t f) m kp := rfl
theorem cut_arm (t : RS) (m : Nat) (kp : List Int) (f n : Nat) : cutS (arm t m kp) f n = arm (cutS t f n) m kp := rfl

section
variable {t : RS} (hc : t.calls = 0) (hd : t.down = false) (ks : List Int) (a : AC)
include hc hd
/-- Before the crash. -/
theorem arm_before (m : Nat) (hm : 2 ≤ m) (hk : kd a.k < 4) : doS (arm t m ks) a = arm (doS t a) (m - 1) ks ∧ doE (arm t m ks) a = doE t a ∧ (doS t a).calls = 0 ∧ (doS t a).down = false := by
  have hst : strikeS t = t := if_pos hc
  have hsa := strike_arm t m ks hm
  have hdn : ¬ t.down = true := by rw [hd]; exact Bool.false_ne_true
  have hda : ¬ (arm t m ks).down = true := hdn
  have hdb : ¬ (arm t (m - 1) ks).down = true := hdn
  unfold doS doE
  by_cases h2 : kd a.k = 2
  · rw [if_pos h2, if_pos h2, if_pos h2, if_pos h2]
    unfold syncS syncE
    rw [hst, hsa, if_neg hdn, if_neg hdn, if_neg hda, if_neg hdb, if_neg hdn, if_neg hdn, if_neg hda, if_neg hdb]
    by_cases hf : isF a.f
    · rw [if_neg (not_not_intro hf), if_neg (not_not_intro hf), if_neg (not_not_intro hf), if_neg (not_not_intro hf)]
      by_cases hl : 0 < t.lost
      · have hl' : 0 < (arm t (m - 1) ks).lost := hl
        rw [if_pos hl, if_pos hl, if_pos hl', if_pos hl']; exact ⟨rfl, rfl, hc, hd⟩
      · have hl' : ¬ 0 < (arm t (m - 1) ks).lost := hl
        rw [if_neg hl, if_neg hl, if_neg hl', if_neg hl']; exact ⟨rfl, rfl, hc, hd⟩
    · rw [if_pos hf, if_pos hf, if_pos hf, if_pos hf]; exact ⟨rfl, rfl, hc, hd⟩
  rw [if_neg h2, if_neg h2, if_neg h2, if_neg h2]
  by_cases h3 : kd a.k = 3
  · rw [if_pos h3, if_pos h3, if_pos h3, if_pos h3]
    unfold truncS truncE
    rw [hst, hsa, if_neg hdn, if_neg hdn, if_neg hda, if_neg hdb, if_neg hdn, if_neg hdn, if_neg hda, if_neg hdb]
    by_cases hf : isF a.f ∧ 0 ≤ a.n ∧ a.n ≤ t.sz a.f.toNat
    · have hf' : isF a.f ∧ 0 ≤ a.n ∧ a.n ≤ (arm t (m - 1) ks).sz a.f.toNat := hf
      rw [if_neg (not_not_intro hf), if_neg (not_not_intro hf), if_neg (not_not_intro hf'), if_neg (not_not_intro hf')]; exact ⟨rfl, rfl, hc, hd⟩
    · have hf' : ¬ (isF a.f ∧ 0 ≤ a.n ∧ a.n ≤ (arm t (m - 1) ks).sz a.f.toNat) := hf
      rw [if_pos hf, if_pos hf, if_pos hf', if_pos hf']; exact ⟨rfl, rfl, hc, hd⟩
  rw [if_neg h3, if_neg h3, if_neg h3, if_neg h3]
  have h4 : ¬ kd a.k = 4 := by omega
  have h5 : ¬ kd a.k = 5 := by omega
  have h6 : ¬ kd a.k = 6 := by omega
  have h7 : ¬ kd a.k = 7 := by omega
  simp only [if_neg h4, if_neg h5, if_neg h6, if_neg h7]
  have hw := wr_arm t m ks a.f a.n a.l
  have hwc := wr_calls t a.f a.n a.l
  have hsw : strikeS (wrS t a.f a.n a.l) = wrS t a.f a.n a.l := if_pos (hwc.1.trans hc)
  have hwd : ¬ (wrS t a.f a.n a.l).down = true := by rw [hwc.2]; exact hdn
  have hwd' : ¬ (arm (wrS t a.f a.n a.l) (m - 1) ks).down = true := hwd
  unfold writeS writeE
  rw [hw, strike_arm _ _ _ hm, hsw, if_neg hdn, if_neg hdn, if_neg hda, if_neg hda, if_neg hwd, if_neg hwd']
  exact ⟨rfl, rfl, hwc.1.trans hc, hwc.2.trans hd⟩
/-- The call with the crash, if it is a Write. -/
theorem arm_write (hk : kd a.k < 2) : doS (arm t 1 ks) a = crashS (doS t a) ks ∧ doE (arm t 1 ks) a = 8 ∧ (doS t a).down = false := by
  have hdn : ¬ t.down = true := by rw [hd]; exact Bool.false_ne_true
  have hda : ¬ (arm t 1 ks).down = true := hdn
  unfold doS doE
  have h2 : ¬ kd a.k = 2 := by omega
  have h3 : ¬ kd a.k = 3 := by omega
  have h4 : ¬ kd a.k = 4 := by omega
  have h5 : ¬ kd a.k = 5 := by omega
  have h6 : ¬ kd a.k = 6 := by omega
  have h7 : ¬ kd a.k = 7 := by omega
  simp only [if_neg h2, if_neg h3, if_neg h4, if_neg h5, if_neg h6, if_neg h7]
  have hwc := wr_calls t a.f a.n a.l
  have hsw : strikeS (wrS t a.f a.n a.l) = wrS t a.f a.n a.l := if_pos (hwc.1.trans hc)
  have hwd : (wrS t a.f a.n a.l).down = false := hwc.2.trans hd
  unfold writeS writeE
  rw [wr_arm, strike_hit hwd, hsw, if_neg hdn, if_neg hda, if_neg hda, if_pos (crash_down' hwd ks)]
  exact ⟨rfl, rfl, hwd⟩
omit hc in
/-- The call with the crash, if it is none. -/
theorem arm_other (h0 : 2 ≤ kd a.k) (hk : kd a.k < 4) : doS (arm t 1 ks) a = crashS t ks ∧ doE (arm t 1 ks) a = 8 := by
  have hdn : ¬ t.down = true := by rw [hd]; exact Bool.false_ne_true
  have hda : ¬ (arm t 1 ks).down = true := hdn
  have hcd := crash_down' hd ks
  unfold doS doE
  by_cases h2 : kd a.k = 2
  · rw [if_pos h2, if_pos h2]
    unfold syncS syncE
    rw [strike_hit hd, if_neg hda, if_neg hda, if_pos hcd, if_pos hcd]
    exact ⟨rfl, rfl⟩
  · have h3 : kd a.k = 3 := by omega
    rw [if_neg h2, if_neg h2, if_pos h3, if_pos h3]
    unfold truncS truncE
    rw [strike_hit hd, if_neg hda, if_neg hda, if_pos hcd, if_pos hcd]
    exact ⟨rfl, rfl⟩
omit hc hd in
/-- Lose. -/
theorem arm_lose (m : Nat) (hk : kd a.k = 4) : doS (arm t m ks) a = arm (doS t a) m ks ∧ doE (arm t m ks) a = 0 ∧ doE t a = 0 ∧ (doS t a).calls = t.calls ∧ (doS t a).down = t.down := by
  unfold doS doE
  have h2 : ¬ kd a.k = 2 := by omega
  have h3 : ¬ kd a.k = 3 := by omega
  rw [if_neg h2, if_neg h2, if_neg h2, if_neg h2, if_neg h3, if_neg h3, if_neg h3, if_neg h3, if_pos hk, if_pos hk, if_pos hk, if_pos hk]
  exact ⟨rfl, rfl, rfl, rfl, rfl⟩
end
/-- After the crash. -/
theorem down_do {s : RS} (hd : s.down = true) (a : AC) (hk : kd a.k < 4) : doS s a = s ∧ doE s a = 8 := by
  unfold doS doE
  by_cases h2 : kd a.k = 2
  · rw [if_pos h2, if_pos h2]; unfold syncS syncE; rw [if_pos hd, if_pos hd]; exact ⟨rfl, rfl⟩
  by_cases h3 : kd a.k = 3
  · rw [if_neg h2, if_neg h2, if_pos h3, if_pos h3]; unfold truncS truncE; rw [if_pos hd, if_pos hd]; exact ⟨rfl, rfl⟩
  have h4 : ¬ kd a.k = 4 := by omega
  have h5 : ¬ kd a.k = 5 := by omega
  have h6 : ¬ kd a.k = 6 := by omega
  have h7 : ¬ kd a.k = 7 := by omega
  simp only [if_neg h2, if_neg h3, if_neg h4, if_neg h5, if_neg h6, if_neg h7]
  unfold writeS writeE; rw [if_pos hd, if_pos hd]; exact ⟨rfl, rfl⟩
theorem lose_do {s : RS} (a : AC) (hk : kd a.k = 4) : doS s a = { s with lost := (nd a.n).toNat } ∧ doE s a = 0 := by
  unfold doS doE
  have h2 : ¬ kd a.k = 2 := by omega
  have h3 : ¬ kd a.k = 3 := by omega
  simp only [if_neg h2, if_neg h3, if_pos hk]
  exact ⟨trivial, trivial⟩

/-- What same compares. -/
structure Alike (s t : RS) : Prop where
  now : s.now = t.now
  sz : s.sz = t.sz
  down : s.down = t.down
theorem Alike.arm (t : RS) (m : Nat) (ks : List Int) : Alike (arm t m ks) t := ⟨rfl, rfl, rfl⟩
theorem Alike.up {s t : RS} (h : Alike s t) : Alike (upS s) (upS t) := ⟨h.now, h.sz, rfl⟩
theorem Alike.readE {s t : RS} (h : Alike s t) (f at_ n : Int) : readE t f at_ n = Go.Proofs.Ytpjoekjakjajcaa.readE s f at_ n := by
  unfold Go.Proofs.Ytpjoekjakjajcaa.readE; rw [h.down]
theorem Alike.readL {s t : RS} (h : Alike s t) (f at_ n : Int) : readL t f at_ n = Go.Proofs.Ytpjoekjakjajcaa.readL s f at_ n := by
  unfold Go.Proofs.Ytpjoekjakjajcaa.readL readN bytesOf; rw [h.down, h.now, h.sz]
/-- Size. -/
def szE (s : RS) (f : Int) : Int := if 0 ≤ f ∧ f < 16 then (s.sz f.toNat : Int) else 0
theorem Alike.szE {s t : RS} (h : Alike s t) (f : Int) : szE t f = Go.Proofs.Ytpjoekjakjajcaa.szE s f := by
  unfold Go.Proofs.Ytpjoekjakjajcaa.szE; rw [h.sz]
theorem size_any (O : Nat → Prop) (B : Nat) (f : Int) (s : RS) (w : World) (h : Dk w O B s) :
    Calls Try.prog 16 #[.pointer (some ⟨B, 0, none⟩), .int .i64 f] w fun e w' => e = .returned (.int .i64 (szE s f)) ∧ w' = w := by
  unfold szE
  by_cases hf : 0 ≤ f ∧ f < 16
  · rw [if_pos hf]
    obtain ⟨n, rfl⟩ : ∃ n : Nat, f = n := ⟨f.toNat, by omega⟩
    exact size_yes O B n s w h (by omega)
  · rw [if_neg hf]
    exact size_no B f w (by omega)
end Go.Proofs.Ytpjoekjakjajcaa
