/-
  A disk on which no crash is scheduled: what the calls of the laws do to the file of a journal.
-/
import Derived.Test.YtgncliigmjeffaaDoorJf
namespace Go.Proofs.YtgncliigmjeffaaDoor
open Go.RowKit

theorem good_down {s : RS} (h : Good s) (b : Bool) : Good { s with down := b } := ⟨⟨h.inv.nodup, h.inv.inQ, h.inv.pd, h.inv.nz, h.inv.dz0, h.inv.le, h.inv.max, h.inv.eq⟩, h.calls, h.lost, h.keep⟩
theorem good_lost {s : RS} (h : Good s) (n : Nat) (hn : n ≤ 9223372036854775807) : Good { s with lost := n } := ⟨inv_lost h.inv n, h.calls, hn, h.keep⟩
theorem crash_calls {s : RS} (h : s.calls = 0) (ks : List Int) : (crashS s ks).calls = 0 := by
  unfold crashS
  split
  · exact h
  · rfl
theorem crash_lost (s : RS) (ks : List Int) : (crashS s ks).lost = s.lost := by
  unfold crashS
  split
  · rfl
  · exact (crK_rest _ _ _).2.2.1
theorem crash_small {s : RS} (hI : Inv s) (ks : List Int) (f : Nat) : (crashS s ks).sz f ≤ s.sz f := by
  cases hd : s.down with
  | true => unfold crashS; rw [if_pos hd]; exact Nat.le_refl _
  | false => exact (crash_sz hI hd ks f).2

/-- No crash is scheduled, and the machine is up; the file has at most z bytes. -/
structure Up (s : RS) (f z : Nat) : Prop where
  good : Good s
  down : s.down = false
  calls : s.calls = 0
  sz : s.sz f ≤ z
theorem Up.mono {s : RS} {f z z' : Nat} (h : Up s f z) (hz : z ≤ z') : Up s f z' := ⟨h.good, h.down, h.calls, Nat.le_trans h.sz hz⟩
theorem u_write {s : RS} {f z : Nat} (h : Up s f z) (at_ : Int) (l : List UInt8) : writeS s f at_ l = wrS s f at_ l ∧ writeE s f at_ l = chk f at_ l.length := by
  have e : strikeS (wrS s f at_ l) = wrS s f at_ l := if_pos (by rw [(wr_calls s f at_ l).1]; exact h.calls)
  unfold writeS writeE
  rw [e, (wr_calls s f at_ l).2, h.down]
  exact ⟨rfl, rfl⟩
theorem Up.write {s : RS} {f z at_ : Nat} (h : Up s f z) (hf : f < 16) {l : List UInt8} (ha : at_ = s.sz f) (hm : at_ + l.length ≤ 16777216) : Up (writeS s f at_ l) f (z + l.length) ∧ writeE s f at_ l = 0 ∧ fileL (writeS s f at_ l) f = fileL s f ++ l := by
  have hg := good_write h.good f at_ l
  have hw := wr_file (s := s) hf ha hm
  rw [(u_write h at_ l).1] at hg ⊢
  refine ⟨⟨hg, (wr_calls s f at_ l).2.trans h.down, (wr_calls s f at_ l).1.trans h.calls, ?_⟩, by rw [(u_write h at_ l).2]; exact chk_end hf hm, hw⟩
  rw [← fileL_len, hw, List.length_append, fileL_len]
  have := h.sz; omega
theorem u_sync {s : RS} {f z : Nat} (h : Up s f z) (hf : f < 16) : (0 < s.lost ∧ syncE s f = 9 ∧ syncS s f = { s with lost := s.lost - 1 }) ∨ (s.lost = 0 ∧ syncE s f = 0 ∧ syncS s f = settleS s f) := by
  have e : strikeS s = s := strike_zero h.calls
  have hf' : ¬ ¬ isF (f : Int) := fun h => h ⟨by omega, by omega⟩
  unfold syncE syncS
  have n1 : ¬ (s.down = true) := by rw [h.down]; exact Bool.false_ne_true
  rw [e, if_neg n1, if_neg n1, if_neg n1, if_neg n1, if_neg hf', if_neg hf']
  by_cases hl : 0 < s.lost
  · rw [if_pos hl, if_pos hl]; exact .inl ⟨hl, rfl, rfl⟩
  · rw [if_neg hl, if_neg hl]; exact .inr ⟨by omega, rfl, rfl⟩
theorem Up.sync {s : RS} {f z : Nat} (h : Up s f z) (hf : f < 16) : Up (syncS s f) f z ∧ ∀ g, fileL (syncS s f) g = fileL s g := by
  have hg := good_sync h.good f
  rcases u_sync h hf with ⟨_, _, e⟩ | ⟨_, _, e⟩
  · rw [e] at hg ⊢; exact ⟨⟨hg, h.down, h.calls, h.sz⟩, fun _ => rfl⟩
  · rw [e] at hg ⊢; exact ⟨⟨hg, h.down, h.calls, h.sz⟩, fun _ => rfl⟩
theorem u_trunc {s : RS} {f z n : Nat} (h : Up s f z) (hf : f < 16) (hn : n ≤ s.sz f) : truncE s f n = 0 ∧ truncS s f n = cutS (settleS s f) f n := by
  have e : strikeS s = s := strike_zero h.calls
  have h1 : ¬ ¬ (isF f ∧ (0 : Int) ≤ n ∧ (n : Int) ≤ (s.sz (f : Int).toNat : Nat)) := by
    unfold isF
    rw [show ((f : Int)).toNat = f from rfl]; omega
  unfold truncE truncS
  rw [e, h.down, if_neg Bool.false_ne_true, if_neg Bool.false_ne_true, if_neg Bool.false_ne_true, if_neg Bool.false_ne_true, if_neg h1, if_neg h1]
  exact ⟨rfl, rfl⟩
theorem Up.trunc {s : RS} {f z n : Nat} (h : Up s f z) (hf : f < 16) (hn : n ≤ s.sz f) : Up (truncS s f n) f z ∧ fileL (truncS s f n) f = (fileL s f).take n := by
  have hg := good_trunc h.good f n
  rw [(u_trunc h hf hn).2] at hg ⊢
  refine ⟨⟨hg, h.down, h.calls, ?_⟩, cut_file hn⟩
  show (if f = f then n else _) ≤ z
  rw [if_pos rfl]; have := h.sz; omega
/-- A crash, and the machine is up again. -/
theorem Up.crash {s : RS} {f z : Nat} (h : Up s f z) (ks : List Int) : Up { crashS s ks with down := false } f z :=
  ⟨good_down (good_crash h.good ks) false, rfl, crash_calls h.calls ks, Nat.le_trans (crash_small h.good.inv ks f) h.sz⟩

/-- What Open comes to then. -/
theorem u_open {w : World} {O : Nat → Prop} {B f z : Nat} {s : RS} (h : Dk w O B s) (hU : Up s f z) (hf : f < 16) :
    Calls Tryd.prog 12 #[.pointer (some ⟨B, 0, none⟩), .int .i64 f] w fun e w' => ∃ O' s', Step O w w' O' ∧ Up s' f z ∧
      ((∃ E : Int, E ≠ 0 ∧ e = .returned (.tuple #[.pointer none, .int .i64 E]) ∧ 0 < s.lost ∧ Dk w' O' B s') ∨
       (∃ J rs rest, e = .returned (.tuple #[.pointer (some ⟨J, 0, none⟩), .int .i64 0]) ∧ JD w' O' B J s' f rs false ∧ fileL s' f = Jm.forms rs ∧ Jm.Recs (fileL s f) rs rest ∧ (rest = [] → Held s' f (s'.now f) (s'.sz f) ∧ s'.lost = 0))) := by
  have hs := hU.sync hf
  have hu := u_sync hU hf
  refine (jopen_any h hU.good hf).mono ?_
  intro e w' hp
  cases hp with
  | lost E hE h0 he hd =>
    obtain ⟨O', g1, g2, g3⟩ := hd
    refine ⟨O', _, ⟨g2, g3⟩, hs.1, .inl ⟨E, h0, he, ?_, g1⟩⟩
    rcases hu with ⟨h1, _⟩ | ⟨_, h1, _⟩
    · exact h1
    · exact absurd (hE.symm.trans h1) h0
  | whole hE J rs hr he hd =>
    obtain ⟨O', g1, g2, g3⟩ := hd
    refine ⟨O', _, ⟨g2, g3⟩, hs.1, .inr ⟨J, rs, [], he, g1, by rw [hr.eq, List.append_nil], hs.2 f ▸ hr, fun _ => ?_⟩⟩
    obtain ⟨_, ⟨fn, h1, _, h2⟩, _⟩ := sync_ok hE
    obtain rfl : f = fn := by omega
    have hl : s.lost = 0 ∧ (syncS s f).lost = 0 := by
      rcases hu with ⟨_, h1, _⟩ | ⟨h1, _, h3⟩
      · rw [h1] at hE; exact absurd hE (by decide)
      · rw [h3]; exact ⟨h1, h1⟩
    exact ⟨⟨fun i => rfl, rfl, h2.dz.trans h2.sz.symm, h2.pd⟩, hl.2⟩
  | torn hE rs rest hr h0 E hT h1' he hd =>
    have hle : (Jm.forms rs).length ≤ (syncS s f).sz f := by rw [← fileL_len, hr.eq, List.length_append]; omega
    exact absurd (hT.symm.trans (u_trunc hs.1 hf hle).1) h1'
  | cut hE J rs rest hr h0 hT he hd =>
    have hle : (Jm.forms rs).length ≤ (syncS s f).sz f := by rw [← fileL_len, hr.eq, List.length_append]; omega
    obtain ⟨O', g1, g2, g3⟩ := hd
    have ht := hs.1.trunc hf hle
    refine ⟨O', _, ⟨g2, g3⟩, ht.1, .inr ⟨J, rs, rest, he, g1, ?_, hs.2 f ▸ hr, fun h => absurd h h0⟩⟩
    rw [ht.2, hr.eq, List.take_left]
end Go.Proofs.YtgncliigmjeffaaDoor
