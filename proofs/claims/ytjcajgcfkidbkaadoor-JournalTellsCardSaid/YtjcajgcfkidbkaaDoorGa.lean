/-
  The reference's disk beside the state of the program's: what each call does to both, said of the program's state alone.
-/
import Derived.Test.YtjcajgcfkidbkaaDoorFpz
import Derived.Test.YtjcajgcfkidbkaaDoorGd
import Derived.Test.YtjcajgcfkidbkaaDoorAr
import Derived.Test.YtjcajgcfkidbkaaDoorJf
namespace Go.Proofs.YtjcajgcfkidbkaaDoor
open Go.RowKit

theorem Ints.lt {W : World} {v : Value} {ks : List Int} (h : Ints W v ks) (p : Nat) (h0 : ks ≠ []) (hp : v.ownBlock = some p) : p < W.heap.size := by
  rcases h with ⟨h, _⟩ | ⟨b, o, c, rfl, h⟩
  · exact absurd h h0
  · have hl : 0 < ks.length := List.length_pos_iff.2 h0
    obtain rfl : b = p := by simpa [Value.ownBlock] using hp
    exact World.block_lt_of_cell? W _ (h 0 hl)

/-- The queue and the list at hand are short. -/
structure FB (n : Nat) (r : FS) : Prop where
  q : r.q.length ≤ n
  keep : r.keep.length ≤ 60
theorem FB.mono {n m : Nat} {r : FS} (h : FB n r) (hm : n ≤ m) : FB m r := ⟨Nat.le_trans h.q hm, h.keep⟩
theorem crash_keep (r : FS) (ks : List Int) : (crashF r ks).keep = r.keep := by unfold crashF; split <;> rfl
theorem comes_keep (r : FS) (f a : Int) (l : Txt) : (comesF r f a l).keep = r.keep := by
  unfold comesF
  split
  · rfl
  · split
    · rfl
    · rw [crash_keep]
      split
      · exact (add_scalars (tick r) _ _ _).2.2.1
      · rfl
theorem fb_sync {n : Nat} {r : FS} (h : FB n r) (f : Int) : FB (n + 700) (syncF r f) := by
  have h1 := comes_qlen r 0 0 []
  have h2 := comes_keep r 0 0 []
  have h3 := h.q; have h4 := h.keep
  simp only [List.length_nil] at h1
  unfold syncF
  split
  · exact ⟨by omega, by rw [h2]; exact h4⟩
  · split
    · exact ⟨by omega, by rw [h2]; exact h4⟩
    · split
      · exact ⟨by show (comesF r 0 0 []).q.length ≤ _; omega, by show (comesF r 0 0 []).keep.length ≤ _; rw [h2]; exact h4⟩
      · refine ⟨?_, by show (comesF r 0 0 []).keep.length ≤ _; rw [h2]; exact h4⟩
        show ((comesF r 0 0 []).q.filter _).length ≤ _
        exact Nat.le_trans (List.length_filter_le _ _) (by omega)
theorem fb_trunc {n : Nat} {r : FS} (h : FB n r) (f m : Int) : FB (n + 700) (truncF r f m) := by
  have h1 := comes_qlen r 0 0 []
  have h2 := comes_keep r 0 0 []
  have h3 := h.q; have h4 := h.keep
  simp only [List.length_nil] at h1
  unfold truncF
  split
  · exact ⟨by omega, by rw [h2]; exact h4⟩
  · split
    · exact ⟨by omega, by rw [h2]; exact h4⟩
    · refine ⟨?_, by show (comesF r 0 0 []).keep.length ≤ _; rw [h2]; exact h4⟩
      show ((comesF r 0 0 []).q.filter _).length ≤ _
      exact Nat.le_trans (List.length_filter_le _ _) (by omega)
theorem fb_write {n : Nat} {r : FS} (h : FB n r) (f a : Int) (l : Txt) (hl : l.length ≤ 300) : FB (n + 700) (writeF r f a l) := by
  have h1 := comes_qlen r f a l
  have h2 := comes_keep r f a l
  have h3 := h.q; have h4 := h.keep
  unfold writeF
  split
  · exact ⟨by omega, by rw [h2]; exact h4⟩
  · refine ⟨Nat.le_trans (add_qlen _ _ _ _) (by omega), ?_⟩
    rw [(add_scalars _ _ _ _).2.2.1, h2]; exact h4

theorem good_down {s : RS} (h : Good s) (b : Bool) : Good { s with down := b } := ⟨⟨h.inv.nodup, h.inv.inQ, h.inv.pd, h.inv.nz, h.inv.dz0, h.inv.le, h.inv.max, h.inv.eq⟩, h.calls, h.lost, h.keep⟩
theorem good_lost {s : RS} (h : Good s) (n : Nat) (hn : n ≤ 9223372036854775807) : Good { s with lost := n } := ⟨inv_lost h.inv n, h.calls, hn, h.keep⟩
theorem good_arm {s : RS} (h : Good s) (n : Int) (hn : n ≤ 9223372036854775807) (ks : List Int) (hk : ks.length ≤ 60) : Good (armS s n ks) :=
  ⟨inv_arm h.inv n ks, by show n.toNat ≤ _; omega, h.lost, hk⟩

/-- The reference's disk, told by the program's state. -/
def QfT (B n : Nat) (s : RS) : Thing where
  at_ w O := ∃ r, (RfT B r).at_ w O ∧ RR r s ∧ FB n r
  bound h k hk := let ⟨r, h1, _⟩ := h; (RfT B r).bound h1 k hk
  frame h hs hw := let ⟨r, h1, h2⟩ := h; ⟨r, (RfT B r).frame h1 hs hw, h2⟩
theorem QfT.mk' {B n : Nat} {s : RS} {r : FS} {O : Nat → Prop} {w w' : World} (h : (RfT B r).step O w w') (hr : RR r s) (hb : FB n r) : (QfT B n s).step O w w' :=
  let ⟨O', h1, h2, h3⟩ := h
  ⟨O', ⟨r, h1, hr, hb⟩, h2, h3⟩
theorem QfT.mono {W w : World} {U : Thing} {B n m : Nat} {s : RS} (h : Has W w ((QfT B n s).sep U)) (hm : n ≤ m) : Has W w ((QfT B m s).sep U) := by
  obtain ⟨O, ⟨r, h1, hr, hb⟩, _, hk⟩ := h.open
  exact hk w _ ⟨O, ⟨r, h1, hr, hb.mono hm⟩, fun _ h => .inl h, .refl O w⟩
theorem rr_bounds {r : FS} {s : RS} (hr : RR r s) (hg : Good s) : r.armed ≤ 9223372036854775807 ∧ r.lost ≤ 9223372036854775807 := ⟨by rw [hr.armed]; exact hg.calls, by rw [hr.lost]; exact hg.lost⟩
theorem fb_keep {n : Nat} {r : FS} (h : FB n r) : r.keep.length ≤ 17592186044416 := Nat.le_trans h.keep (by decide)

theorem Has.qnew {W w : World} {U : Thing} (h : Has W w U) :
    Calls Tryd.prog 11 #[] w fun e w' => ∃ B, e = .returned (.pointer (some ⟨B, 0, none⟩)) ∧ Has W w' ((QfT B 0 newS).sep U) := by
  refine (rnew_any w).mono ?_
  rintro e w' ⟨B, rfl, h1⟩
  exact ⟨B, rfl, h.new (QfT.mk' h1 rr_new ⟨Nat.zero_le _, Nat.zero_le _⟩)⟩
theorem Has.qsync {W w : World} {U : Thing} {B n : Nat} {s : RS} (h : Has W w ((QfT B n s).sep U)) (hg : Good s) (hn : n ≤ 50000) (f : Int) :
    Calls Tryd.prog 49 #[.pointer (some ⟨B, 0, none⟩), .int .i64 f] w fun e w' => e = .returned (.int .i64 (syncE s f)) ∧ Has W w' ((QfT B (n + 700) (syncS s f)).sep U) := by
  obtain ⟨O, ⟨r, h1, hr, hb⟩, _, hk⟩ := h.open
  obtain ⟨h2, h3⟩ := rr_sync hr hg.inv f
  rw [← h3]
  refine (rsync_any h1 hr hg.inv f (Nat.le_trans hb.q hn) (fb_keep hb) (rr_bounds hr hg).1 (rr_bounds hr hg).2).mono ?_
  rintro e w' ⟨rfl, hs⟩
  exact ⟨rfl, hk _ _ (QfT.mk' hs h2 (fb_sync hb f))⟩
theorem Has.qtrunc {W w : World} {U : Thing} {B n : Nat} {s : RS} (h : Has W w ((QfT B n s).sep U)) (hg : Good s) (hn : n ≤ 50000) (f m : Int) :
    Calls Tryd.prog 52 #[.pointer (some ⟨B, 0, none⟩), .int .i64 f, .int .i64 m] w fun e w' => e = .returned (.int .i64 (truncE s f m)) ∧ Has W w' ((QfT B (n + 700) (truncS s f m)).sep U) := by
  obtain ⟨O, ⟨r, h1, hr, hb⟩, _, hk⟩ := h.open
  obtain ⟨h2, h3⟩ := rr_trunc hr hg.inv f m
  rw [← h3]
  refine (rtrunc_any h1 hr hg.inv f m (Nat.le_trans hb.q hn) (fb_keep hb) (rr_bounds hr hg).1).mono ?_
  rintro e w' ⟨rfl, hs⟩
  exact ⟨rfl, hk _ _ (QfT.mk' hs h2 (fb_trunc hb f m))⟩
theorem Has.qwrite {W w : World} {U : Thing} {B n : Nat} {s : RS} (h : Has W w ((QfT B n s).sep U)) (hg : Good s) (hn : n ≤ 50000) (f a : Int) (l : Txt) (hl : l.length ≤ 300) :
    Calls Tryd.prog 56 #[.pointer (some ⟨B, 0, none⟩), .int .i64 f, .int .i64 a, .string (S l)] w fun e w' => e = .returned (.int .i64 (writeE s f a l)) ∧ Has W w' ((QfT B (n + 700) (writeS s f a l)).sep U) := by
  obtain ⟨O, ⟨r, h1, hr, hb⟩, _, hk⟩ := h.open
  obtain ⟨h2, h3⟩ := rr_write hr hg.inv f a l
  rw [← h3]
  refine (rwrite_any h1 hr hg.inv f a l (by omega) (Nat.le_trans hb.q hn) (fb_keep hb) (rr_bounds hr hg).1).mono ?_
  rintro e w' ⟨rfl, hs⟩
  exact ⟨rfl, hk _ _ (QfT.mk' hs h2 (fb_write hb f a l hl))⟩
theorem Has.qsize {W w : World} {U : Thing} {B n f : Nat} {s : RS} (h : Has W w ((QfT B n s).sep U)) (hf : f < 16) :
    Calls Tryd.prog 33 #[.pointer (some ⟨B, 0, none⟩), .int .i64 f] w fun e w' => e = .returned (.int .i64 (s.sz f : Nat)) ∧ Fr w w' := by
  obtain ⟨O, ⟨r, h1, hr, _⟩, _, _⟩ := h.open
  have he : ((getI r.fl (f : Int)).1.length : Nat) = s.sz f := by rw [getI_nat, (hr.now f hf).1]
  rw [← he]
  exact rsize_any h1 f hr.fine.len
theorem Has.qread {W w : World} {U : Thing} {B n : Nat} {s : RS} (f a m : Int) (h : Has W w ((QfT B n s).sep U)) (hg : Good s) (ha : a ≤ 9223372036854775807) (hm : m ≤ 9223372036854775807) :
    Calls Tryd.prog 32 #[.pointer (some ⟨B, 0, none⟩), .int .i64 f, .int .i64 a, .int .i64 m] w fun e w' => e = .returned (.tuple #[.string (S (readL s f a m)), .int .i64 (readE s f a m)]) ∧ Fr w w' := by
  obtain ⟨O, ⟨r, h1, hr, _⟩, _, _⟩ := h.open
  rw [← rr_read hr, rr_readE hr]
  exact rread_any h1 hr hg.inv f a m ha hm
theorem Has.qlose {W w : World} {U : Thing} {B n : Nat} {s : RS} (h : Has W w ((QfT B n s).sep U)) (m : Int) :
    Calls Tryd.prog 21 #[.pointer (some ⟨B, 0, none⟩), .int .i64 m] w fun e w' => e = .returned (.tuple #[]) ∧ Has W w' ((QfT B n { s with lost := m.toNat }).sep U) := by
  obtain ⟨O, ⟨r, h1, hr, hb⟩, _, hk⟩ := h.open
  refine (rlose_any h1 m).mono ?_
  rintro e w' ⟨rfl, hs⟩
  exact ⟨rfl, hk _ _ (QfT.mk' hs (rr_lose hr _) ⟨hb.q, hb.keep⟩)⟩
theorem Has.qstart {W w : World} {U : Thing} {B n : Nat} {s : RS} (h : Has W w ((QfT B n s).sep U)) :
    Calls Tryd.prog 27 #[.pointer (some ⟨B, 0, none⟩)] w fun e w' => e = .returned (.tuple #[]) ∧ Has W w' ((QfT B n { s with down := false }).sep U) := by
  obtain ⟨O, ⟨r, h1, hr, hb⟩, _, hk⟩ := h.open
  refine (rstart_any h1).mono ?_
  rintro e w' ⟨rfl, hs⟩
  exact ⟨rfl, hk _ _ (QfT.mk' hs (rr_start hr) ⟨hb.q, hb.keep⟩)⟩
theorem Has.qarm {W w : World} {U : Thing} {B n : Nat} {s : RS} (h : Has W w ((QfT B n s).sep U)) (m : Int) {v : Value} {ks : List Int} (hk : Ints W v ks) (hl : ks.length ≤ 60) :
    Calls Tryd.prog 23 #[.pointer (some ⟨B, 0, none⟩), .int .i64 m, v] w fun e w' => e = .returned (.tuple #[]) ∧ Has W w' ((QfT B n (armS s m ks)).sep U) := by
  obtain ⟨O, ⟨r, h1, hr, hb⟩, hO, hh⟩ := h.open
  have hf := h.toFr
  refine (rarm_any h1 m (hk.fr hf) (fun p h0 hp => ?_) (by omega)).mono ?_
  · have := hk.lt p h0 hp
    exact ⟨Nat.lt_of_lt_of_le this hf.size, fun hk => absurd (hO p hk) (by omega)⟩
  · rintro e w' ⟨rfl, hs⟩
    exact ⟨rfl, hh _ _ (QfT.mk' hs (rr_arm hr m ks) ⟨hb.q, hl⟩)⟩
theorem Has.qcrash {W w : World} {U : Thing} {B n : Nat} {s : RS} (h : Has W w ((QfT B n s).sep U)) (hg : Good s) (hn : n ≤ 50000) {v : Value} {ks : List Int} (hk : Ints W v ks) (hl : ks.length ≤ 60) :
    Calls Tryd.prog 25 #[.pointer (some ⟨B, 0, none⟩), v] w fun e w' => e = .returned (.tuple #[]) ∧ Has W w' ((QfT B n (crashS s ks)).sep U) := by
  obtain ⟨O, ⟨r, h1, hr, hb⟩, hO, hh⟩ := h.open
  have hf := h.toFr
  have hB : O B := by obtain ⟨_, _, _, h2⟩ := h1; exact h2.oB
  refine (rcrash_rr h1 hr hg.inv (Nat.le_trans hb.q (by omega)) ks v (hk.fr hf) (by omega) (fun p h0 hp e => ?_)).mono ?_
  · have := hk.lt p h0 hp
    have := hO B hB
    omega
  · rintro e w' ⟨rfl, hs⟩
    exact ⟨rfl, hh _ _ (QfT.mk' hs (rr_crash hr hg.inv ks) ⟨Nat.le_trans (crash_qlen _ _) hb.q, by rw [crash_keep]; exact hb.keep⟩)⟩
end Go.Proofs.YtjcajgcfkidbkaaDoor
