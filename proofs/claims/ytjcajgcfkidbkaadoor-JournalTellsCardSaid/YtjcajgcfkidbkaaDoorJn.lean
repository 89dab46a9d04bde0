/-
  Opening a journal.
-/
import Derived.Test.YtjcajgcfkidbkaaDoorJa
import Derived.Test.YtjcajgcfkidbkaaDoorTp
namespace Go.Proofs.YtjcajgcfkidbkaaDoor
open Go.RowKit

/-- A journal is made, on a disk. -/
theorem jd_new {w w3 : World} {O Od : Nat → Prop} {B base : Nat} {s : RS} {f : Int} {v : Value} {rs : List (List UInt8)} (hd : Dk w3 Od B s) (hg : ∀ k, Od k → Gr O w w3 k) (ho : Own O w w3) (hrow : w3.ownsRow base 9 1 v rs.length (strs rs)) (hb : w.heap.size ≤ base) (hn : ∀ p, v.ownBlock = some p → ¬ Od p) :
    JDP O w (w3.alloc (.cells (jCells B f v rs false) 81)) B w3.heap.size s f rs false := by
  have hf := Fr.alloc w3 (.cells (jCells B f v rs false) 81)
  have hs : (w3.alloc (.cells (jCells B f v rs false) 81)).heap.size = w3.heap.size + 1 := by simp
  have hs0 := ho.size
  refine ⟨fun k => Od k ∨ k = w3.heap.size ∨ v.ownBlock = some k, ⟨Od, v, hd.fr hf, ⟨heap_alloc_new w3 _, row_mono (hrow.alloc _) (Nat.zero_le _)⟩, fun k hk => .inl hk, .inr (.inl rfl), fun p hp => .inr (.inr hp), fun h => Nat.lt_irrefl _ (hd.bound _ h), hn, fun k hk => ?_⟩, fun k hk => ?_, ?_⟩
  · rw [hs]
    rcases hk with hk | rfl | hk
    · have := hd.bound k hk; omega
    · omega
    · have := (hrow.lt k hk).2; omega
  · unfold Gr
    rw [hs]
    rcases hk with hk | rfl | hk
    · rcases hg k hk with h | h
      · exact .inl h
      · exact .inr ⟨h.1, by omega⟩
    · exact .inr ⟨by omega, by omega⟩
    · have := hrow.lt k hk; exact .inr ⟨by omega, by omega⟩
  · exact ho.trans (O1 := fun _ => False) (fun k hk => hk.elim) (Own.of_fr hf)

theorem strs_form {w : World} {base : Nat} {v : Value} {rs : List (List UInt8)} (h : w.ownsRow base 9 1 v rs.length (strs rs)) : ∃ a c, v = .slice a rs.length c := by
  rcases h.2 with ⟨e, h2⟩ | ⟨g, cap, cur, e, _⟩
  · exact ⟨none, 0, by rw [e, h2]⟩
  · exact ⟨_, _, e⟩
/-- The bytes of a file. -/
def fileL (s : RS) (f : Nat) : List UInt8 := bytesOf s f 0 (s.sz f)
theorem fileL_len (s : RS) (f : Nat) : (fileL s f).length = s.sz f := by simp [fileL, bytesOf]

/-- What Open comes to. -/
inductive OpenP (O : Nat → Prop) (w : World) (B f : Nat) (s : RS) (e : Ending) (w' : World) : Prop
  | lost (E : Int) (hE : syncE s f = E) (h0 : E ≠ 0) (he : e = .returned (.tuple #[.pointer none, .int .i64 E])) (hd : DkP O w w' B (syncS s f))
  | whole (hE : syncE s f = 0) (J : Nat) (rs : List (List UInt8)) (hr : Jm.Recs (fileL (syncS s f) f) rs []) (he : e = .returned (.tuple #[.pointer (some ⟨J, 0, none⟩), .int .i64 0])) (hd : JDP O w w' B J (syncS s f) f rs false)
  | torn (hE : syncE s f = 0) (rs : List (List UInt8)) (rest : List UInt8) (hr : Jm.Recs (fileL (syncS s f) f) rs rest) (h0 : rest ≠ []) (E : Int) (hT : truncE (syncS s f) f ((Jm.forms rs).length : Nat) = E) (h1 : E ≠ 0) (he : e = .returned (.tuple #[.pointer none, .int .i64 E])) (hd : DkP O w w' B (truncS (syncS s f) f ((Jm.forms rs).length : Nat)))
  | cut (hE : syncE s f = 0) (J : Nat) (rs : List (List UInt8)) (rest : List UInt8) (hr : Jm.Recs (fileL (syncS s f) f) rs rest) (h0 : rest ≠ []) (hT : truncE (syncS s f) f ((Jm.forms rs).length : Nat) = 0) (he : e = .returned (.tuple #[.pointer (some ⟨J, 0, none⟩), .int .i64 0])) (hd : JDP O w w' B J (truncS (syncS s f) f ((Jm.forms rs).length : Nat)) f rs false)

set_option maxHeartbeats 2000000 in
set_option maxRecDepth 100000 in
theorem jopen_any {w : World} {O : Nat → Prop} {B f : Nat} {s : RS} (h : Dk w O B s) (hI : Good s) (hf : f < 16) :
    Calls Tryd.prog 12 #[.pointer (some ⟨B, 0, none⟩), .int .i64 f] w (OpenP O w B f s) := by
  have hlost := (good_strike hI).lost
  have HI1 := Lib.hid (good_sync hI f)
  have h0 : ¬ ((f : Int) < 0) := by omega
  have h1 : ¬ ((16 : Int) ≤ (f : Int)) := by omega
  generalize hE : syncE s f = E
  have HE := Lib.hid hE
  clear hE
  go_enter Tryd.func12, Tryd.ntmps12
  go_wp2_with fail
  refine (sync_any O B f s w h hI.inv hI.calls hlost).mono ?_
  rintro e w1 ⟨rfl, hp1⟩
  rw [HE.out]
  have HP1 := Lib.hid hp1
  clear h hp1 hlost
  by_cases hz : E = 0
  · subst hz
    obtain ⟨hd0, ⟨f', hff, _, hheld⟩, hdn⟩ := sync_ok HE.out
    obtain ⟨O1, hk1, g1, o1⟩ := HP1.out
    obtain ⟨z, hz⟩ : ∃ z, z = (syncS s f).sz f := ⟨_, rfl⟩
    have hzm : z ≤ 16777216 := by rw [hz]; exact HI1.out.inv.max f
    have HK1 := Lib.hid hk1
    have HG1 := Lib.hid g1
    have HO1 := Lib.hid o1
    have HZ := Lib.hid hz
    have HDN := Lib.hid hdn
    clear hd0 hff hheld hk1 g1 o1 hdn HP1
    go_wp2_with fail
    refine (size_yes O1 B f _ w1 HK1.out hf).mono ?_
    rintro e w2 ⟨rfl, rfl⟩
    rw [← HZ.out]
    clear hz
    go_wp2_with fail
    refine (read_yes O1 B f 0 z z _ w2 HK1.out HI1.out.inv HDN.out hf (by omega) (by omega) (by omega) (by unfold readN; rw [← HZ.out]; omega)).mono ?_
    rintro e w3 ⟨rfl, hf3⟩
    obtain ⟨fl, hfl⟩ : ∃ fl, fl = fileL (syncS s f) f := ⟨_, rfl⟩
    have hfl2 : bytesOf (syncS s f) f 0 z = fl := by rw [hfl, HZ.out]; rfl
    have hfn : fl.length = z := by rw [hfl, fileL_len, HZ.out]
    rw [hfl2]
    have HK3 := Lib.hid (HK1.out.fr hf3)
    have HF3 := Lib.hid hf3
    have HFL := Lib.hid hfl
    clear hf3 hfl hfl2
    go_wp2_with fail
    refine (jread_any fl w3 (by omega)).mono ?_
    rintro e w4 ⟨v, rs, rest, rfl, hrc, hrow, hf4⟩
    have hlen : z = (Jm.forms rs).length + rest.length := by rw [← hfn, hrc.eq, List.length_append]
    obtain ⟨n, hn⟩ : ∃ n, n = (Jm.forms rs).length := ⟨_, rfl⟩
    rw [← hn] at hlen
    rw [← hn]
    obtain ⟨va, vc, hv⟩ := strs_form hrow
    obtain ⟨m, hm⟩ : ∃ m, m = rs.length := ⟨_, rfl⟩
    rw [← hm] at hv
    subst hv
    have HM := Lib.hid hm
    clear hm
    have HN := Lib.hid hn
    have HRC := Lib.hid hrc
    have HROW := Lib.hid hrow
    have HK4 := Lib.hid (HK3.out.fr hf4)
    have HF4 := Lib.hid hf4
    clear hn hrc hrow hf4 hfn
    have hnr : ∀ p, (Value.slice va m vc).ownBlock = some p → ¬ O1 p := fun p hp ho => by
      have h1 := (HROW.out.lt p hp).1
      have h2 := HK3.out.bound p ho
      omega
    have hfr4 := Lib.hid (HF3.out.trans HF4.out)
    have ho4 := Lib.hid (HO1.out.trans (O1 := fun _ => False) (fun k hk => hk.elim) (Own.of_fr hfr4.out))
    have hg4 : Hid (∀ k, O1 k → Gr O w w4 k) := Lib.hid (fun k hk => by
      rcases HG1.out k hk with h | h
      · exact .inl h
      · exact .inr ⟨h.1, by have := hfr4.out.size; omega⟩)
    have hb4 : w.heap.size ≤ w3.heap.size := Nat.le_trans HO1.out.size HF3.out.size
    by_cases hrest : rest = []
    · have hle : ¬ ((n : Int) < (z : Int)) := by rw [hrest] at hlen; simp at hlen; omega
      have HR := Lib.hid hrest
      have HNR := Lib.hid hnr
      clear hlen hrest hnr
      go_wp2_with fail
      refine bodyPost_ret (v := .tuple #[.pointer (some ⟨w4.heap.size, 0, none⟩), .int .i64 0]) ?_ rfl (.whole HE.out w4.heap.size rs (by rw [← HFL.out, ← HR.out]; exact HRC.out) rfl ?_)
      · simp [results, Tryd.results12, go_sem]
      · rw [HN.out]
        exact jd_new HK4.out hg4.out ho4.out HROW.out hb4 HNR.out
    · have hlt : (n : Int) < (z : Int) := by
        have : 0 < rest.length := List.length_pos_iff.2 hrest
        omega
      have HR := Lib.hid hrest
      have HNR := Lib.hid hnr
      clear hlen hrest hnr
      generalize hT : truncE (syncS s f) f n = T
      have HT := Lib.hid hT
      clear hT
      go_wp2_with fail
      refine (trunc_any O1 B f n (syncS s f) w4 HK4.out HI1.out.inv HI1.out.calls).mono ?_
      rintro e w5 ⟨rfl, O5, hk5, g5, o5⟩
      rw [HT.out]
      have HGG : Hid (∀ k, O5 k → Gr O w w5 k) := Lib.hid (fun k hk => Gr.trans ho4.out.size o5.size hg4.out k (g5 k hk))
      have HOO := Lib.hid (ho4.out.trans hg4.out o5)
      have HROW5 := Lib.hid (ownsRow_heap HROW.out (fun p hp => o5.block p (HROW.out.lt p hp).2 (HNR.out p hp)))
      have HNR5 : Hid (∀ p, (Value.slice va m vc).ownBlock = some p → ¬ O5 p) := Lib.hid (fun p hp ho => by
        rcases g5 p ho with h | h
        · exact HNR.out p hp h
        · have := (HROW.out.lt p hp).2; omega)
      have HK5 := Lib.hid hk5
      clear hk5 g5 o5
      by_cases hT0 : T = 0
      · subst hT0
        go_wp2_with fail
        refine bodyPost_ret (v := .tuple #[.pointer (some ⟨w5.heap.size, 0, none⟩), .int .i64 0]) ?_ rfl (.cut HE.out w5.heap.size rs rest (by rw [← HFL.out]; exact HRC.out) HR.out (by rw [← HN.out]; exact HT.out) rfl ?_)
        · simp [results, Tryd.results12, go_sem]
        · rw [HN.out]
          rw [HN.out] at HK5
          exact jd_new HK5.out HGG.out HOO.out HROW5.out hb4 HNR5.out
      · have hne : (T != 0) = true := bne_iff_ne.2 hT0
        go_wp2_with fail
        refine bodyPost_ret (v := .tuple #[.pointer none, .int .i64 T]) ?_ rfl (.torn HE.out rs rest (by rw [← HFL.out]; exact HRC.out) HR.out T (by rw [← HN.out]; exact HT.out) hT0 rfl (by rw [← HN.out]; exact ⟨O5, HK5.out, HGG.out, HOO.out⟩))
        simp [results, Tryd.results12, go_sem]
  · have hne : (E != 0) = true := bne_iff_ne.2 hz
    go_wp2_with fail
    refine bodyPost_ret (v := .tuple #[.pointer none, .int .i64 E]) ?_ rfl (.lost E HE.out hz rfl HP1.out)
    simp [results, Tryd.results12, go_sem]
end Go.Proofs.YtjcajgcfkidbkaaDoor
