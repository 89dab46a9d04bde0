/-
  The reference's ring: Valid, All, Open.
-/
import Derived.Test.YtailbappdfbjoaaDoorSe
namespace Go.Proofs.YtailbappdfbjoaaDoor
open Go.RowKit Go.MapKept Go.Maps Go.WideMaps

set_option maxHeartbeats 1000000 in
set_option maxRecDepth 100000 in
theorem rall_any (O : Nat → Prop) (B : Nat) (q : List Sd) (w : World) (h : (RefT B q).at_ w O) (hq : q.length ≤ 1000000) :
    Calls Tryd.prog 20 #[.pointer (some ⟨B, 0, none⟩)] w (CloneP q w) := by
  obtain ⟨i0, hi, hz0, hz1, hz2⟩ := info_parts infoSd
  have HIN := Lib.hid hi
  obtain ⟨ev, hr⟩ := h
  have hf := Fr.alloc w (.cells #[] 56)
  have c0 := hf.cell (cellOf (v := ev) hr.heap (i := 0) rfl)
  have HROW := Lib.hid (own_fr hr.row hf)
  have HO : Hid ((w.alloc (.cells #[] 56)).ownsRow w.heap.size 56 2 (.slice (some ⟨w.heap.size, 0, none⟩) 0 0) 0 []) := Lib.hid (World.ownsRow_lit (base := w.heap.size) (e := 56) (size := 2) w #[] 0 (Nat.le_refl _) (Nat.zero_le _) rfl)
  have hnb : (0 + q.length) * 24 ≤ 140737488355328 := by omega
  rcases hr.row.2 with ⟨rfl, hn0⟩ | ⟨g, cap, cur, rfl, _⟩
  · have HQ := Lib.hid (List.length_eq_zero_iff.1 hn0)
    clear hr hi hn0
    go_enter Tryd.func20, Tryd.ntmps20
    go_wp2_with (at_builtin; refine wpList_append_own_none rfl _ _ 50 rfl w.heap.size 56 i0 2 Tryd.underlying50 HIN.out _ 0 _ rfl HO.out rfl ?_)
    go_wp2_with fail
    go_ret
    refine ⟨_, rfl, ?_, hf⟩
    rw [HQ.out]
    exact HO.out
  · have HS := Lib.hid hf
    clear hr hi hf
    go_enter Tryd.func20, Tryd.ntmps20
    go_wp2_with ((at_builtin; refine wpList_append_own _ rfl _ _ 50 rfl w.heap.size 56 i0 (.agg #[.int .i64 0, .string (S [])]) 2 24 Tryd.underlying50 HIN.out hz0 hz1 hz2 rfl (by decide) _ _ _ rfl HO.out ⟨g, 0, none⟩ q.length cap (sdC q) rfl (sdC_length q) ?cc (sdC_one q) (by unfold maxLen; omega) hnb (by simp) ?_))
    case cc =>
      intro j u hu
      have hj : j < q.length * 2 := by have := (List.getElem?_eq_some_iff.1 hu).1; rwa [sdC_length] at this
      rw [Addr.add_mid, Nat.zero_add, HROW.out.cellAt j (by omega), hu]
    intro v1 w1 hown1 hgrow1 _
    have hg : w1.ownsRow w.heap.size 56 2 v1 q.length (sdC q) := by simpa using hown1
    have hf1 : Fr w w1 := ⟨hgrow1.os, hgrow1.tape, hgrow1.output, by have := hgrow1.size; simp at this; omega, fun k hk _ => by
      rw [hgrow1.block k (by simp; omega) (fun e => Nat.ne_of_lt hk (Option.some.inj e))]
      exact (Fr.alloc w _).block hk⟩
    go_wp2_with fail
    go_ret
    exact ⟨v1, rfl, hg, hf1⟩

set_option maxRecDepth 100000 in
theorem Has.rsign {W w : World} {B : Nat} {q : List Sd} {U : Thing} (h : Has W w ((RefT B q).sep U)) (k : Int) (t : Txt) (hq : q.length ≤ 1000000) :
    Calls Tryd.prog 39 #[.pointer (some ⟨B, 0, none⟩), .int .i64 k, .string (S t)] w fun r w' => r = .returned (sgV (signR q (k, t))) ∧ Has W w' ((RefT B (signL q (k, t))).sep U) := by
  obtain ⟨O, hT, _, hb⟩ := h.open
  refine (rsign_any O B q k t w hT hq).mono ?_
  rintro r w' ⟨rfl, hs⟩
  exact ⟨rfl, hb w' _ hs⟩
set_option maxRecDepth 100000 in
theorem Has.rall {W w : World} {B : Nat} {q : List Sd} {U : Thing} (h : Has W w ((RefT B q).sep U)) (hq : q.length ≤ 1000000) :
    Calls Tryd.prog 20 #[.pointer (some ⟨B, 0, none⟩)] w (CloneP q w) := by
  obtain ⟨O, hT, _, _⟩ := h.open
  exact rall_any O B q w hT hq
set_option maxRecDepth 100000 in
theorem Has.rring {W w : World} {U : Thing} (h : Has W w U) : Calls Tryd.prog 10 #[] w fun r w' => ∃ B, r = .returned (.pointer (some ⟨B, 0, none⟩)) ∧ Has W w' ((RefT B []).sep U) := by
  refine (rnew_any w).mono ?_
  rintro r w' ⟨B, rfl, hs⟩
  exact ⟨B, rfl, h.new hs⟩

end Go.Proofs.YtailbappdfbjoaaDoor
