/-
  The reference's disk: settle.
-/
import Derived.Test.YtpjoekjakjajcaaFd
namespace Go.Proofs.Ytpjoekjakjajcaa
open Go.RowKit

def filtQ (l : List (Nat × Nat)) (f : Nat) : List (Nat × Nat) := l.filter (fun p => decide (p.1 ≠ f))
theorem filtQ_hit (l : List (Nat × Nat)) (f k : Nat) (hk : k < l.length) (h : (l[k]).1 = f) : filtQ (l.take (k + 1)) f = filtQ (l.take k) f := by
  unfold filtQ
  rw [List.take_add_one, List.getElem?_eq_getElem hk, List.filter_append]
  simp [h]
theorem filtQ_miss (l : List (Nat × Nat)) (f k : Nat) (hk : k < l.length) (h : (l[k]).1 ≠ f) : filtQ (l.take (k + 1)) f = filtQ (l.take k) f ++ [l[k]] := by
  unfold filtQ
  rw [List.take_add_one, List.getElem?_eq_getElem hk, List.filter_append]
  simp [h]
theorem filtQ_len (l : List (Nat × Nat)) (f k : Nat) : (filtQ (l.take k) f).length ≤ k := by
  have h1 : (filtQ (l.take k) f).length ≤ (l.take k).length := List.length_filter_le _ _
  have h2 := List.length_take_le k l
  omega
theorem infoSector : (Try.prog.info? 82).map (fun i => (i.zero, i.size, i.bytes)) = some (some (.agg #[.int .i64 0, .int .i64 0]), 2, 16) := by kernel_rfl
/-- The queue is another row now. -/
theorem RfAt.requeue {w W w' : World} {O : Nat → Prop} {B : Nat} {fv qv kv : Value} {r : FS} (h : RfAt w O B fv qv kv r) (hfr : Fr w W) {v : Value} {L : List (Nat × Nat)} {n : Nat}
    (hR : Has W w' ((RowT 82 2 v n (qCells L)).sep .emp)) (hn : n = L.length) :
    (RfT B { r with q := L }).step O w (w'.setCell ⟨B, 1, none⟩ v) := by
  subst hn
  have hf : Fr w w' := hfr.trans hR.toFr
  have hr := h.fr hf
  obtain ⟨O2, hT, hO2, _⟩ := hR.open
  have hg : ∀ p, v.ownBlock = some p → w.heap.size ≤ p ∧ p < w'.heap.size := fun p hp =>
    ⟨Nat.le_trans hfr.size (hO2 p ((hT.2 p).2 hp)), (hT.1.lt p hp).2⟩
  have hob := OnlyB.setCell w' B 1 v
  have hsz : (w'.setCell ⟨B, 1, none⟩ v).heap.size = w'.heap.size := hob.2.2.2.1
  have ho := hob.2.2.2.2
  refine ⟨fun k => O k ∨ v.ownBlock = some k, ⟨fv, v, kv, fun k hk => ?_, .inl h.oB, fun p hp => .inl (h.oF p hp), fun p hp => .inr hp, fun p hp => .inl (h.oK p hp), heapB hr.heap, ?_, ?_, ?_⟩, fun k hk => ?_, ?_⟩
  · rw [hsz]
    rcases hk with hk | hk
    · exact hr.bound k hk
    · exact (hg k hk).2
  · exact ownsRow_heap hr.files fun p hp => ho p (rowB_ne hr.files hr.heap (by decide) p hp)
  · exact ownsRow_heap hT.1 fun p hp => ho p (rowB_ne hT.1 hr.heap (by decide) p hp)
  · exact ownsRow_heap hr.keep fun p hp => ho p (rowB_ne hr.keep hr.heap (by decide) p hp)
  · rcases hk with hk | hk
    · exact .inl hk
    · exact .inr ⟨(hg k hk).1, by rw [hsz]; exact (hg k hk).2⟩
  · exact (Own.of_fr hf).only hob (.inl h.oB)

set_option maxHeartbeats 4000000 in
set_option maxRecDepth 100000 in
theorem rsettle_any {w : World} {O : Nat → Prop} {B : Nat} {r : FS} (h : (RfT B r).at_ w O) (f : Nat) (x : Txt) (hl : r.fl.length ≤ 16) (hq : r.q.length ≤ 100000) :
    Calls Try.prog 52 #[.pointer (some ⟨B, 0, none⟩), .int .i64 f, .string (S x)] w fun e w' => e = .returned (.tuple #[]) ∧ (RfT B (settleF r f x)).step O w w' := by
  have HSET := Lib.hid (rset_any h f (x, x) hl)
  clear h
  unfold fileV at HSET
  go_enter Try.func52, Try.ntmps52
  go_wp2_with fail
  refine HSET.out.mono ?_
  rintro e w1 ⟨rfl, hst, _⟩
  obtain ⟨O1, ⟨fv, qv, kv, hr⟩, hG, hW⟩ := hst
  have HG := Lib.hid hG
  have HW := Lib.hid hW
  clear hG hW HSET
  obtain ⟨_, c1, _, _, _, _⟩ := hr.c
  obtain ⟨a, c, rfl⟩ := row_at hr.queue
  have HR := Lib.hid hr
  have HQ := Lib.hid (show w1.ownsRow 0 82 2 (.slice a r.q.length c) r.q.length (qCells r.q) from hr.queue)
  clear hr
  have c1' : w1.cell? ⟨B, 1, none⟩ = some (.slice a r.q.length c) := c1
  clear c1
  have HSF := Lib.hid (show settleF r f x = { { r with fl := setF r.fl f (x, x) } with q := filtQ (r.q.take r.q.length) f } by rw [List.take_length]; rfl)
  obtain ⟨m0, hm0⟩ : ∃ m0, m0 = r.q.length := ⟨_, rfl⟩
  rw [← hm0] at c1' hq HSF
  have HN := Lib.hid hm0
  clear hm0
  have HC0 := Lib.hid c1'
  clear c1'
  obtain ⟨i0, hi, hz0, hz1, hz2⟩ := info_parts infoSector
  have HIN := Lib.hid hi
  clear hi
  go_wp2_with fail
  go_loopw [6, 7] (fun v i wr => ∃ (k : Nat), k ≤ m0 ∧ i = .int .i64 k ∧ Hid (Has w1 wr ((RowT 82 2 v (filtQ (r.q.take k) f).length (qCells (filtQ (r.q.take k) f))).sep .emp))) (fun _ i _ => m0 - (intOf i).toNat)
  case atStart => exact ⟨0, Nat.zero_le _, by go_num, Lib.hid ((Has.here w1).nilRow _ _)⟩
  case round =>
    obtain ⟨k, hk, rfl, HO⟩ := hrel
    have c1 := HO.out.toFr.cell HC0.out
    by_cases hlt : k < m0
    · have hlt' : k < r.q.length := by rw [← HN.out]; exact hlt
      have h0 : 0 < r.q.length := by omega
      obtain ⟨g, rfl, _, hc⟩ := own_cell HQ.out h0
      obtain ⟨e1, e2⟩ := qCells_get r.q k hlt'
      have d1 := HO.out.toFr.cell (hc (2 * k) _ (by omega) e1)
      have d2 := HO.out.toFr.cell (hc (2 * k + 1) _ (by omega) e2)
      rw [Nat.mul_comm] at d1 d2
      clear hc e1 e2 h0
      have HH := Lib.hid (show (r.q[k]).1 = f → filtQ (r.q.take (k + 1)) f = filtQ (r.q.take k) f from filtQ_hit r.q f k hlt')
      have HM := Lib.hid (show (r.q[k]).1 ≠ f → filtQ (r.q.take (k + 1)) f = filtQ (r.q.take k) f ++ [((r.q[k]).1, (r.q[k]).2)] from filtQ_miss r.q f k hlt')
      have HL := Lib.hid (show (filtQ (r.q.take k) f).length ≤ 100000 from Nat.le_trans (filtQ_len _ _ _) (by omega))
      generalize (r.q[k]).2 = y at *
      generalize (r.q[k]).1 = z at *
      generalize filtQ (r.q.take k) f = F0 at *
      obtain ⟨F1, hF1⟩ : ∃ F1, F1 = filtQ (r.q.take (k + 1)) f := ⟨_, rfl⟩
      rw [← hF1] at HH HM
      have HF1 := Lib.hid hF1
      clear hF1
      by_cases hx : z = f
      · have HE := Lib.hid (HH.out hx)
        subst hx
        go_wp2_with fail
        go_roundw
        case rel => exact ⟨k + 1, by omega, by go_num, by rw [← HF1.out, HE.out]; exact HO⟩
        case measure => simp [intOf]; omega
      · have HE := Lib.hid (HM.out hx)
        have hx' : (z : Int) ≠ f := by omega
        go_wp2_with (at_builtin; refine wpList_app rfl _ _ 58 rfl 82 i0 (.agg #[.int .i64 0, .int .i64 0]) 2 16 Try.underlying58 HIN.out hz0 hz1 hz2 rfl (by decide) rfl HO.out 1 1 [.int .i64 (z : Nat), .int .i64 (y : Nat)] rfl rfl (by simp [Value.oneCell']) (by decide) (by have := HL.out; omega) (by decide) ?_; intro g' cap w3 h3)
        go_wp2_with fail
        have H3 : Hid (Has w1 w3 ((RowT 82 2 (.slice (some ⟨g', 0, none⟩) (F0.length + 1) cap) F1.length (qCells F1)).sep .emp)) := Lib.hid (by
          rw [HE.out, qCells_append, List.length_append]
          exact h3)
        clear h3
        go_roundw
        case rel => exact ⟨k + 1, by omega, by go_num, by rw [← HF1.out]; exact H3⟩
        case measure => simp [intOf]; omega
    · obtain rfl : k = m0 := by omega
      obtain ⟨a6, c6, rfl⟩ := row_at HO.out.row
      have fz := frozenOf ((HR.out.fr HO.out.toFr).heap) 1
      have HS := Lib.hid (HR.out.requeue (Fr.refl w1) HO.out rfl)
      go_wp2_with fail
      go_end0
      exact ⟨rfl, by rw [HSF.out]; exact Thing.step_trans HG.out HW.out HS.out⟩
end Go.Proofs.Ytpjoekjakjajcaa
