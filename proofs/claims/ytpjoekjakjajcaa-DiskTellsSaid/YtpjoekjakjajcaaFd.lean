/-
  The reference's disk: set.
-/
import Derived.Test.YtpjoekjakjajcaaFc
import Derived.BigQuiet
namespace Go.Proofs.Ytpjoekjakjajcaa
open Go.RowKit

def filtF (l : List (Nat × Txt × Txt)) (f : Nat) : List (Nat × Txt × Txt) := l.filter (fun p => decide (p.1 ≠ f))
theorem filtF_hit (l : List (Nat × Txt × Txt)) (f k : Nat) (hk : k < l.length) (h : (l[k]).1 = f) : filtF (l.take (k + 1)) f = filtF (l.take k) f := by
  unfold filtF
  rw [List.take_add_one, List.getElem?_eq_getElem hk, List.filter_append]
  simp [h]
theorem filtF_miss (l : List (Nat × Txt × Txt)) (f k : Nat) (hk : k < l.length) (h : (l[k]).1 ≠ f) : filtF (l.take (k + 1)) f = filtF (l.take k) f ++ [l[k]] := by
  unfold filtF
  rw [List.take_add_one, List.getElem?_eq_getElem hk, List.filter_append]
  simp [h]
theorem filtF_len (l : List (Nat × Txt × Txt)) (f k : Nat) : (filtF (l.take k) f).length ≤ k := by
  have h1 : (filtF (l.take k) f).length ≤ (l.take k).length := List.length_filter_le _ _
  have h2 := List.length_take_le k l
  omega
theorem rowB_ne {w : World} {base e size n : Nat} {v : Value} {xs : List Value} (h : w.ownsRow base e size v n xs) {B : Nat} {C : Array Value} {t : TypeId} (hB : w.heap[B]? = some (.cells C t (0, 0))) (ht : t ≠ e) : ∀ p, v.ownBlock = some p → p ≠ B := by
  rintro p hp rfl
  rcases h.2 with ⟨rfl, _⟩ | ⟨g, cap, cur, rfl, _, hg, _⟩
  · simp [Value.ownBlock] at hp
  · simp only [Value.ownBlock, Option.some.injEq] at hp
    subst hp
    rw [hg] at hB
    simp only [Option.some.injEq, Obj.cells.injEq] at hB
    exact ht hB.2.1.symm
/-- The files are another row now. -/
theorem RfAt.refile {w W w' : World} {O : Nat → Prop} {B : Nat} {fv qv kv : Value} {r : FS} (h : RfAt w O B fv qv kv r) (hfr : Fr w W) {v : Value} {L : List (Nat × Txt × Txt)} {n : Nat}
    (hR : Has W w' ((RowT 64 3 v n (fC L)).sep .emp)) (hn : n = L.length) :
    (RfT B { r with fl := L }).step O w (w'.setCell ⟨B, 0, none⟩ v) ∧ Own (fun k => k = B) w (w'.setCell ⟨B, 0, none⟩ v) := by
  subst hn
  have hf : Fr w w' := hfr.trans hR.toFr
  have hr := h.fr hf
  obtain ⟨O2, hT, hO2, _⟩ := hR.open
  have hg : ∀ p, v.ownBlock = some p → w.heap.size ≤ p ∧ p < w'.heap.size := fun p hp =>
    ⟨Nat.le_trans hfr.size (hO2 p ((hT.2 p).2 hp)), (hT.1.lt p hp).2⟩
  have hob := OnlyB.setCell w' B 0 v
  have hsz : (w'.setCell ⟨B, 0, none⟩ v).heap.size = w'.heap.size := hob.2.2.2.1
  have ho := hob.2.2.2.2
  refine ⟨?_, (Own.of_fr hf).only hob (.inl rfl)⟩
  refine ⟨fun k => O k ∨ v.ownBlock = some k, ⟨v, qv, kv, fun k hk => ?_, .inl h.oB, fun p hp => .inr hp, fun p hp => .inl (h.oQ p hp), fun p hp => .inl (h.oK p hp), heapB hr.heap, ?_, ?_, ?_⟩, fun k hk => ?_, ?_⟩
  · rw [hsz]
    rcases hk with hk | hk
    · exact hr.bound k hk
    · exact (hg k hk).2
  · exact ownsRow_heap hT.1 fun p hp => ho p (rowB_ne hT.1 hr.heap (by decide) p hp)
  · exact ownsRow_heap hr.queue fun p hp => ho p (rowB_ne hr.queue hr.heap (by decide) p hp)
  · exact ownsRow_heap hr.keep fun p hp => ho p (rowB_ne hr.keep hr.heap (by decide) p hp)
  · rcases hk with hk | hk
    · exact .inl hk
    · exact .inr ⟨(hg k hk).1, by rw [hsz]; exact (hg k hk).2⟩
  · exact (Own.of_fr hf).only hob (.inl h.oB)

set_option maxHeartbeats 4000000 in
set_option maxRecDepth 100000 in
theorem rset_any {w : World} {O : Nat → Prop} {B : Nat} {r : FS} (h : (RfT B r).at_ w O) (f : Nat) (x : Txt × Txt) (hl : r.fl.length ≤ 16) :
    Calls Try.prog 57 #[.pointer (some ⟨B, 0, none⟩), fileV f x] w fun e w' => e = .returned (.tuple #[]) ∧ (RfT B { r with fl := setF r.fl f x }).step O w w' ∧ Own (fun k => k = B) w w' := by
  obtain ⟨fv, qv, kv, hr⟩ := h
  obtain ⟨c0, _, _, _, _, _⟩ := hr.c
  obtain ⟨a, c, rfl⟩ := row_at hr.files
  have HR := Lib.hid hr
  have HQ := Lib.hid hr.files
  clear hr
  obtain ⟨x1, x2⟩ := x
  unfold fileV
  dsimp only
  have HSF := Lib.hid (show setF r.fl f (x1, x2) = filtF (r.fl.take r.fl.length) f ++ [(f, x1, x2)] by rw [List.take_length]; rfl)
  obtain ⟨m0, hnq⟩ : ∃ m0, m0 = r.fl.length := ⟨_, rfl⟩
  rw [← hnq] at c0 hl HSF
  have HN := Lib.hid hnq
  clear hnq
  go_enter Try.func57, Try.ntmps57
  go_wp2_with fail
  obtain ⟨i0, hi, hz0, hz1, hz2⟩ := info_parts infoFile
  have HIN := Lib.hid hi
  clear hi
  have hT0 := heap_alloc_new w (.cells #[.int .i64 f, .string (S x1), .string (S x2)] 64)
  have HFR := Lib.hid (Fr.alloc w (.cells #[.int .i64 f, .string (S x1), .string (S x2)] 64))
  generalize w.heap.size = T at *
  generalize (w.alloc (.cells #[.int .i64 f, .string (S x1), .string (S x2)] 64)) = W at *
  have HT0 := Lib.hid hT0
  clear hT0
  have HC0 := Lib.hid (HFR.out.cell c0)
  clear c0
  go_loopw [4, 5] (fun v i wr => ∃ (k : Nat), k ≤ m0 ∧ i = .int .i64 k ∧ Hid (Has W wr ((RowT 64 3 v (filtF (r.fl.take k) f).length (fC (filtF (r.fl.take k) f))).sep .emp))) (fun _ i _ => m0 - (intOf i).toNat)
  case atStart => exact ⟨0, Nat.zero_le _, by go_num, Lib.hid ((Has.here W).nilRow _ _)⟩
  case round =>
    obtain ⟨k, hk, rfl, HO⟩ := hrel
    have c1 := HO.out.toFr.cell HC0.out
    have hTr := (HO.out.toFr.block (Array.getElem?_eq_some_iff.1 HT0.out).1).trans HT0.out
    have t0 : wr.cell? ⟨T, 0, none⟩ = some (.int .i64 f) := cellOf hTr rfl
    have t1 : wr.cell? ⟨T, 1, none⟩ = some (.string (S x1)) := cellOf hTr rfl
    have t2 : wr.cell? ⟨T, 2, none⟩ = some (.string (S x2)) := cellOf hTr rfl
    clear hTr
    by_cases hlt : k < m0
    · have hlt' : k < r.fl.length := by rw [← HN.out]; exact hlt
      have h0 : 0 < r.fl.length := by omega
      obtain ⟨g, rfl, _, hc⟩ := own_cell HQ.out h0
      obtain ⟨e1, e2, e3⟩ := fC_get r.fl k hlt'
      have d1 := HO.out.toFr.cell (HFR.out.cell (hc (3 * k) _ (by omega) e1))
      have d2 := HO.out.toFr.cell (HFR.out.cell (hc (3 * k + 1) _ (by omega) e2))
      have d3 := HO.out.toFr.cell (HFR.out.cell (hc (3 * k + 2) _ (by omega) e3))
      rw [Nat.mul_comm] at d1 d2 d3
      clear hc e1 e2 e3 h0
      have HH := Lib.hid (show (r.fl[k]).1 = f → filtF (r.fl.take (k + 1)) f = filtF (r.fl.take k) f from filtF_hit r.fl f k hlt')
      have HM := Lib.hid (show (r.fl[k]).1 ≠ f → filtF (r.fl.take (k + 1)) f = filtF (r.fl.take k) f ++ [((r.fl[k]).1, (r.fl[k]).2.1, (r.fl[k]).2.2)] from filtF_miss r.fl f k hlt')
      have HL := Lib.hid (show (filtF (r.fl.take k) f).length ≤ 1000 from Nat.le_trans (filtF_len _ _ _) (by omega))
      generalize (r.fl[k]).2.1 = y1 at *
      generalize (r.fl[k]).2.2 = y2 at *
      generalize (r.fl[k]).1 = x at *
      generalize filtF (r.fl.take k) f = F0 at *
      obtain ⟨F1, hF1⟩ : ∃ F1, F1 = filtF (r.fl.take (k + 1)) f := ⟨_, rfl⟩
      rw [← hF1] at HH HM
      have HF1 := Lib.hid hF1
      clear hF1
      by_cases hx : x = f
      · have HE := Lib.hid (HH.out hx)
        subst hx
        go_wp2_with fail
        go_quiet (fail)
        go_wp2_with fail
        go_roundw
        case rel => exact ⟨k + 1, by omega, by go_num, by rw [← HF1.out, HE.out]; exact Lib.hid (HO.out.fr (Fr.drewN _ _))⟩
        case measure => simp [intOf]; omega
      · have HE := Lib.hid (HM.out hx)
        have hx' : (x : Int) ≠ f := by omega
        go_wp2_with fail
        go_quiet (fail)
        replace c1 := (Fr.drewN wr nq).cell c1
        replace d1 := (Fr.drewN wr nq).cell d1
        replace d2 := (Fr.drewN wr nq).cell d2
        replace d3 := (Fr.drewN wr nq).cell d3
        replace HO := Lib.hid (HO.out.fr (Fr.drewN wr nq))
        clear t0 t1 t2
        generalize wr.drewN nq = w2 at *
        go_wp2_with (at_builtin; refine wpList_app rfl _ _ 57 rfl 64 i0 (.agg #[.int .i64 0, .string (S []), .string (S [])]) 3 40 Try.underlying57 HIN.out hz0 hz1 hz2 rfl (by decide) rfl HO.out 1 1 [.int .i64 (x : Nat), .string (S y1), .string (S y2)] rfl rfl (by simp [Value.oneCell']) (by decide) (by have := HL.out; omega) (by decide) ?_; intro g' cap w3 h3)
        go_wp2_with fail
        have H3 : Hid (Has W w3 ((RowT 64 3 (.slice (some ⟨g', 0, none⟩) (F0.length + 1) cap) F1.length (fC F1)).sep .emp)) := Lib.hid (by
          rw [HE.out, fC_append, List.length_append]
          exact h3)
        clear h3
        go_roundw
        case rel => exact ⟨k + 1, by omega, by go_num, by rw [← HF1.out]; exact H3⟩
        case measure => simp [intOf]; omega
    · obtain rfl : k = m0 := by omega
      have HL := Lib.hid (show (filtF (r.fl.take k) f).length ≤ 1000 from Nat.le_trans (filtF_len _ _ _) (by omega))
      generalize filtF (r.fl.take k) f = F0 at *
      go_wp2_with (at_builtin; refine wpList_app rfl _ _ 57 rfl 64 i0 (.agg #[.int .i64 0, .string (S []), .string (S [])]) 3 40 Try.underlying57 HIN.out hz0 hz1 hz2 rfl (by decide) rfl HO.out 1 1 [.int .i64 (f : Nat), .string (S x1), .string (S x2)] rfl rfl (by simp [Value.oneCell']) (by decide) (by have := HL.out; omega) (by decide) ?_; intro g' cap w3 h3; have c2 := h3.toFr.cell HC0.out; have fz : w3.frozen? ⟨B, 0, none⟩ = false := frozenOf ((HR.out.fr (HFR.out.trans h3.toFr)).heap) 0)
      have hS := HR.out.refile HFR.out (L := setF r.fl f (x1, x2)) (n := F0.length + 1) (w' := w3) (v := .slice (some ⟨g', 0, none⟩) (F0.length + 1) cap) (by rw [HSF.out, fC_append]; exact h3) (by rw [HSF.out, List.length_append]; rfl)
      have HS := Lib.hid hS
      clear hS h3
      go_wp2_with fail
      go_end0
      exact ⟨rfl, HS.out⟩
end Go.Proofs.Ytpjoekjakjajcaa
