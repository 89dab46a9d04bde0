/-
  slices.Insert of a claim into an own row of claims.
-/
import Derived.Test.YthppefkamklakaaDoorVc
import Derived.Shelf.Spec.SlicesInsert
import Derived.Lib.AppendZerosOnto
import Derived.Laws.NewBlocks
namespace Go.Proofs.YthppefkamklakaaDoor
open Go.RowKit

theorem cC_take (l : List C) (k : Nat) : (cC l).take (k * 4) = cC (l.take k) := by
  induction l generalizing k with
  | nil => simp [cC]
  | cons a l ih =>
    cases k with
    | zero => simp [cC]
    | succ k => rw [cC_cons, List.take_succ_cons, cC_cons, show (k + 1) * 4 = k * 4 + 1 + 1 + 1 + 1 by omega]; simp only [List.take_succ_cons, ih]
theorem cC_drop (l : List C) (k : Nat) : (cC l).drop (k * 4) = cC (l.drop k) := by
  induction l generalizing k with
  | nil => simp [cC]
  | cons a l ih =>
    cases k with
    | zero => simp
    | succ k => rw [cC_cons, List.drop_succ_cons, show (k + 1) * 4 = k * 4 + 1 + 1 + 1 + 1 by omega]; simp only [List.drop_succ_cons, ih]
theorem sizeCl : (Tryd.prog.info? 68).map (·.size) = some 4 := by kernel_rfl
theorem run_copy4 (w : World) (ty : TypeId) (g o dLen dCap : Nat) (a : Addr) (sLen sCap : Nat) (cur : Array Value) (t : TypeId) (cs : List Value)
    (hg : w.heap[g]? = some (.cells cur t (0, 0))) (hn : cs.length = Nat.min sLen dLen * 4)
    (hsrc : ∀ j v, cs[j]? = some v → w.cell? (a.add j) = some v) (hfit : o + cs.length ≤ cur.size) (h1 : ∀ v ∈ cs, v.oneCell' = true) :
    (Builtin.copy_ #[85, 85] ty #[.slice (some ⟨g, o, none⟩) dLen dCap, .slice (some a) sLen sCap]).run Tryd.prog w =
      .ok (goInt (Nat.min sLen dLen)) (w.setRow g (cur.toList.take o ++ cs ++ cur.toList.drop (o + cs.length)).toArray) := by
  have hl := run_loadCells_list (P := Tryd.prog) w a cs hsrc
  have hst := run_storeCells_at Tryd.prog g o t cs 0 cur w hg (by simpa using hfit) h1
  have hs := sizeCl
  cases hq : Tryd.prog.info? 68 with
  | none => rw [hq] at hs; simp at hs
  | some i =>
    have hi : i.size = 4 := by rw [hq] at hs; simpa using hs
    simp only [Nat.add_zero] at hst
    simp [Builtin.copy_, run_underlying Tryd.underlying85, Builtin.lenOf, Builtin.firstCells, sizeOf, typeInfo, hq, hi, ← hn, hl, hst]
/-- Where the cells lie after an insertion. -/
theorem ins_cells {l : List C} {i : Nat} {c : C} {cur : List Value} (hi : i < l.length) (hl : cur.take (l.length * 4) = cC l) (hs : (l.length + 1) * 4 ≤ cur.length) :
    let cur1 := cur.take ((i + 1) * 4) ++ cC (l.drop i) ++ cur.drop ((i + 1) * 4 + (cC (l.drop i)).length)
    let cur2 := cur1.take (i * 4) ++ cC [c] ++ cur1.drop (i * 4 + (cC [c]).length)
    cur1.length = cur.length ∧ cur2.length = cur.length ∧ cur2.take ((l.length + 1) * 4) = cC (ins l i c) := by
  intro cur1 cur2
  have hd : (cC (l.drop i)).length = (l.length - i) * 4 := by rw [cC_length, List.length_drop]
  have hc1 : (cC [c]).length = 4 := by rw [cC_length]; rfl
  have h1 : cur1.length = cur.length := by
    show (cur.take ((i + 1) * 4) ++ cC (l.drop i) ++ cur.drop ((i + 1) * 4 + (cC (l.drop i)).length)).length = _
    rw [hd]; simp only [List.length_append, List.length_take, List.length_drop, hd]; omega
  have ht : cur.take (i * 4) = cC (l.take i) := by
    rw [← cC_take l i, ← hl, List.take_take, Nat.min_eq_left (by omega)]
  have hcur1 : cur1 = cur.take ((i + 1) * 4) ++ (cC (l.drop i) ++ cur.drop ((i + 1) * 4 + (cC (l.drop i)).length)) := by show _ ++ _ ++ _ = _; rw [List.append_assoc]
  have e1 : cur1.take (i * 4) = cC (l.take i) := by
    rw [hcur1, List.take_append_of_le_length (by rw [List.length_take]; omega), List.take_take, Nat.min_eq_left (by omega), ht]
  have e2 : cur1.drop (i * 4 + 4) = cC (l.drop i) ++ cur.drop ((i + 1) * 4 + (cC (l.drop i)).length) := by
    rw [hcur1, List.drop_append, List.drop_eq_nil_of_le (by rw [List.length_take]; omega), List.nil_append, List.length_take]
    rw [show i * 4 + 4 - min ((i + 1) * 4) cur.length = 0 by omega, List.drop_zero]
  have e3 : cur2 = cC (ins l i c) ++ cur.drop ((i + 1) * 4 + (cC (l.drop i)).length) := by
    show cur1.take (i * 4) ++ cC [c] ++ cur1.drop (i * 4 + (cC [c]).length) = _
    rw [hc1, e1, e2]
    unfold ins
    rw [show l.take i ++ c :: l.drop i = l.take i ++ ([c] ++ l.drop i) from rfl, cC_append, cC_append]
    simp only [List.append_assoc]
  have hil : (cC (ins l i c)).length = (l.length + 1) * 4 := by rw [cC_length, ins_len]
  refine ⟨h1, ?_, ?_⟩
  · rw [e3, List.length_append, hil, List.length_drop, hd]; omega
  · rw [e3, List.take_append_of_le_length (by omega), List.take_of_length_le (by omega)]
set_option maxHeartbeats 4000000 in
set_option maxRecDepth 100000 in
theorem insert_room (g cap i X : Nat) (cur : Array Value) (c : C) (l : List C) (w : World) (hg : w.heap[g]? = some (.cells cur 68 (0, 0))) (hcap : cur.size = cap * 4) (hroom : l.length + 1 ≤ cap) (hc63 : cap ≤ 9223372036854775807) (hi : i < l.length)
    (hl : cur.toList.take (l.length * 4) = cC l) (hX : w.heap[X]? = some (.cells #[.int .i64 c.k, .int .i64 c.n, .int .i64 c.t, .string (S c.s)] 68 (0, 0))) (hXg : X ≠ g) :
    Calls Tryd.prog 52 #[.slice (some ⟨g, 0, none⟩) l.length cap, .int .i64 i, .slice (some ⟨X, 0, none⟩) 1 1] w fun e w' =>
      e = .returned (.slice (some ⟨g, 0, none⟩) (l.length + 1) cap) ∧ ∃ cur' : Array Value, cur'.size = cap * 4 ∧ cur'.toList.take ((l.length + 1) * 4) = cC (ins l i c) ∧ OnlyB g w w' ∧ w'.heap[g]? = some (.cells cur' 68 (0, 0)) := by
  obtain ⟨hlen1, hlen2, hfin⟩ := ins_cells (c := c) hi hl (by rw [show cur.toList.length = cap * 4 by rw [← hcap]; simp]; omega)
  obtain ⟨n, hn⟩ : ∃ n, n = l.length := ⟨_, rfl⟩
  rw [← hn] at hroom hi ⊢
  have HN := Lib.hid hn
  have hov : ∀ lb cb, (callFunc 65 #[.slice (some ⟨X, 0, none⟩) 1 1, .slice (some ⟨g, (i + 1) * 4, none⟩) lb cb]).run Tryd.prog w = .ok (.value (.bool false)) w := fun lb cb => by
    rw [run_callFunc_extern Tryd.func65 (by kernel_rfl) (by kernel_rfl) (by kernel_rfl) (e := Extern.SlicesOverlaps.overlaps #[85, 85] #[4]) (by kernel_rfl),
      Lib.run_overlaps_apart w 85 4 68 Tryd.underlying85 4 (fun w => by kernel_rfl) ⟨X, 0, none⟩ ⟨g, (i + 1) * 4, none⟩ 1 1 lb cb hXg 68 68 4 (cap * 4) (by simp [World.shape?, hX]) (by simp [World.shape?, hg, hcap]) (by omega) (by simp [World.frozen?, hX]) (by simp [World.frozen?, hX])]
    rfl
  obtain ⟨A1, hA1⟩ : ∃ A1 : List Value, A1 = cur.toList.take ((i + 1) * 4) ++ cC (l.drop i) ++ cur.toList.drop ((i + 1) * 4 + (cC (l.drop i)).length) := ⟨_, rfl⟩
  obtain ⟨A2, hA2⟩ : ∃ A2 : List Value, A2 = A1.take (i * 4) ++ cC [c] ++ A1.drop (i * 4 + (cC [c]).length) := ⟨_, rfl⟩
  simp only [← hA1] at hlen1 hlen2 hfin
  simp only [← hA2] at hlen2 hfin
  have hcl : cur.toList.length = cap * 4 := by rw [← hcap]; simp
  have hdl : (cC (l.drop i)).length = (n - i) * 4 := by rw [cC_length, List.length_drop, hn]
  have hc1 : (cC [c]).length = 4 := by rw [cC_length]; rfl
  have hcells : ∀ j v, (cC l)[j]? = some v → w.cell? ⟨g, j, none⟩ = some v := fun j v hj => by
    rw [Lib.cell_of_heap hg]
    have hlt := (List.getElem?_eq_some_iff.1 hj).1
    rw [← hl, List.getElem?_take] at hj
    split at hj
    · simpa using hj
    · cases hj
  have hcp1 : ∀ (W : World), (∀ k, W.heap[k]? = w.heap[k]?) → ∀ ty dc sc, (Builtin.copy_ #[85, 85] ty #[.slice (some ⟨g, (i + 1) * 4, none⟩) (n - i) dc, .slice (some ⟨g, i * 4, none⟩) (n + 1 - i) sc]).run Tryd.prog W = .ok (goInt (Nat.min (n + 1 - i) (n - i))) (W.setRow g A1.toArray) := fun W hW ty dc sc => by
    rw [run_copy4 W ty g ((i + 1) * 4) (n - i) dc ⟨g, i * 4, none⟩ (n + 1 - i) sc cur 68 (cC (l.drop i)) (by rw [hW]; exact hg) (by rw [hdl]; simp only [Nat.min_def]; split <;> omega)
      (fun j v hj => by
        rw [Addr.add_lit, World.cell?_of_block (hW g)]
        rw [← cC_drop, List.getElem?_drop] at hj
        exact hcells _ v hj) (by rw [hdl, hcap]; omega) (cC_one _), ← hA1]
  have hcp2 : ∀ (W : World), W.heap[g]? = some (.cells A1.toArray 68 (0, 0)) → W.heap[X]? = w.heap[X]? → ∀ ty dc, (Builtin.copy_ #[85, 85] ty #[.slice (some ⟨g, i * 4, none⟩) (n + 1 - i) dc, .slice (some ⟨X, 0, none⟩) 1 1]).run Tryd.prog W = .ok (goInt (Nat.min 1 (n + 1 - i))) (W.setRow g A2.toArray) := fun W hW hWX ty dc => by
    rw [run_copy4 W ty g (i * 4) (n + 1 - i) dc ⟨X, 0, none⟩ 1 1 A1.toArray 68 (cC [c]) hW (by rw [hc1]; simp only [Nat.min_def]; split <;> omega)
      (fun j v hj => by
        rw [Addr.add_lit, Nat.zero_add, Lib.cell_of_heap (hWX.trans hX)]
        simpa [cC] using hj) (by rw [hc1]; simp [hlen1, hcl]; omega) (cC_one _), ← hA2]
  have hR1 : ∀ (W : World), (∀ k, W.heap[k]? = w.heap[k]?) → (W.setRow g A1.toArray).heap[g]? = some (.cells A1.toArray 68 (0, 0)) := fun W hW => setRow_heap W g cur _ _ _ (by rw [hW]; exact hg)
  have HF : Hid (∀ W1 : World, Fr w W1 → W1.heap.size = w.heap.size → (∀ k, W1.heap[k]? = w.heap[k]?) → ∀ W2 : World, Fr (W1.setRow g A1.toArray) W2 → W2.heap = (W1.setRow g A1.toArray).heap → OnlyB g w (W2.setRow g A2.toArray) ∧ (W2.setRow g A2.toArray).heap[g]? = some (.cells A2.toArray 68 (0, 0))) := Lib.hid fun W1 hf1 hs1 hW1 W2 hf2 hh2 => by
    refine ⟨⟨hf2.os.trans hf1.os, hf2.tape.trans hf1.tape, hf2.output.trans hf1.output, ?_, fun k hk => ?_⟩, setRow_heap W2 g A1.toArray _ _ _ (by rw [hh2]; exact hR1 W1 hW1)⟩
    · show (W2.setRow g A2.toArray).heap.size = _
      have h1 : (W2.setRow g A2.toArray).heap.size = W2.heap.size := by simp [World.setRow]
      have h2 : (W1.setRow g A1.toArray).heap.size = W1.heap.size := by simp [World.setRow]
      rw [h1, hh2, h2, hs1]
    · rw [setRow_other W2 g k _ hk, hh2, setRow_other W1 g k _ hk, hW1]
  have HFIN := Lib.hid (show A2.toArray.size = cap * 4 ∧ A2.toArray.toList.take ((l.length + 1) * 4) = cC (ins l i c) from ⟨by simp [hlen2, hcl], by simpa using hfin⟩)
  have hw1 : IntKind.i64.wrap ((i : Int) + 1) = (i : Int) + 1 := by rw [IntKind.wrap_i64]; omega
  have htn : ((i : Int) + 1).toNat = i + 1 := by omega
  have hb1 : (0 : Int) ≤ (i : Int) + 1 := by omega
  have hin : i ≤ n := by omega
  have hb3 : (i : Int) ≤ (n : Int) + 1 := by omega
  have hb2 : ¬ (cap = i + 1) := by omega
  have hb4 : ¬ (cap = i) := by omega
  clear hA1 hA2 hlen1 hlen2 hfin hcl hdl hc1 hcells hl hg hcap hX hn
  go_enter Tryd.func52, Tryd.ntmps52
  go_upto_region 15 with (simp only [hov])
  go_region_law (refine step_copy_runI rfl _ _ 85 85 rfl (.slice (some ⟨g, (i + 1) * 4, none⟩) (n - i) (cap - (i + 1))) (.slice (some ⟨g, i * 4, none⟩) (n + 1 - i) (cap - i)) (by simp [Act.eval, Act.put]) (by simp [Act.eval, Act.put]) (hcp1 w.drew (fun _ => rfl) 3 _ _) ?_)
  go_upto_region 16 with fail
  have hcp3 := hcp2 (w.drew.setRow g A1.toArray) (hR1 w.drew (fun _ => rfl)) (setRow_other w.drew g X _ hXg) 3 (cap - i)
  have HW := Lib.hid (HF.out w.drew (Fr.drew w) rfl (fun _ => rfl) (w.drew.setRow g A1.toArray) (Fr.refl _) rfl)
  clear hcp1 hcp2 hov hR1 HF
  generalize w.drew.setRow g A1.toArray = w2 at *
  go_wp2_with fail
  go_ret
  obtain ⟨h1, h2⟩ := HW.out
  exact ⟨rfl, A2.toArray, HFIN.out.1, by rw [HN.out]; exact HFIN.out.2, h1, h2⟩
set_option maxHeartbeats 4000000 in
set_option maxRecDepth 100000 in
theorem insert_grow (g cap i X : Nat) (cur : Array Value) (c : C) (l : List C) (w : World) (hg : w.heap[g]? = some (.cells cur 68 (0, 0))) (hroom : cap < l.length + 1) (hnc : l.length ≤ cap) (hi : i < l.length) (hbig : l.length ≤ 1000000)
    (hl : cur.toList.take (l.length * 4) = cC l) (hX : w.heap[X]? = some (.cells #[.int .i64 c.k, .int .i64 c.n, .int .i64 c.t, .string (S c.s)] 68 (0, 0))) :
    Calls Tryd.prog 52 #[.slice (some ⟨g, 0, none⟩) l.length cap, .int .i64 i, .slice (some ⟨X, 0, none⟩) 1 1] w fun e w' =>
      ∃ G : Nat, e = .returned (.slice (some ⟨w.heap.size, 0, none⟩) (l.length + 1) G) ∧ l.length + 1 ≤ G ∧ G ≤ maxLen ∧ Fr w w' ∧ ∃ cur' : Array Value, cur'.size = G * 4 ∧ cur'.toList.take ((l.length + 1) * 4) = cC (ins l i c) ∧ w'.heap[w.heap.size]? = some (.cells cur' 68 (0, 0)) := by
  obtain ⟨i0, hi0, hz0, hz1, hz2⟩ := info_parts infoCl
  obtain ⟨n, hn⟩ : ∃ n, n = l.length := ⟨_, rfl⟩
  rw [← hn] at hroom hi hnc hbig ⊢
  have HN := Lib.hid hn
  have hcells : ∀ j v, (cC l)[j]? = some v → w.cell? ⟨g, j, none⟩ = some v := fun j v hj => by
    rw [Lib.cell_of_heap hg]
    have hlt := (List.getElem?_eq_some_iff.1 hj).1
    rw [← hl, List.getElem?_take] at hj
    split at hj
    · simpa using hj
    · cases hj
  have hgw : g < w.heap.size := (Array.getElem?_eq_some_iff.1 hg).1
  have hXw : X < w.heap.size := (Array.getElem?_eq_some_iff.1 hX).1
  have hkk : (n : Int) + 1 - (i : Int) = ((n + 1 - i : Nat) : Int) := by omega
  have hik : i + (n + 1 - i) = n + 1 := by omega
  have htl : (cC (l.take i)).length = i * 4 := by rw [cC_length, List.length_take, ← hn]; omega
  have hold : (Builtin.firstCells i0.size i (.slice (some ⟨g, 0, none⟩) i cap)).run Tryd.prog w.drew = .ok (cC (l.take i)).toArray w.drew := by
    rw [hz1]
    exact run_firstCells_some w.drew 4 i ⟨g, 0, none⟩ i cap (cC (l.take i)) htl (fun j v hj => by
      rw [Addr.add_lit, Nat.zero_add]
      rw [← cC_take, List.getElem?_take] at hj
      split at hj
      · exact hcells j v hj
      · cases hj)
  obtain ⟨G, hG⟩ : ∃ G, G = grownCap w (n + 1) cap 68 := ⟨_, rfl⟩
  have hGn : n + 1 ≤ G := by rw [hG]; exact grownCap_ge w _ _ _
  have hG63 : G ≤ maxLen := by rw [hG]; exact grownCap_le_maxLen w (n + 1) cap 68 (by unfold maxLen; omega)
  obtain ⟨ROW, hROW⟩ : ∃ ROW : Array Value, ROW = (cC (l.take i)).toArray ++ Builtin.zeroCells (Value.agg #[.int .i64 0, .int .i64 0, .int .i64 0, .string (S [])]).cells (n + 1 - i) ++ Builtin.zeroCells (Value.agg #[.int .i64 0, .int .i64 0, .int .i64 0, .string (S [])]).cells (G - (n + 1)) := ⟨_, rfl⟩
  have hRs : ROW.size = G * 4 := by
    rw [hROW]
    simp only [Array.size_append, size_zeroCells, List.size_toArray, htl]
    show i * 4 + (n + 1 - i) * 4 + (G - (n + 1)) * 4 = G * 4
    omega
  have hRt : ROW.toList.take (i * 4) = cC (l.take i) := by
    rw [hROW]
    simp only [Array.toList_append, List.append_assoc]
    rw [List.take_append_of_le_length (by rw [htl]; exact Nat.le_refl _), List.take_of_length_le (by rw [htl]; exact Nat.le_refl _)]
  have hrz : ∀ ty, (Builtin.append_ #[85, 3] ty #[.slice (some ⟨g, 0, none⟩) i cap, .int .i64 ((n : Int) + 1 - (i : Int))]).run Tryd.prog w =
      .ok (.slice (some ⟨w.heap.size, 0, none⟩) (n + 1) G) (w.drew.alloc (.cells ROW 68)) := fun ty => by
    have h := Lib.run_append_grow_zeros w 85 3 ty 68 i0 _ .i64 .i64 Tryd.underlying85 Tryd.underlying3 hi0 hz0 (some ⟨g, 0, none⟩) i cap (cC (l.take i)) hold (n + 1 - i) (by omega) (by omega) (by omega) (by omega) (by rw [hz2]; omega) (by rw [hz2, hik]; exact growslice_fits hroom (by omega))
    rw [hik] at h
    rw [hkk, hROW, hG]
    exact h
  obtain ⟨A1, hA1⟩ : ∃ A1 : List Value, A1 = ROW.toList.take (i * 4) ++ cC [c] ++ ROW.toList.drop (i * 4 + (cC [c]).length) := ⟨_, rfl⟩
  obtain ⟨A2, hA2⟩ : ∃ A2 : List Value, A2 = A1.take ((i + 1) * 4) ++ cC (l.drop i) ++ A1.drop ((i + 1) * 4 + (cC (l.drop i)).length) := ⟨_, rfl⟩
  have hRl : ROW.toList.length = G * 4 := by rw [← hRs]; simp
  have hdl : (cC (l.drop i)).length = (n - i) * 4 := by rw [cC_length, List.length_drop, hn]
  have hc1 : (cC [c]).length = 4 := by rw [cC_length]; rfl
  have hA1l : A1.length = G * 4 := by
    rw [hA1]; simp only [List.length_append, List.length_take, List.length_drop, hc1, hRl]; omega
  have hA2l : A2.length = G * 4 := by
    rw [hA2]; simp only [List.length_append, List.length_take, List.length_drop, hdl, hA1l]; omega
  have hA1t : A1.take ((i + 1) * 4) = cC (l.take i ++ [c]) := by
    rw [hA1, hRt, cC_append, List.take_append_of_le_length (by rw [List.length_append, htl, hc1]; omega), List.take_of_length_le (by rw [List.length_append, htl, hc1]; omega)]
  have hA2t : A2.take ((n + 1) * 4) = cC (ins l i c) := by
    have e : cC (ins l i c) = cC (l.take i ++ [c]) ++ cC (l.drop i) := by
      rw [← cC_append]; unfold ins; simp
    have e1 : (cC (l.take i ++ [c])).length = (i + 1) * 4 := by rw [cC_length, List.length_append, List.length_take, ← hn]; simp; omega
    rw [hA2, hA1t, ← e, List.take_append_of_le_length (by rw [e, List.length_append, e1, hdl]; omega), List.take_of_length_le (by rw [e, List.length_append, e1, hdl]; omega)]
  obtain ⟨N, hNN⟩ : ∃ N, N = w.heap.size := ⟨_, rfl⟩
  rw [← hNN] at hrz hgw hXw ⊢
  obtain ⟨W1, hW1⟩ : ∃ W1, W1 = w.drew.alloc (.cells ROW 68) := ⟨_, rfl⟩
  rw [← hW1] at hrz
  have hfr1 : Fr w W1 := by rw [hW1]; exact (Fr.drew w).trans (Fr.alloc _ _)
  have hW1N : W1.heap[N]? = some (.cells ROW 68 (0, 0)) := by
    rw [hW1, hNN]; exact heap_alloc_new w.drew (.cells ROW 68)
  have hfrS : ∀ (W : World) (cs : Array Value), Fr w W → Fr w (W.setRow N cs) := fun W cs h => ⟨h.os, h.tape, h.output, by have := h.size; simp [World.setRow]; exact this, fun k hk hr => by
    rw [setRow_other W N k _ (by omega)]; exact h.block hk⟩
  have hcp1 : ∀ ty dc, (Builtin.copy_ #[85, 85] ty #[.slice (some ⟨N, i * 4, none⟩) (n + 1 - i) dc, .slice (some ⟨X, 0, none⟩) 1 1]).run Tryd.prog W1 = .ok (goInt (Nat.min 1 (n + 1 - i))) (W1.setRow N A1.toArray) := fun ty dc => by
    rw [run_copy4 W1 ty N (i * 4) (n + 1 - i) dc ⟨X, 0, none⟩ 1 1 ROW 68 (cC [c]) hW1N (by rw [hc1]; simp only [Nat.min_def]; split <;> omega)
      (fun j v hj => by
        rw [Addr.add_lit, Nat.zero_add, Lib.cell_of_heap (hfr1.heap hX)]
        simpa [cC] using hj) (by rw [hc1, hRs]; omega) (cC_one _), ← hA1]
  have hW2N : ∀ (W : World), W.heap = (W1.setRow N A1.toArray).heap → W.heap[N]? = some (.cells A1.toArray 68 (0, 0)) := fun W hW => by rw [hW]; exact setRow_heap W1 N ROW _ _ _ hW1N
  have hcp2 : ∀ (W : World), W.heap = (W1.setRow N A1.toArray).heap → ∀ ty dc sc, (Builtin.copy_ #[85, 85] ty #[.slice (some ⟨N, (i + 1) * 4, none⟩) (n - i) dc, .slice (some ⟨g, i * 4, none⟩) (n - i) sc]).run Tryd.prog W = .ok (goInt (Nat.min (n - i) (n - i))) (W.setRow N A2.toArray) := fun W hW ty dc sc => by
    rw [run_copy4 W ty N ((i + 1) * 4) (n - i) dc ⟨g, i * 4, none⟩ (n - i) sc A1.toArray 68 (cC (l.drop i)) (hW2N W hW) (by rw [hdl]; simp only [Nat.min_def]; split <;> omega)
      (fun j v hj => by
        rw [Addr.add_lit]
        rw [← cC_drop, List.getElem?_drop] at hj
        have h1 := hfr1.cell (hcells _ v hj)
        rw [World.cell?_of_block (w := W1) (w' := W) (by rw [hW]; exact setRow_other W1 N g _ (by omega))]
        exact h1) (by rw [hdl]; simp [hA1l]; omega) (cC_one _), ← hA2]
  have HFIN : Hid (∀ W : World, W.heap = (W1.setRow N A1.toArray).heap → Fr w W → Fr w (W.setRow N A2.toArray) ∧ (W.setRow N A2.toArray).heap[N]? = some (.cells A2.toArray 68 (0, 0))) := Lib.hid fun W hW hf => ⟨hfrS W _ hf, setRow_heap W N A1.toArray _ _ _ (hW2N W hW)⟩
  have HFW := Lib.hid (hfrS W1 A1.toArray hfr1)
  have HA2 := Lib.hid (show A2.toArray.size = G * 4 ∧ A2.toArray.toList.take ((n + 1) * 4) = cC (ins l i c) from ⟨by simp [hA2l], by simpa using hA2t⟩)
  have HG63 := Lib.hid hG63
  have hGc : G ≤ 9223372036854775807 := by unfold maxLen at hG63; omega
  have hw1 : IntKind.i64.wrap ((i : Int) + 1) = (i : Int) + 1 := by rw [IntKind.wrap_i64]; omega
  have htn : ((i : Int) + 1).toNat = i + 1 := by omega
  have hb1 : (0 : Int) ≤ (i : Int) + 1 := by omega
  have hin : i ≤ n := by omega
  have hb3 : (i : Int) ≤ (n : Int) + 1 := by omega
  have hb2 : ¬ (G = i + 1) := by omega
  have hb4 : ¬ (G = i) := by omega
  have hb5 : ¬ (cap = i) := by omega
  have hb6 : (cap : Int) < (n : Int) + 1 := by omega
  have hb7 : i ≤ cap := by omega
  clear hA1 hA2 hRl hRs hRt hROW hA1l hA2l hA1t hA2t hdl hc1 hcells hl hg hX hn hold htl hkk hik hG hG63 hW1 hW1N hfrS hfr1 hW2N hgw hXw hi0 hz0 hz1 hz2 hNN
  go_enter Tryd.func52, Tryd.ntmps52
  go_upto_region 11 with (at_builtin; go_loud (refine Lib.wpList_append_run _ rfl _ _ _ _ rfl _ _ rfl rfl _ _ (hrz _) ?_))
  have hcp3 := hcp2 (W1.setRow N A1.toArray).drew rfl 3 (G - (i + 1)) (cap - i)
  have HW := Lib.hid (HFIN.out (W1.setRow N A1.toArray).drew rfl (HFW.out.trans (Fr.drew _)))
  clear hcp1 hcp2 hrz HFIN HFW
  generalize W1.setRow N A1.toArray = w2 at *
  go_region_law (refine step_copy_runI rfl _ _ 85 85 rfl (.slice (some ⟨N, (i + 1) * 4, none⟩) (n - i) (G - (i + 1))) (.slice (some ⟨g, i * 4, none⟩) (n - i) (cap - i)) (by simp [Act.eval, Act.put]) (by simp [Act.eval, Act.put]) hcp3 ?_)
  go_wp2_with fail
  go_ret
  obtain ⟨h1, h2⟩ := HW.out
  exact ⟨G, rfl, hGn, HG63.out, h1, A2.toArray, HA2.out.1, HA2.out.2, h2⟩

/-! ### All of it -/
theorem Has.row_box {W w : World} {e size n : Nat} {v : Value} {xs : List Value} {t : TypeId} {X : Nat} {C : Array Value} {U : Thing} (h : Has W w ((RowT e size v n xs).sep ((BoxT t X C).sep U))) : ∀ p, v.ownBlock = some p → X ≠ p := by
  obtain ⟨_, O, ⟨O1, O2, h1, ⟨O3, O4, h3, _, _, h5⟩, h6, _⟩, _⟩ := h
  rintro p hp rfl
  exact h6 X ((h1.2 X).2 hp) ((h5 X).2 (.inl ((h3.2 X).2 rfl)))
/-- A row that has been changed within its own block. -/
theorem RowT.within {w w' : World} {O : Nat → Prop} {e size n m g : Nat} {v v' : Value} {xs ys : List Value} (h : (RowT e size v n xs).at_ w O) (hv : v.ownBlock = some g) (hv' : v'.ownBlock = some g) (ho : w'.ownsRow 0 e size v' m ys) (hw : OnlyB g w w') : (RowT e size v' m ys).step O w w' :=
  ⟨O, ⟨ho, fun k => by rw [h.2 k, hv, hv']⟩, fun _ h => .inl h, (Own.refl O w).only hw (.inl ((h.2 g).2 hv))⟩
theorem ins_end (l : List C) (c : C) : ins l l.length c = l ++ [c] := by unfold ins; simp
set_option maxHeartbeats 1000000 in
set_option maxRecDepth 100000 in
theorem insert_end {W w : World} {v : Value} {l : List C} {X : Nat} {c : C} {U : Thing} (h : Has W w ((RowT 68 4 v l.length (cC l)).sep ((BoxT 68 X #[.int .i64 c.k, .int .i64 c.n, .int .i64 c.t, .string (S c.s)]).sep U))) (hn : l.length ≤ 100000) :
    Calls Tryd.prog 52 #[v, .int .i64 l.length, .slice (some ⟨X, 0, none⟩) 1 1] w fun e w' => ∃ v', e = .returned v' ∧ Has W w' ((RowT 68 4 v' (l.length + 1) (cC (l ++ [c]))).sep ((BoxT 68 X #[.int .i64 c.k, .int .i64 c.n, .int .i64 c.t, .string (S c.s)]).sep U)) := by
  obtain ⟨i0, hi, hz0, hz1, hz2⟩ := info_parts infoCl
  have hX := h.right.boxed
  have HX := Lib.hid (show ∀ j u, (cC [c])[j]? = some u → w.cell? ((⟨X, 0, none⟩ : Addr).add j) = some u from fun j u hj => by
    rw [Addr.add_lit, Nat.zero_add, Lib.cell_of_heap hX]
    simpa [cC] using hj)
  obtain ⟨a, cp, hv⟩ := row_form h.row
  subst hv
  have HIN := Lib.hid hi
  have H := Lib.hid h
  have HE := Lib.hid (cC_append l [c])
  clear h hX hi
  have hb : l.length ≤ cp := by
    rcases H.out.row.2 with ⟨h1, h2⟩ | ⟨g, cap, cur, h1, _, _, h2, _⟩
    · simp at h1; omega
    · simp at h1; omega
  have hbi : (l.length : Int) ≤ (cp : Int) := by omega
  go_enter Tryd.func52, Tryd.ntmps52
  go_wp2_with (at_builtin; refine wpList_app_from rfl _ _ 85 rfl 68 i0 (.agg #[.int .i64 0, .int .i64 0, .int .i64 0, .string (S [])]) 4 40 Tryd.underlying85 HIN.out hz0 hz1 hz2 rfl (by decide) rfl H.out ⟨X, 0, none⟩ 1 1 (cC [c]) rfl (by rw [cC_length]; rfl) HX.out (cC_one _) (by decide) (by omega) (by decide) ?_; intro g cap w2 h2; have H2 := Lib.hid h2; clear h2)
  all_goals go_ret
  all_goals exact ⟨_, rfl, by rw [HE.out]; exact H2.out⟩
theorem Has.insert {W w : World} {v : Value} {l : List C} {X : Nat} {c : C} {U : Thing} (h : Has W w ((RowT 68 4 v l.length (cC l)).sep ((BoxT 68 X #[.int .i64 c.k, .int .i64 c.n, .int .i64 c.t, .string (S c.s)]).sep U))) (hn : l.length ≤ 100000) (i : Nat) (hi : i ≤ l.length) :
    Calls Tryd.prog 52 #[v, .int .i64 i, .slice (some ⟨X, 0, none⟩) 1 1] w fun e w' => ∃ v', e = .returned v' ∧ Has W w' ((RowT 68 4 v' (ins l i c).length (cC (ins l i c))).sep ((BoxT 68 X #[.int .i64 c.k, .int .i64 c.n, .int .i64 c.t, .string (S c.s)]).sep U)) := by
  rcases Nat.lt_or_ge i l.length with hlt | hge
  · have hrow := h.row
    have hX := h.right.boxed
    have hXg := h.row_box
    obtain ⟨O, hT, _, hb⟩ := h.open
    rcases hrow.2 with ⟨rfl, h0⟩ | ⟨g, cap, cur, rfl, _, hg, hnc, hc63, hcs, ht⟩
    · omega
    · rcases Nat.lt_or_ge cap (l.length + 1) with hr | hr
      · refine (insert_grow g cap i X cur c l w hg hr hnc hlt (by omega) ht hX).mono ?_
        rintro e w' ⟨G, rfl, h1, h2, hf, cur', h3, h4, h5⟩
        refine ⟨_, rfl, hb w' _ ⟨fun k => k = w.heap.size, ⟨?_, fun k => by simp [Value.ownBlock, eq_comm]⟩, fun k hk => .inr ?_, .of_fr hf⟩⟩
        · rw [ins_len]
          exact ⟨by rw [cC_length, ins_len], .inr ⟨w.heap.size, G, cur', rfl, Nat.zero_le _, h5, h1, h2, h3, h4⟩⟩
        · subst hk; exact ⟨Nat.le_refl _, (Array.getElem?_eq_some_iff.1 h5).1⟩
      · refine (insert_room g cap i X cur c l w hg hcs hr (by unfold maxLen at hc63; omega) hlt ht hX (hXg g rfl)).mono ?_
        rintro e w' ⟨rfl, cur', h1, h2, h3, h4⟩
        refine ⟨_, rfl, hb w' _ (RowT.within hT rfl rfl ?_ h3)⟩
        rw [ins_len]
        exact ⟨by rw [cC_length, ins_len], .inr ⟨g, cap, cur', rfl, Nat.zero_le _, h4, hr, hc63, h1, h2⟩⟩
  · obtain rfl : i = l.length := by omega
    rw [ins_end]
    refine (insert_end h hn).mono ?_
    rintro e w' ⟨v', rfl, h1⟩
    exact ⟨v', rfl, by rw [List.length_append]; exact h1⟩
end Go.Proofs.YthppefkamklakaaDoor
