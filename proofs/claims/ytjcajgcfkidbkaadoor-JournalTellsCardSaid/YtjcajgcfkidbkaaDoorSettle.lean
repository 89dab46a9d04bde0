/-
  Package disk: settle.
-/
import Derived.Test.YtjcajgcfkidbkaaDoorCut
namespace Go.Proofs.YtjcajgcfkidbkaaDoor
open Go.RowKit

def settleS (s : RS) (f : Nat) : RS := { s with
  dur := fun f' i => if f' = f then s.now f i else s.dur f' i
  pd := fun f' n => if f' = f then false else s.pd f' n
  q := s.q.filter (fun p => decide (p.1 ≠ f))
  dz := fun g => if g = f then s.sz f else s.dz g }
/-- On the way: the first k pending sectors have been looked at. -/
def setK (s : RS) (f k : Nat) : RS := { s with
  dur := fun f' i => if f' = f ∧ (f, i / 64) ∈ s.q.take k then s.now f i else s.dur f' i
  pd := fun f' n => if f' = f ∧ (f, n) ∈ s.q.take k then false else s.pd f' n }
theorem setK_zero (s : RS) (f : Nat) (f' n' : Nat) : (setK s f 0).sec f' n' = s.sec f' n' := by
  refine secL_congr (fun i hi => rfl) (fun i hi => ?_) ?_ <;> dsimp only [setK] <;> rw [if_neg (by simp)]
theorem take_succ_mem {q : List (Nat × Nat)} {k : Nat} (h : k < q.length) (x : Nat × Nat) : x ∈ q.take (k + 1) ↔ x ∈ q.take k ∨ x = q[k] := by
  rw [List.take_succ_eq_append_getElem h, List.mem_append, List.mem_singleton]
theorem setK_skip (s : RS) (f k : Nat) (h : k < s.q.length) (hne : (s.q[k]).1 ≠ f) (f' n' : Nat) : (setK s f (k + 1)).sec f' n' = (setK s f k).sec f' n' := by
  have e : ∀ n, (f, n) ∈ s.q.take (k + 1) ↔ (f, n) ∈ s.q.take k := fun n => by
    rw [take_succ_mem h]
    exact ⟨fun h1 => h1.resolve_right (fun e => hne (by rw [← e])), .inl⟩
  refine secL_congr (fun i hi => rfl) (fun i hi => ?_) ?_ <;> dsimp only [setK] <;> simp only [e]
theorem setK_other (s : RS) (f k : Nat) (h : k < s.q.length) (f' n' : Nat) (hne : ¬ (f' = (s.q[k]).1 ∧ n' = (s.q[k]).2)) : (setK s f (k + 1)).sec f' n' = (setK s f k).sec f' n' := by
  have e : f' = f → ((f, n') ∈ s.q.take (k + 1) ↔ (f, n') ∈ s.q.take k) := fun ef => by
    rw [take_succ_mem h]
    exact ⟨fun h1 => h1.resolve_right (fun e => hne ⟨by rw [← e, ef], by rw [← e]⟩), .inl⟩
  refine secL_congr (fun i hi => rfl) (fun i hi => ?_) ?_ <;> dsimp only [setK]
  · rw [show (64 * n' + i) / 64 = n' by omega]
    by_cases c : f' = f
    · simp only [c, true_and, e c]
    · rw [if_neg (fun h => c h.1), if_neg (fun h => c h.1)]
  · by_cases c : f' = f
    · simp only [c, true_and, e c]
    · rw [if_neg (fun h => c h.1), if_neg (fun h => c h.1)]
theorem setK_hit (s : RS) (f k : Nat) (h : k < s.q.length) (he : (s.q[k]).1 = f) : (setK s f (k + 1)).sec f (s.q[k]).2 = secL (fun j => s.now f (64 * (s.q[k]).2 + j)) (fun j => s.now f (64 * (s.q[k]).2 + j)) false := by
  have hm : (f, (s.q[k]).2) ∈ s.q.take (k + 1) := (take_succ_mem h _).2 (.inr (by rw [← he]))
  refine secL_congr (fun i hi => rfl) (fun i hi => ?_) ?_ <;> dsimp only [setK]
  · rw [show (64 * (s.q[k]).2 + i) / 64 = (s.q[k]).2 by omega, if_pos ⟨rfl, hm⟩]
  · rw [if_pos ⟨rfl, hm⟩]
theorem setK_last (s : RS) (hI : Inv s) (f k : Nat) (h : k = s.q.length) (f' n' : Nat) : (settleS s f).sec f' n' = (setK s f k).sec f' n' := by
  subst h
  refine secL_congr (fun i hi => rfl) (fun i hi => ?_) ?_ <;> dsimp only [setK, settleS] <;> rw [List.take_length]
  · rw [show (64 * n' + i) / 64 = n' by omega]
    by_cases c : f' = f
    · subst c
      rw [if_pos rfl]
      by_cases c2 : (f', n') ∈ s.q
      · rw [if_pos ⟨rfl, c2⟩]
      · rw [if_neg (show ¬ (f' = f' ∧ (f', n') ∈ s.q) from fun h => c2 h.2)]
        exact hI.eq f' n' (by rw [← Bool.not_eq_true]; exact fun h => c2 ((hI.pd f' n').1 h)) i hi
    · rw [if_neg c, if_neg (fun h => c h.1)]
  · by_cases c : f' = f
    · subst c
      rw [if_pos rfl]
      by_cases c2 : (f', n') ∈ s.q
      · rw [if_pos ⟨rfl, c2⟩]
      · rw [if_neg (show ¬ (f' = f' ∧ (f', n') ∈ s.q) from fun h => c2 h.2)]
        exact (by rw [← Bool.not_eq_true]; exact fun h => c2 ((hI.pd f' n').1 h) : s.pd f' n' = false).symm
    · rw [if_neg c, if_neg (fun h => c h.1)]

/-! ### How long the list of pending sectors can be -/
theorem nodup_lt : ∀ (n : Nat) (l : List Nat), l.Nodup → (∀ x ∈ l, x < n) → l.length ≤ n
  | 0, l, _, h => by
    cases l with
    | nil => simp
    | cons a l => exact absurd (h a (by simp)) (by omega)
  | n + 1, l, hd, h => by
    by_cases c : n ∈ l
    · have h1 := nodup_lt n (l.erase n) (hd.erase n) (fun x hx => by
        have hx' := (hd.mem_erase_iff).1 hx
        have := h x hx'.2
        omega)
      have h2 := List.length_erase_of_mem c
      omega
    · have h1 := nodup_lt n l hd (fun x hx => by
        have := h x hx
        have : x ≠ n := fun e => c (e ▸ hx)
        omega)
      omega
theorem Inv.q_le {s : RS} (h : Inv s) : s.q.length ≤ 8388608 := by
  have h1 := nodup_lt 8388608 (s.q.map fun p => p.1 * 524288 + p.2) (by
    unfold List.Nodup
    rw [List.pairwise_map]
    refine List.Pairwise.imp_of_mem ?_ h.nodup
    intro a b ha hb hne e
    have h1 := h.inQ a ha
    have h2 := h.inQ b hb
    have h3 := h.max a.1
    have h4 := h.max b.1
    exact hne (Prod.ext (by omega) (by omega))) (by
    intro x hx
    obtain ⟨p, hp, rfl⟩ := List.mem_map.1 hx
    have := h.inQ p hp
    have := h.max p.1
    omega)
  simpa using h1

set_option maxRecDepth 100000 in
theorem infoPlace : (Tryd.prog.info? 87).map (fun i => (i.zero, i.size, i.bytes)) = some (some (.agg #[.int .i64 0, .int .i64 0]), 2, 16) := by kernel_rfl

/-- The cells of an element of the list of pending sectors. -/
theorem pend_cells {w : World} {ao : Option Addr} {cap : Nat} {q : List (Nat × Nat)} (h : w.ownsRow 0 87 2 (.slice ao q.length cap) q.length (qCells q)) (k : Nat) (hk : k < q.length) :
    ∃ g, ao = some ⟨g, 0, none⟩ ∧ w.cell? ⟨g, k * 2, none⟩ = some (.int .i64 (q[k].1)) ∧ w.cell? ⟨g, k * 2 + 1, none⟩ = some (.int .i64 (q[k].2)) := by
  rcases h.2 with ⟨h1, h2⟩ | ⟨g, cap', cur, h1, _⟩
  · omega
  · simp only [Value.slice.injEq] at h1
    obtain ⟨rfl, _, rfl⟩ := h1
    obtain ⟨c1, c2⟩ := qCells_get q k hk
    rw [Nat.mul_comm 2 k] at c1 c2
    exact ⟨g, rfl, by rw [h.cellAt _ (by omega)]; exact c1, by rw [h.cellAt _ (by omega)]; exact c2⟩
theorem pend_form {w : World} {pv : Value} {q : List (Nat × Nat)} (h : w.ownsRow 0 87 2 pv q.length (qCells q)) : ∃ ao cap, pv = .slice ao q.length cap := by
  rcases h.2 with ⟨h1, h2⟩ | ⟨g, cap', cur, h1, _⟩
  · exact ⟨none, 0, by rw [h1, h2]⟩
  · exact ⟨_, _, h1⟩

set_option maxRecDepth 100000 in
set_option maxHeartbeats 1000000 in
theorem settle_any (O : Nat → Prop) (B f : Nat) (s : RS) (w : World) (h : Dk w O B s) (hI : Inv s) (hf : f < 16) :
    Calls Tryd.prog 71 #[.pointer (some ⟨B, 0, none⟩), .int .i64 f] w fun e w' => e = .returned (.tuple #[]) ∧ DkP O w w' B (settleS s f) := by
  have hql := hI.q_le
  obtain ⟨M, C, pv, kv, hd⟩ := h
  obtain ⟨ao, cap, rfl⟩ := pend_form hd.pend
  have hbd := hd.bound
  have c33 := cellOf hd.heap hd.blk.pend
  have HI := Lib.hid hI
  have HB := Lib.hid hbd
  have HD0 := Lib.hid (hd.setM (s' := setK s f 0) (OnlyB.refl M w) (hd.secs.congr (fun f' n' _ => setK_zero s f f' n')) (hd.blk.congr (fun _ _ => rfl) (fun _ _ => rfl) rfl rfl rfl) rfl rfl)
  have HW0 := Lib.hid (Own.refl O w)
  have HO0 := Lib.hid (World.ownsRow_nil w w.heap.size 87 2)
  clear hd hI hbd
  obtain ⟨nq, hnq⟩ : ∃ nq, nq = s.q.length := ⟨_, rfl⟩
  rw [← hnq] at c33 hql
  have HN := Lib.hid hnq
  clear hnq
  obtain ⟨i0, hi, hz0, hz1, hz2⟩ := info_parts infoPlace
  have HIN := Lib.hid hi
  clear hi
  go_enter Tryd.func71, Tryd.ntmps71
  go_wp2_with fail
  go_loopw [4, 13] (fun s4 s13 wr => ∃ k : Nat, s13 = .int .i64 k ∧ k ≤ nq ∧ Hid (DkAt wr O B M C (.slice ao s.q.length cap) kv (setK s f k)) ∧ Hid (Own O w wr) ∧ Hid (wr.ownsRow w.heap.size 87 2 s4 ((s.q.take k).filter (fun p => decide (p.1 ≠ f))).length (qCells ((s.q.take k).filter (fun p => decide (p.1 ≠ f)))))) (fun _ s13 _ => nq - (intOf s13).toNat)
  case atStart => exact ⟨0, by go_num, by omega, HD0, HW0, HO0⟩
  case round =>
    obtain ⟨k, rfl, h1, HDr, HWr, HOr⟩ := hrel
    by_cases hlt : k < nq
    · have hlt' : k < s.q.length := by rw [← HN.out]; exact hlt
      obtain ⟨g, rfl, e1, e2⟩ := pend_cells HDr.out.pend k hlt'
      obtain ⟨fk, hfk⟩ : ∃ fk, fk = (s.q[k]).1 := ⟨_, rfl⟩
      obtain ⟨nk, hnk⟩ : ∃ nk, nk = (s.q[k]).2 := ⟨_, rfl⟩
      have b1 := HI.out.inQ _ (List.getElem_mem hlt')
      have b2 := HI.out.max (s.q[k]).1
      have e1' : wr.cell? ⟨g, k * 2, none⟩ = some (.int .i64 fk) := by rw [hfk]; exact e1
      have e2' : wr.cell? ⟨g, k * 2 + 1, none⟩ = some (.int .i64 nk) := by rw [hnk]; exact e2
      rw [← hfk] at b1
      have HFK := Lib.hid hfk
      have HNK := Lib.hid hnk
      clear e1 e2 b2 b1 hfk hnk
      by_cases hff : fk = f
      · subst hff
        have b3 := HI.out.inQ _ (List.getElem_mem hlt')
        have b4 := HI.out.max (s.q[k]).1
        rw [← HNK.out] at b3
        have hnb : nk < 1000000000000 := by omega
        clear b3 b4
        go_upto_region 6 with fail
        have hT : (wr.alloc (.cells #[.int .i64 fk, .int .i64 nk] 87)).heap[wr.heap.size]? = some (.cells #[.int .i64 fk, .int .i64 nk] 87 (0, 0)) := heap_alloc_new wr _
        have hnT : ¬ O wr.heap.size := fun h => Nat.lt_irrefl _ (HDr.out.bound _ h)
        have hd2 := HDr.out.fr (Fr.alloc wr (.cells #[.int .i64 fk, .int .i64 nk] 87))
        have HW2 := Lib.hid (HWr.out.fr (Fr.alloc wr (.cells #[.int .i64 fk, .int .i64 nk] 87)))
        have HO2 := Lib.hid (HOr.out.alloc (.cells #[.int .i64 fk, .int .i64 nk] 87))
        clear HDr HWr HOr e1' e2'
        generalize wr.heap.size = T6 at *
        generalize (wr.alloc (.cells #[.int .i64 fk, .int .i64 nk] 87)) = w2 at *
        have hlk : ∀ w', Fr w2 w' → (Instr.lookup 67 (.map (some M)) (.agg #[.int .i64 fk, .int .i64 nk]) false).run Tryd.prog w' = .ok (.agg ((setK s fk k).sec fk nk).toArray) w' := fun w' hw' => by
          exact ((hd2.fr hw').secs).lookup fk nk hf hnb
        have hz : ∀ w : World, (zeroValue 90).run Tryd.prog w = .ok (.agg zeroL.toArray) w := run_zeroSec
        have c0 := cellOf hd2.heap hd2.blk.files
        have p0 : w2.cell? ⟨T6, 0, none⟩ = some (.int .i64 fk) := cellOf hT rfl
        have p1 : w2.cell? ⟨T6, 1, none⟩ = some (.int .i64 nk) := cellOf hT rfl
        have hlB := hd2.bound _ hd2.oB
        have hlT : T6 < w2.heap.size := (Array.getElem?_eq_some_iff.1 hT).1
        have hst : (storeCells ⟨w2.heap.size, 0, none⟩ ((setK s fk k).sec fk nk)).run Tryd.prog (w2.alloc (.cells zeroL.toArray 90)).drew =
            .ok () (w2.alloc (.cells ((setK s fk k).sec fk nk).toArray 90)).drew := run_store_new w2 _ zeroL _ infoSec (secL_length _ _ _) zeroL_length (secL_one _ _ _)
        have HD := Lib.hid hd2
        have HT := Lib.hid hT
        clear hd2 hT
        have hXl : ((setK s fk k).sec fk nk).length = 129 := secL_length _ _ _
        generalize hX : (setK s fk k).sec fk nk = X at hlk hst hXl
        have HX0 := Lib.hid hX
        clear hX
        go_cut [7] (fun s7 wx => s7 = .pointer (some ⟨w2.heap.size, 0, none⟩) ∧ Fr w2 wx ∧ wx.heap[w2.heap.size]? = some (.cells X.toArray 90 (0, 0)))
        case first =>
          go_region_held3 (fun w' => w'.cell? ⟨B, 0, none⟩ = some (.map (some M)) ∧ w'.cell? ⟨T6, 0, none⟩ = some (.int .i64 fk) ∧ w'.cell? ⟨T6, 1, none⟩ = some (.int .i64 nk) ∧ Fr w2 w')
            (first
              | exact ⟨by go_keep, by go_keep, by go_keep, Fr.drew _⟩
              | exact ⟨by go_keep, by go_keep, by go_keep, (Fr.alloc _ _).trans (Fr.drew _)⟩)
            (fail)
          all_goals (go_wp2_with fail; go_meet; exact ⟨rfl, (Fr.alloc _ _).trans (Fr.drew _), heap_alloc_new w2.drew _⟩)
        case rest =>
          obtain ⟨rfl, hfr, hx⟩ := hcut
          have hnX : ¬ O w2.heap.size := fun h => Nat.lt_irrefl _ (HD.out.bound _ h)
          have hTX : T6 ≠ w2.heap.size := Nat.ne_of_lt hlT
          have HT3 := Lib.hid ((hfr.block hlT).trans HT.out)
          have HD3 := Lib.hid (HD.out.fr hfr)
          have HW3 := Lib.hid (HW2.out.fr hfr)
          have HO3 := Lib.hid (HO2.out.kept hfr (by cases u4.ownBlock <;> simp))
          have HX := Lib.hid hx
          have hTn : w.heap.size ≤ w2.heap.size := HW2.out.size
          have hOn : ∀ p, u4.ownBlock = some p → p ≠ w2.heap.size := fun p hp => Nat.ne_of_lt (HO2.out.lt p hp).2
          have HON := Lib.hid hOn
          clear hx hlk hst c0 p0 p1 hlB hlT HT HD HW2 HO2 hfr hOn
          generalize w2.heap.size = T7 at *
          obtain ⟨a, ha⟩ : ∃ a : Nat → UInt8, a = fun j => s.now fk (64 * nk + j) := ⟨_, rfl⟩
          obtain ⟨b, pp, hX'⟩ : ∃ (b : Nat → UInt8) (pp : Bool), X = secL a b pp := ⟨_, _, by rw [← HX0.out, ha]; rfl⟩
          obtain ⟨cs, hcs⟩ : ∃ cs, cs = (List.range 64).map (fun j => u8 (a j)) := ⟨_, rfl⟩
          have k1 : (X.drop 0).take 64 = cs := by rw [List.drop_zero, hX', hcs]; exact take_now _ _ _
          have k2 : cs.length = 64 := by rw [hcs]; simp
          have k3 : 64 + cs.length ≤ X.length := by rw [k2, hXl]; decide
          have k4 : ∀ v ∈ cs, v.oneCell' = true := by rw [hcs]; intro v hv; obtain ⟨_, _, rfl⟩ := List.mem_map.1 hv; rfl
          have k5 : (Tryd.prog.info? 88).map (·.size) = some cs.length := by rw [k2]; exact info64
          have k6 : splice X 64 cs = secL a a pp := by rw [hX', hcs, secL_dup]
          obtain ⟨L5, hL5⟩ : ∃ L5, L5 = splice X 64 cs := ⟨_, rfl⟩
          have k7 : L5.toArray[128]? = some (.bool pp) := by rw [hL5, k6, List.getElem?_toArray, secL_pend]
          have k8 : L5.toArray.setIfInBounds 128 (.bool false) = ((setK s fk (k + 1)).sec fk nk).toArray := by
            have := setK_hit s fk k hlt' (by rw [← HFK.out])
            rw [← HNK.out] at this
            rw [hL5, k6, secL_set, this, ha]
          have K1 := Lib.hid k1
          have K2 := Lib.hid k2
          have K3 := Lib.hid k3
          have K4 := Lib.hid k4
          have K5 := Lib.hid k5
          have K7 := Lib.hid k7
          have K8 := Lib.hid k8
          have KL := Lib.hid hL5
          clear k1 k2 k3 k4 k5 k6 k7 k8 hL5 hcs hX' ha hXl HX0
          go_upto_region 8 with (first
            | ((with_reducible refine wpList_load_half ?_ (.tmp 31) ?_ T7 0 ?_ X cs 90 HX.out K1.out K2.out ?_)
               · rfl
               · rfl
               · rfl)
            | ((with_reducible refine wpList_store_part ?_ 88 (.tmp 33) (.tmp 32) ?_ T7 64 cs ?_ ?_ X 90 HX.out K3.out K5.out K4.out ?_ ?_)
               · rfl
               · rfl
               · rfl
               · rfl
               · rfl
               intro w5 h5 ho5
               rw [← KL.out] at h5
               have q128 : w5.cell? ⟨T7, 128, none⟩ = some (.bool pp) := cellOf h5 K7.out
               have r128 : w5.frozen? ⟨T7, 128, none⟩ = false := frozenOf h5 128
               have H5 := Lib.hid h5
               have HO5 := Lib.hid ho5
               clear h5 ho5))
          have h5 : (w5.setCell ⟨T7, 128, none⟩ (.bool false)).heap[T7]? = some (.cells ((setK s fk (k + 1)).sec fk nk).toArray 90 (0, 0)) := by
            rw [heapB H5.out, K8.out]
          have ho5 := HO5.out.trans (OnlyB.setCell w5 T7 128 (.bool false))
          have hT5 := (ho5.block hTX).trans HT3.out
          have hD5 := HD3.out.only ho5 hnX
          have hW5 := HW3.out.only ho5 (.inr hTn)
          have HO5' := Lib.hid ((ownsRow_heap HO3.out (fun p hp => ho5.block (HON.out p hp))))
          clear ho5 H5 HO5 q128 r128 HT3 HD3 HW3 HO3 HX K1 K2 K3 K4 K5 K7 K8 KL
          generalize (w5.setCell ⟨T7, 128, none⟩ (.bool false)) = w7 at *
          have hS5 : Secs w7.drew M (setK s fk k) := hD5.secs
          obtain ⟨w6, hr6, hS6, ho6⟩ := hS5.store (s' := setK s fk (k + 1)) fk nk hf hnb (fun f' n' _ hh => setK_other s fk k hlt' f' n' (by rw [← HFK.out, ← HNK.out]; exact hh))
          unfold plc at hr6
          have hD6 : DkAt w6 O B M C (.slice (some ⟨g, 0, none⟩) s.q.length cap) kv (setK s fk (k + 1)) := hD5.setM ho6.drew_left hS6 (hD5.blk.congr (fun _ _ => rfl) (fun _ _ => rfl) rfl rfl rfl) rfl rfl
          have hW6 : Own O w w6 := hW5.only ho6.drew_left (.inl hD5.oM)
          have c0 : w7.cell? ⟨B, 0, none⟩ = some (.map (some M)) := cellOf hD5.heap hD5.blk.files
          have p0 : w7.cell? ⟨T6, 0, none⟩ = some (.int .i64 fk) := cellOf hT5 rfl
          have p1 : w7.cell? ⟨T6, 1, none⟩ = some (.int .i64 nk) := cellOf hT5 rfl
          have HT6 := Lib.hid ((ho6.drew_left.block (k := T6) (fun e => hnT (by rw [e]; exact hD5.oM))).trans hT5)
          have HOM := Lib.hid ho6.drew_left
          have HS := Lib.hid h5
          have HR := Lib.hid hr6
          have HD6 := Lib.hid hD6
          have HW6 := Lib.hid hW6
          clear h5 hT5 hD5 hW5 hS5 hr6 hS6 ho6 hD6 hW6
          generalize hY : (setK s fk (k + 1)).sec fk nk = Y at HS HR
          have hYl : Y.length = 129 := by rw [← hY]; exact secL_length _ _ _
          clear hY
          refine wp_region_still_tail 6 (by kernel_rfl) (by kernel_rfl) ?_
          simp only [List.take_succ_cons, List.take_zero, List.drop_succ_cons, List.drop_zero]
          iterate 5 still_step
          refine wpStill_load_whole rfl 90 (.tmp 7) rfl T7 rfl Y 90 _ HS.out Tryd.underlying90 rfl (by rw [hYl]; exact infoSec) ?_
          refine wpStill_nil ?_
          refine wpList_map_store rfl (.tmp 38) (.tmp 39) (.tmp 40) _ rfl M _ _ rfl rfl rfl HR.out rfl ?_
          clear HR HS hYl
          have hn4 : ∀ p, u4.ownBlock = some p → w.heap.size ≤ p := fun p hp => (HO5'.out.lt p hp).1
          have HO6 := Lib.hid (ownsRow_heap HO5'.out (fun p hp => HOM.out.block (fun e => by
            have h1 := HB.out M (HD6.out.oM)
            have h2 := hn4 p hp
            omega)))
          clear hn4
          go_wp2_with fail
          go_roundw
          case rel =>
            refine ⟨k + 1, by go_num, by omega, HD6, HW6, ?_⟩
            have e : (s.q.take (k + 1)).filter (fun p => decide (p.1 ≠ fk)) = (s.q.take k).filter (fun p => decide (p.1 ≠ fk)) := by
              rw [List.take_succ_eq_append_getElem hlt', List.filter_append]
              have : decide ((s.q[k]).1 ≠ fk) = false := by rw [decide_eq_false_iff_not]; exact fun h => h HFK.out.symm
              simp only [List.filter_cons, this, Bool.false_eq_true, if_false, List.filter_nil, List.append_nil]
            rw [e]
            exact HO6
          case measure => simp [intOf]; omega
      · have hll : ((s.q.take k).filter (fun p => decide (p.1 ≠ f))).length ≤ k := Nat.le_trans (List.length_filter_le _ _) (by rw [List.length_take]; omega)
        obtain ⟨wh, hwh⟩ : ∃ wh, wh = w.heap.size := ⟨_, rfl⟩
        have hwr : wh ≤ wr.heap.size + 1 + 1 := by have := HWr.out.size; omega
        obtain ⟨l1, hO1⟩ : ∃ l1, l1 = (s.q.take k).filter (fun p => decide (p.1 ≠ f)) := ⟨_, rfl⟩
        rw [← hwh, ← hO1] at HOr
        rw [← hO1] at hll
        have HWH := Lib.hid hwh
        have HL1 := Lib.hid hO1
        clear hwh hO1
        go_wp2_with ((at_builtin; refine wpList_append_own _ rfl _ _ 69 rfl wh 87 i0 (.agg #[.int .i64 0, .int .i64 0]) 2 16 Tryd.underlying69 HIN.out hz0 hz1 hz2 rfl (by decide) _ _ _ rfl ((HOr.out.alloc _).alloc _) ⟨wr.heap.size + 1, 0, none⟩ 1 1 [.int .i64 fk, .int .i64 nk] rfl rfl (World.news_of_block (cs := #[.int .i64 fk, .int .i64 nk]) (t := 87) (fr := (0, 0)) (heap_alloc2_new wr _ _)) (by simp [Value.oneCell']) (by unfold maxLen; omega) (by omega) (by simp; omega) ?_; intro v1 w1 hown1 hgrow1 _))
        go_roundw
        case rel =>
          have hn4 : ∀ p, u4.ownBlock = some p → wh ≤ p := fun p hp => (HOr.out.lt p hp).1
          refine ⟨k + 1, by go_num, by omega, ?_, ?_, ?_⟩
          · have d1 := ((HDr.out.fr (Fr.alloc _ _)).fr (Fr.alloc _ _)).grown hgrow1 (fun p hp h => by
              have := HB.out p h
              have := hn4 p hp
              rw [HWH.out] at this
              omega)
            exact d1.same (fun f' n' _ => setK_skip s f k hlt' (by rw [← HFK.out]; exact hff) f' n') (fun _ _ => rfl) (fun _ _ => rfl) rfl rfl rfl rfl rfl
          · exact ((HWr.out.fr (Fr.alloc _ _)).fr (Fr.alloc _ _)).grown hgrow1 (fun p hp => .inr (by rw [← HWH.out]; exact hn4 p hp))
          · have e : (s.q.take (k + 1)).filter (fun p => decide (p.1 ≠ f)) = l1 ++ [(fk, nk)] := by
              rw [List.take_succ_eq_append_getElem hlt', List.filter_append, ← HL1.out]
              have : decide ((s.q[k]).1 ≠ f) = true := by rw [← HFK.out]; simpa using hff
              simp only [List.filter_cons, this, if_true, List.filter_nil]
              rw [HFK.out, HNK.out]
            rw [e, qCells_append, ← HWH.out]
            show w1.ownsRow _ _ _ _ _ _
            rw [List.length_append]
            exact hown1
        case measure => simp [intOf]; omega
    · have hk : k = s.q.length := by rw [← HN.out]; omega
      have hrow : wr.ownsRow w.heap.size 87 2 u4 (settleS s f).q.length (qCells (settleS s f).q) := by
        have := HOr.out
        rw [hk, List.take_length] at this
        exact this
      obtain ⟨a4, m4, c4, rfl⟩ := row_form hrow
      have d1 := HDr.out.setPv (.slice a4 m4 c4) (settleS s f).q (row_base hrow (Nat.zero_le _))
      have o1 : Own O w (wr.setCell ⟨B, 33, none⟩ (.slice a4 m4 c4)) := HWr.out.setCell (.inl HDr.out.oB) _
      have c33' : wr.cell? ⟨B, 33, none⟩ = some (.slice ao s.q.length cap) := cellOf HDr.out.heap HDr.out.blk.pend
      have f33 : wr.frozen? ⟨B, 33, none⟩ = false := frozenOf HDr.out.heap _
      obtain ⟨w8, hw8⟩ : ∃ w8, w8 = wr.setCell ⟨B, 33, none⟩ (.slice a4 m4 c4) := ⟨_, rfl⟩
      rw [← hw8] at d1 o1
      have hG : ∀ k', (O k' ∨ (Value.slice a4 m4 c4).ownBlock = some k') → Gr O w w8 k' := fun k' hk' => by
        rcases hk' with hk' | hk'
        · exact .inl hk'
        · have h1 := (hrow.lt k' hk').1
          have h2 := (hrow.lt k' hk').2
          exact .inr ⟨h1, by rw [hw8]; simpa using h2⟩
      obtain ⟨z, hz⟩ : ∃ z, z = s.sz f := ⟨_, rfl⟩
      have cs : w8.cell? ⟨B, 1 + f, none⟩ = some (.int .i64 z) := by rw [hz]; exact cellOf d1.heap (d1.blk.sz f hf)
      have cd : w8.cell? ⟨B, 17 + f, none⟩ = some (.int .i64 (s.dz f)) := cellOf d1.heap (d1.blk.dz f hf)
      have fd : w8.frozen? ⟨B, 17 + f, none⟩ = false := frozenOf d1.heap _
      have hfin : DkP O w (w8.setCell ⟨B, 17 + f, none⟩ (.int .i64 z)) B (settleS s f) := by
        have d2 := d1.setB (s' := settleS s f) (17 + f) (.int .i64 z) ((d1.blk.setDz f z hf).congr (fun _ _ => rfl) (fun g _ => by dsimp only [settleS]; rw [← hz]; rfl) rfl rfl rfl) (fun f' n' _ => setK_last s HI.out f k hk f' n') rfl rfl
        exact ⟨_, ⟨M, _, _, kv, d2⟩, fun k' hk' => by
          rcases hG k' hk' with h | ⟨h, h'⟩
          · exact .inl h
          · exact .inr ⟨h, by simpa using h'⟩, o1.setCell (hG _ d1.oB) _⟩
      have HFIN := Lib.hid hfin
      have HW8 := Lib.hid hw8
      clear hfin d1 o1 hG hrow HOr HDr HWr hk hz hw8
      go_upto_region 11 with fail
      rw [← HW8.out]
      go_region
      all_goals (go_end0; exact ⟨rfl, HFIN.out.fr (Fr.drew _)⟩)
end Go.Proofs.YtjcajgcfkidbkaaDoor
