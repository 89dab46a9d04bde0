/-
  Package disk: Read.
-/
import Derived.Test.YtjcajgcfkidbkaaDoorOps2
namespace Go.Proofs.YtjcajgcfkidbkaaDoor
open Go.RowKit

/-- The bytes of a file from an offset on. -/
def bytesOf (s : RS) (f at_ n : Nat) : List UInt8 := (List.range n).map (fun i => s.now f (at_ + i))
def readN (s : RS) (f at_ : Nat) (size : Int) : Nat := min size.toNat (s.sz f - at_)
def readL (s : RS) (f at_ size : Int) : List UInt8 := if s.down ∨ ¬ isF f ∨ at_ < 0 ∨ size < 0 then [] else bytesOf s f.toNat at_.toNat (readN s f.toNat at_.toNat size)
def readE (s : RS) (f at_ size : Int) : Int := if s.down then 8 else if ¬ isF f ∨ at_ < 0 ∨ size < 0 then 1 else 0

theorem Fr.only {w w1 w2 : World} (h : Fr w w1) {T : Nat} (ho : OnlyB T w1 w2) (hT : w.heap.size ≤ T) : Fr w w2 :=
  ⟨ho.1.trans h.os, ho.2.1.trans h.tape, ho.2.2.1.trans h.output, by rw [ho.size]; exact h.size, fun k hk _ => by rw [ho.block (by omega)]; exact h.block hk⟩

theorem fold_push (bl : List UInt8) (acc : List UInt8) : (bl.map (fun b => (b.toNat : Int))).foldl (fun r n => r.push (UInt8.ofNat n.toNat)) (⟨acc.toArray⟩ : ByteArray) = ⟨(acc ++ bl).toArray⟩ := by
  induction bl generalizing acc with
  | nil => simp
  | cons b bl ih =>
    simp only [List.map_cons, List.foldl_cons]
    have e : (⟨acc.toArray⟩ : ByteArray).push (UInt8.ofNat ((b.toNat : Int)).toNat) = ⟨(acc ++ [b]).toArray⟩ := by
      simp [ByteArray.push]
    rw [e, ih]
    simp
theorem run_to_string (w : World) (g k c : Nat) (bl : List UInt8) (t : TypeId) (hb : w.heap[g]? = some (.cells (bl.map u8).toArray t (0, 0))) (hk : k = bl.length) :
    (convert 65 9 (.slice (some ⟨g, 0, none⟩) k c)).run Tryd.prog w = .ok (.string ⟨bl.toArray⟩) w := by
  rw [run_convert_bytes_string w _ _ _ _ _ _ Tryd.underlying65 Tryd.underlying5 Tryd.underlying9]
  have hm : bl.map u8 = (bl.map (fun b => (b.toNat : Int))).map (Value.int .u8) := by rw [List.map_map]; rfl
  have hl : (loadCells ⟨g, 0, none⟩ k).run Tryd.prog w = .ok ((bl.map (fun b => (b.toNat : Int))).map (Value.int .u8)).toArray w := by
    have := run_loadCells_list (P := Tryd.prog) w ⟨g, 0, none⟩ (bl.map u8) (fun j v hv => by
      have hadd : (⟨g, 0, none⟩ : Addr).add j = ⟨g, j, none⟩ := by unfold Addr.add; split <;> simp_all
      rw [hadd, cell_of_row w g j _ t (0, 0) hb]
      simpa using hv)
    rw [List.length_map, ← hk] at this
    rw [this, hm]
  rw [run_bytesToString w _ k c _ hl]
  have := fold_push bl []
  rw [show (ByteArray.empty) = (⟨([] : List UInt8).toArray⟩ : ByteArray) from rfl, this]
  simp

/-- The buffer when n bytes have been read. -/
def bufL (s : RS) (f at_ k n : Nat) : List Value := (List.range k).map (fun j => if j < n then u8 (s.now f (at_ + j)) else u8 0)
theorem bufL_length (s : RS) (f at_ k n : Nat) : (bufL s f at_ k n).length = k := by simp [bufL]
theorem bufL_zero (s : RS) (f at_ k : Nat) : bufL s f at_ k 0 = List.replicate k (u8 0) := by
  apply List.ext_getElem?
  intro i
  unfold bufL
  by_cases h : i < k
  · simp [h]
  · rw [List.getElem?_eq_none (by simp; omega), List.getElem?_eq_none (by simp; omega)]
theorem bufL_full (s : RS) (f at_ k : Nat) : bufL s f at_ k k = (bytesOf s f at_ k).map u8 := by
  unfold bufL bytesOf
  rw [List.map_map]
  apply List.map_congr_left
  intro j hj
  rw [if_pos (List.mem_range.1 hj)]
  rfl
theorem bufL_step (s : RS) (f at_ k n m o cnt : Nat) (cs : List Value) (hk : n < k) (hm : m = (at_ + n) / 64) (ho : o = (at_ + n) % 64) (hc : cnt = min (64 - o) (k - n)) (hcs : cs = ((s.sec f m).drop o).take cnt) :
    cs.length = cnt ∧ splice (bufL s f at_ k n) n cs = bufL s f at_ k (n + cnt) := by
  have hl : cs.length = cnt := by
    rw [hcs, List.length_take, List.length_drop]
    have : (s.sec f m).length = 129 := secL_length _ _ _
    omega
  refine ⟨hl, ?_⟩
  have hsp : n + cs.length ≤ (bufL s f at_ k n).length := by rw [bufL_length, hl]; omega
  apply List.ext_getElem?
  intro i
  rw [splice_get _ _ _ _ hsp, hl]
  by_cases c : n ≤ i ∧ i < n + cnt
  · rw [if_pos c, hcs, List.getElem?_take, if_pos (by omega), List.getElem?_drop]
    have h1 : o + (i - n) < 64 := by omega
    unfold RS.sec
    rw [secL_now _ _ _ _ h1]
    have h2 : i < k := by omega
    unfold bufL
    simp only [List.getElem?_map, List.getElem?_range h2, Option.map_some, if_pos c.2]
    congr 3
    omega
  · rw [if_neg c]
    unfold bufL
    by_cases h2 : i < k
    · simp only [List.getElem?_map, List.getElem?_range h2, Option.map_some]
      by_cases c2 : i < n
      · rw [if_pos c2, if_pos (by omega)]
      · rw [if_neg c2, if_neg (by omega)]
    · rw [List.getElem?_eq_none (by simp; omega), List.getElem?_eq_none (by simp; omega)]

set_option maxRecDepth 100000 in
theorem infoByte : (Tryd.prog.info? 5).map (fun i => (i.zero, i.size, i.bytes)) = some (some (.int .u8 0), 1, 1) := by kernel_rfl
theorem madeCells_u8 (n : Nat) : (madeCells (Value.int .u8 0).cells (n * 1)).toList = List.replicate n (u8 0) := by
  apply List.ext_getElem?
  intro i
  rw [Nat.mul_one]
  by_cases h : i < n
  · simp [madeCells, h, Nat.mod_one, Value.cells, u8]
  · rw [List.getElem?_eq_none (by simp [madeCells]; omega), List.getElem?_eq_none (by simp; omega)]
theorem row_heap {w : World} {g e n : Nat} {xs : List Value} (h : w.ownsRow g e 1 (.slice (some ⟨g, 0, none⟩) n n) n xs) : w.heap[g]? = some (.cells xs.toArray e (0, 0)) := by
  rcases h.2 with ⟨h1, _⟩ | ⟨g', cap, cur, h1, _, hg, _, _, hs, ht⟩
  · cases h1
  · simp only [Value.slice.injEq, Option.some.injEq, Addr.mk.injEq, true_and, and_true] at h1
    obtain ⟨rfl, rfl⟩ := h1
    rw [hg]
    have : cur.toList.take (n * 1) = cur.toList := List.take_of_length_le (by rw [Array.length_toList, hs]; exact Nat.le_refl _)
    rw [this] at ht
    rw [← ht]

set_option maxRecDepth 100000 in
set_option maxHeartbeats 2000000 in
theorem read_yes (O : Nat → Prop) (B f at_ : Nat) (size : Int) (k : Nat) (s : RS) (w : World) (h : Dk w O B s) (hI : Inv s) (hdn : s.down = false) (hf : f < 16) (ha : (at_ : Int) ≤ 9223372036854775807) (hs0 : 0 ≤ size) (hs1 : size ≤ 9223372036854775807) (hk : k = readN s f at_ size) :
    Calls Tryd.prog 30 #[.pointer (some ⟨B, 0, none⟩), .int .i64 f, .int .i64 at_, .int .i64 size] w fun e w' => e = .returned (.tuple #[.string ⟨(bytesOf s f at_ k).toArray⟩, .int .i64 0]) ∧ Fr w w' := by
  obtain ⟨M, C, pv, kv, hd⟩ := h
  have c37 := cellOf hd.heap hd.blk.down
  rw [hdn] at c37
  obtain ⟨z, hz⟩ : ∃ z, z = s.sz f := ⟨_, rfl⟩
  have hzm : z ≤ 16777216 := by rw [hz]; exact hI.max f
  have csz : w.cell? ⟨B, 1 + f, none⟩ = some (.int .i64 z) := by rw [hz]; exact cellOf hd.heap (hd.blk.sz f hf)
  have hk1 : k = min size.toNat (z - at_) := by rw [hk, hz]; rfl
  have hk2 : k ≤ 16777216 := by omega
  have hk3 : k = 0 ∨ at_ + k ≤ 16777216 := by omega
  have HD := Lib.hid hd
  have HK1 := Lib.hid hk1
  obtain ⟨i0, hi, hz0, hz1, hz2⟩ := info_parts infoByte
  have HIN := Lib.hid hi
  have HB2 := Lib.hid hz2
  clear hd hk hk1 hz hdn hI hi hz2
  have e1 : IntKind.i64.wrap ((z : Int) - (at_ : Int)) = (z : Int) - (at_ : Int) := IntWalk.i64_in _ (by omega)
  go_enter Tryd.func30, Tryd.ntmps30
  go_upto_region 5 with (go_at_call 60; refine (isFile_yes f _ (by omega) (by omega)).mono ?_; rintro e w' ⟨rfl, rfl⟩)
  have hb2 : i0.bytes * k ≤ 281474976710656 := by rw [HB2.out]; omega
  have hb3 : k ≤ maxLen := by unfold maxLen; omega
  have HH2 := Lib.hid hb2
  have HH3 := Lib.hid hb3
  clear hb2 hb3
  have hfin : ∀ w3 : World, w3.ownsRow w'.heap.size 5 1 (.slice (some ⟨w'.heap.size, 0, none⟩) k k) k (madeCells (Value.int .u8 0).cells (k * 1)).toList → w'.grownBy w3 none → Fr w' w3 ∧ w3.heap[w'.heap.size]? = some (.cells (bufL s f at_ k 0).toArray 5 (0, 0)) := fun w3 h1 h2 => by
    rw [madeCells_u8] at h1
    rw [bufL_zero]
    exact ⟨h2, row_heap h1⟩
  have HFIN := Lib.hid hfin
  clear hfin
  go_cut [10] (fun s10 wx => s10 = .slice (some ⟨w'.heap.size, 0, none⟩) k k ∧ Fr w' wx ∧ wx.heap[w'.heap.size]? = some (.cells (bufL s f at_ k 0).toArray 5 (0, 0)))
  case first =>
    by_cases hB : size ≤ (z : Int) - at_
    · by_cases hC : 0 < size
      · have hkL : size = (k : Int) := by have := HK1.out; omega
        have HKL := Lib.hid hkL
        have HKL2 := Lib.hid hkL
        have hB2 : ¬ ((z : Int) - at_ < size) := by omega
        clear hkL
        go_wp2_with ((at_make; refine wpList_make_full _ rfl (.tmp 38) (.tmp 38) 65 rfl w'.heap.size 5 i0 (.int .u8 0) 1 Tryd.underlying65 HIN.out hz0 hz1 .i64 .i64 _ _ k rfl rfl (by first | exact HKL.out | exact HKL2.out) (by first | exact HKL.out | exact HKL2.out) HH2.out HH3.out (Nat.le_refl _) ?_; intro w3 hown hgrow; have HQ := Lib.hid (HFIN.out w3 hown hgrow); clear hown hgrow))
        all_goals (go_meet; exact ⟨rfl, HQ.out⟩)
      · obtain rfl : size = 0 := by omega
        have hkL : (0 : Int) = (k : Int) := by have := HK1.out; omega
        have HKL := Lib.hid hkL
        have HKL2 := Lib.hid hkL
        have hB2 : ¬ ((z : Int) - at_ < 0) := by omega
        clear hkL
        go_wp2_with ((at_make; refine wpList_make_full _ rfl (.tmp 38) (.tmp 38) 65 rfl w'.heap.size 5 i0 (.int .u8 0) 1 Tryd.underlying65 HIN.out hz0 hz1 .i64 .i64 _ _ k rfl rfl (by first | exact HKL.out | exact HKL2.out) (by first | exact HKL.out | exact HKL2.out) HH2.out HH3.out (Nat.le_refl _) ?_; intro w3 hown hgrow; have HQ := Lib.hid (HFIN.out w3 hown hgrow); clear hown hgrow))
        all_goals (go_meet; exact ⟨rfl, HQ.out⟩)
    · by_cases hC : 0 < (z : Int) - at_
      · have hkL : (z : Int) - at_ = (k : Int) := by have := HK1.out; omega
        have HKL := Lib.hid hkL
        have HKL2 := Lib.hid hkL
        have hB2 : ((z : Int) - at_ < size) := by omega
        clear hkL
        go_wp2_with ((at_make; refine wpList_make_full _ rfl (.tmp 38) (.tmp 38) 65 rfl w'.heap.size 5 i0 (.int .u8 0) 1 Tryd.underlying65 HIN.out hz0 hz1 .i64 .i64 _ _ k rfl rfl (by first | exact HKL.out | exact HKL2.out) (by first | exact HKL.out | exact HKL2.out) HH2.out HH3.out (Nat.le_refl _) ?_; intro w3 hown hgrow; have HQ := Lib.hid (HFIN.out w3 hown hgrow); clear hown hgrow))
        all_goals (go_meet; exact ⟨rfl, HQ.out⟩)
      · have hkL : (0 : Int) = (k : Int) := by have := HK1.out; omega
        have HKL := Lib.hid hkL
        have HKL2 := Lib.hid hkL
        have hB2 : ((z : Int) - at_ < size) := by omega
        have hB3 : ((z : Int) - at_ ≤ 0) := by omega
        clear hkL
        go_wp2_with ((at_make; refine wpList_make_full _ rfl (.tmp 38) (.tmp 38) 65 rfl w'.heap.size 5 i0 (.int .u8 0) 1 Tryd.underlying65 HIN.out hz0 hz1 .i64 .i64 _ _ k rfl rfl (by first | exact HKL.out | exact HKL2.out) (by first | exact HKL.out | exact HKL2.out) HH2.out HH3.out (Nat.le_refl _) ?_; intro w3 hown hgrow; have HQ := Lib.hid (HFIN.out w3 hown hgrow); clear hown hgrow))
        all_goals (go_meet; exact ⟨rfl, HQ.out⟩)
  case rest =>
    obtain ⟨rfl, hfr, hb⟩ := hcut
    obtain ⟨g, hg⟩ : ∃ g, g = w'.heap.size := ⟨_, rfl⟩
    rw [← hg] at hb
    have HFR := Lib.hid hfr
    have HFR0 : Hid (Below w'.heap.size w' wc) := Lib.hid hfr.below
    have HD1 := Lib.hid (HD.out.fr hfr)
    have HB := Lib.hid hb
    have HG := Lib.hid hg
    clear hfr hb csz c37 e1 hg
    rw [← HG.out]
    clear HFIN HH2 HH3 HIN HB2
    go_wp2_with fail
    go_loopw [11] (fun s11 wr => ∃ n : Nat, s11 = .int .i64 n ∧ n ≤ k ∧ Hid (Fr w' wr) ∧ Hid (wr.heap[g]? = some (.cells (bufL s f at_ k n).toArray 5 (0, 0)))) (fun s11 _ => k - (intOf s11).toNat)
    case atStart => exact ⟨0, by go_num, by omega, Lib.hid (Fr.of_below (HFR0.out)), HB⟩
    case round =>
      obtain ⟨n, rfl, h1, HFr, HBr⟩ := hrel
      by_cases hlt : n < k
      · have hat : at_ + n ≤ 16777216 := by omega
        have hnm : n ≤ 16777216 := by omega
        go_upto_region 8 with fail
        have hDr := HD.out.fr HFr.out
        have c0 : wr.cell? ⟨B, 0, none⟩ = some (.map (some M)) := cellOf hDr.heap hDr.blk.files
        obtain ⟨m, hm⟩ : ∃ m, m = (at_ + n) / 64 := ⟨_, rfl⟩
        have e64 : ((at_ : Int) + (n : Int)) / 64 = (m : Int) := by omega
        have hlk : ∀ W, Fr wr W → (Instr.lookup 67 (.map (some M)) (.agg #[.int .i64 f, .int .i64 (((at_ : Int) + (n : Int)) / 64)]) false).run Tryd.prog W = .ok (.agg (s.sec f m).toArray) W := fun W hW => by
          rw [e64]; exact ((hDr.fr hW).secs).lookup f m hf (by omega)
        have hz : ∀ w : World, (zeroValue 90).run Tryd.prog w = .ok (.agg zeroL.toArray) w := run_zeroSec
        have hXl : (s.sec f m).length = 129 := secL_length _ _ _
        have hX1 := secL_one (fun j => s.now f (64 * m + j)) (fun j => s.dur f (64 * m + j)) (s.pd f m)
        have HM := Lib.hid hm
        obtain ⟨X, hX⟩ : ∃ X, X = s.sec f m := ⟨_, rfl⟩
        rw [← hX] at hlk hXl
        have hX2 : ∀ v ∈ X, v.oneCell' = true := by rw [hX]; exact hX1
        have hstA : ∀ W : World, (storeCells ⟨W.heap.size, 0, none⟩ X).run Tryd.prog (W.alloc (.cells zeroL.toArray 90)) = .ok () (W.alloc (.cells X.toArray 90)) := fun W => by
          have := run_storeCells_new (P := Tryd.prog) W 90 zeroL.toArray X.toArray (by simpa [hXl] using infoSec) (by simp [hXl, zeroL_length]) (all_oneCell_toArray hX2)
          exact this
        have hstB : ∀ W : World, Fr (wr.alloc (.cells zeroL.toArray 90)).drew W → (storeCells ⟨wr.heap.size, 0, none⟩ X).run Tryd.prog W = .ok () (W.setRow wr.heap.size X.toArray) := fun W hW => by
          have hb : W.heap[wr.heap.size]? = some (.cells zeroL.toArray 90 (0, 0)) := by
            rw [hW.block (by simp)]; exact heap_alloc_new wr _
          have := run_storeCells_at (P := Tryd.prog) wr.heap.size 0 90 X 0 zeroL.toArray W hb (by simp [hXl, zeroL_length]) hX2
          simp only [Nat.add_zero, Nat.zero_add, List.take_zero, List.nil_append] at this
          rw [this, hXl, List.drop_of_length_le (by rw [zeroL_length]; exact Nat.le_refl _), List.append_nil]
        have HX := Lib.hid hX
        have HDr := Lib.hid hDr
        clear hm e64 hX1 hX2 hX hDr
        have hlBr := World.block_lt_of_cell? wr _ c0
        go_cut [12] (fun s12 wx => ∃ T, s12 = .pointer (some ⟨T, 0, none⟩) ∧ Hid (wr.heap.size ≤ T) ∧ Hid (Fr wr wx) ∧ Hid (wx.heap[T]? = some (.cells X.toArray 90 (0, 0))))
        case first =>
          have hw1 : IntKind.i64.wrap ((at_ : Int) + (n : Int)) = (at_ : Int) + (n : Int) := IntWalk.i64_in _ (by omega)
          go_region_held3 (fun W => W.cell? ⟨B, 0, none⟩ = some (.map (some M)) ∧ Fr wr W)
            (first
              | exact ⟨by go_keep, Fr.drew _⟩
              | exact ⟨by go_keep, (Fr.alloc _ _).trans (Fr.drew _)⟩
              | exact ⟨hc1, hf1⟩
              | exact ⟨by go_keep, hf1.trans (Fr.alloc _ _)⟩
              | exact ⟨(hf1.only (OnlyB.setRow w1 _ _) (Nat.le_refl _)).cell c0, hf1.only (OnlyB.setRow w1 _ _) (Nat.le_refl _)⟩)
            (first
              | (go_at_call 61
                 refine (placeOf_sum f at_ n _ (by omega)).mono ?_
                 rintro e w1 ⟨rfl, hf0⟩
                 have hf1 : Fr wr w1 := by
                   first
                     | exact (Fr.drew _).trans hf0
                     | exact ((Fr.alloc _ _).trans (Fr.drew _)).trans hf0
                 have hc1 : w1.cell? ⟨B, 0, none⟩ = some (.map (some M)) := hf1.cell c0))
          all_goals (go_wp2_with fail; go_meet)
          all_goals (first
            | exact ⟨w1.heap.size, rfl, Lib.hid hf1.size, Lib.hid (hf1.trans (Fr.alloc _ _)), Lib.hid (heap_alloc_new w1 _)⟩
            | exact ⟨wr.heap.size, rfl, Lib.hid (Nat.le_refl _), Lib.hid (hf1.only (OnlyB.setRow w1 _ _) (Nat.le_refl _)), Lib.hid (setRow_heap w1 _ _ _ _ _ ((hf0.block (by simp)).trans (heap_alloc_new wr _)))⟩)
        case rest =>
          obtain ⟨T7, rfl, hT1, hT2, hT3⟩ := hcut
          obtain ⟨o, ho⟩ : ∃ o, o = (at_ + n) % 64 := ⟨_, rfl⟩
          obtain ⟨cnt, hcnt⟩ : ∃ cnt, cnt = min (64 - o) (k - n) := ⟨_, rfl⟩
          obtain ⟨cs, hcs⟩ : ∃ cs, cs = (X.drop o).take cnt := ⟨_, rfl⟩
          have ho64 : o < 64 := by omega
          have hst := bufL_step s f at_ k n m o cnt cs hlt HM.out ho hcnt (by rw [hcs, HX.out])
          have hsl := fun w => slice_add T7 at_ n w
          rw [← ho] at hsl
          have hc1 : cs.length = Nat.min (64 - o) (k - n) := by rw [hst.1, hcnt]
          have hcp : 0 < cnt := by omega
          have hcl : n + cnt ≤ k := by omega
          have hgr : g < wr.heap.size := (Array.getElem?_eq_some_iff.1 HBr.out).1
          have hbw : wc.heap[g]? = some (.cells (bufL s f at_ k n).toArray 5 (0, 0)) := (hT2.out.block hgr).trans HBr.out
          have hbel : Below w'.heap.size w' wc.drew := ((HFr.out.trans hT2.out).trans (Fr.drew _)).below
          have hkn : ¬ (k = n) := by omega
          have hkn2 : ¬ (n = k) := by omega
          have hone : ∀ v ∈ cs, v.oneCell' = true := by
            intro v hv
            rw [hcs, HX.out] at hv
            exact secL_one _ _ _ v (List.mem_of_mem_drop (List.mem_of_mem_take hv))
          have hsrc : ∀ j v, cs[j]? = some v → wc.cell? ((⟨T7, o, none⟩ : Addr).add j) = some v := fun j v hv => by
            rw [Addr.add_mid, cell_of_row wc T7 (o + j) X.toArray _ (0, 0) hT3.out, ← hv, hcs, List.getElem?_take, List.getElem?_drop]
            rw [if_pos (by have := (List.getElem?_eq_some_iff.1 hv).1; rw [hst.1] at this; exact this)]
            simp
          have hfit : n + cs.length ≤ (bufL s f at_ k n).length := by rw [bufL_length, hst.1]; exact hcl
          have HC1 := Lib.hid hc1
          have HBW := Lib.hid hbw
          have HBEL := Lib.hid hbel
          have HONE := Lib.hid hone
          have HSRC := Lib.hid hsrc
          have HFIT := Lib.hid hfit
          have HST := Lib.hid hst
          have HGG := HG.out
          have hBg : w'.heap.size ≤ g := Nat.le_of_eq HG.out.symm
          clear ho hcnt hcs hst hc1 hbw hbel hone hsrc hfit hlk hstA hstB hXl hz c0 hT1 hT2 hT3 HGG
          have hsb : (Tryd.prog.info? 5).map (·.size) = some 1 := by kernel_rfl
          go_upto_region 9 with fail
          have hw1 : IntKind.i64.wrap ((at_ : Int) + (n : Int)) = (at_ : Int) + (n : Int) := IntWalk.i64_in _ (by omega)
          have hw2 : ((at_ : Int) + (n : Int)).tmod 64 = ((at_ : Int) + (n : Int)) % 64 := Int.tmod_eq_emod_of_nonneg (by omega)
          have hw3 : IntKind.i64.wrap ((n : Int) + (cnt : Int)) = (n : Int) + (cnt : Int) := IntWalk.i64_in _ (by omega)
          have hcslen : cs.length = cnt := HST.out.1
          go_region_held3 (fun _ => True) (trivial)
            ((refine step_copy_splice (by rfl) (.tmp 57) (.tmp 63) 65 65 (by rfl) 5 Tryd.underlying65 hsb (some ⟨g, n, none⟩) (some ⟨T7, o, none⟩) (k - n) (k - n) (64 - o) (64 - o) (by rfl) (by rfl) g n (bufL s f at_ k n) 5 HBW.out cs HC1.out (fun _ => ⟨rfl, ⟨T7, o, none⟩, rfl, HSRC.out⟩) HFIT.out HONE.out w'.heap.size w' HBEL.out hBg ?_
              rw [hcslen]
              intro wk hk hbk
              have HBK := Lib.hid hbk
              clear hbk))
          all_goals
            go_wp2_with fail
            go_roundw
            case rel => exact ⟨n + cnt, by go_num, hcl, Lib.hid (Fr.of_below HBK.out), Lib.hid (by rw [← HST.out.2]; exact hk.out)⟩
            case measure => simp [intOf]; omega
      · obtain rfl : n = k := by omega
        have hconv := run_to_string wr g n n (bytesOf s f at_ n) 5 (by rw [← bufL_full]; exact HBr.out) (by simp [bytesOf])
        have HF := Lib.hid HFr.out
        go_wp2_with fail
        go_ret2
        exact ⟨rfl, HF.out⟩
end Go.Proofs.YtjcajgcfkidbkaaDoor
