/-
  Package disk: cut.
-/
import Derived.Test.YtjcajgcfkidbkaaDoorSec
namespace Go.Proofs.YtjcajgcfkidbkaaDoor
open Go.RowKit

def cutS (s : RS) (f size : Nat) : RS := { s with
  now := fun f' i => if f' = f ∧ size ≤ i then 0 else s.now f' i
  dur := fun f' i => if f' = f then (if size ≤ i then 0 else s.now f i) else s.dur f' i
  sz := fun g => if g = f then size else s.sz g
  dz := fun g => if g = f then size else s.dz g }
/-- On the way: up to the sector hi. -/
def cutK (s : RS) (f size hi : Nat) : RS := { s with
  now := fun f' i => if f' = f ∧ size ≤ i ∧ i < 64 * hi then 0 else s.now f' i
  dur := fun f' i => if f' = f ∧ 64 * (size / 64) ≤ i ∧ i < 64 * hi then (if size ≤ i then 0 else s.now f i) else s.dur f' i }

theorem cutK_first (s : RS) (f size : Nat) : (cutK s f size (size / 64 + 1)).sec f (size / 64) = secL (fun j => if j < size % 64 then s.now f (64 * (size / 64) + j) else 0) (fun j => if j < size % 64 then s.now f (64 * (size / 64) + j) else 0) (s.pd f (size / 64)) := by
  refine secL_congr (fun i hi => ?_) (fun i hi => ?_) rfl
  · dsimp only [cutK]
    by_cases c : i < size % 64
    · rw [if_neg (by omega), if_pos c]
    · rw [if_pos (by omega), if_neg c]
  · dsimp only [cutK]
    rw [if_pos (by omega)]
    by_cases c : i < size % 64
    · rw [if_neg (by omega), if_pos c]
    · rw [if_pos (by omega), if_neg c]
theorem cutK_first_other (s : RS) (f size f' n' : Nat) (h : ¬ (f' = f ∧ n' = size / 64)) : (cutK s f size (size / 64 + 1)).sec f' n' = s.sec f' n' := by
  refine secL_congr (fun i hi => ?_) (fun i hi => ?_) rfl
  · dsimp only [cutK]; rw [if_neg (by rintro ⟨rfl, h1, h2⟩; exact h ⟨rfl, by omega⟩)]
  · dsimp only [cutK]; rw [if_neg (by rintro ⟨rfl, h1, h2⟩; exact h ⟨rfl, by omega⟩)]
theorem cutK_next (s : RS) (f size hi : Nat) (h : size / 64 + 1 ≤ hi) (hp : s.pd f hi = false) : (cutK s f size (hi + 1)).sec f hi = zeroL := by
  rw [zeroL_sec]
  refine secL_congr (fun i hi' => ?_) (fun i hi' => ?_) hp
  · dsimp only [cutK]; rw [if_pos (by omega)]
  · dsimp only [cutK]; rw [if_pos (by omega), if_pos (by omega)]
theorem cutK_next_other (s : RS) (f size hi f' n' : Nat) (h : ¬ (f' = f ∧ n' = hi)) : (cutK s f size (hi + 1)).sec f' n' = (cutK s f size hi).sec f' n' := by
  refine secL_congr (fun i hi' => ?_) (fun i hi' => ?_) rfl
  · dsimp only [cutK]
    by_cases c : f' = f ∧ size ≤ 64 * n' + i ∧ 64 * n' + i < 64 * hi
    · rw [if_pos (by omega), if_pos c]
    · rw [if_neg (fun ⟨a, b, d⟩ => c ⟨a, b, by
        have : n' ≠ hi := fun e => h ⟨a, e⟩
        omega⟩), if_neg c]
  · dsimp only [cutK]
    by_cases c : f' = f ∧ 64 * (size / 64) ≤ 64 * n' + i ∧ 64 * n' + i < 64 * hi
    · rw [if_pos (by omega), if_pos c]
    · rw [if_neg (fun ⟨a, b, d⟩ => c ⟨a, b, by
        have : n' ≠ hi := fun e => h ⟨a, e⟩
        omega⟩), if_neg c]
theorem cutK_last (s : RS) (hI : Inv s) (f size hi : Nat) (hs : s.sz f ≤ 64 * hi) (hp : ∀ n, s.pd f n = false) (f' n' : Nat) : (cutS s f size).sec f' n' = (cutK s f size hi).sec f' n' := by
  refine secL_congr (fun i hi' => ?_) (fun i hi' => ?_) rfl
  · dsimp only [cutK, cutS]
    by_cases c : f' = f ∧ size ≤ 64 * n' + i
    · rw [if_pos c]
      by_cases c2 : 64 * n' + i < 64 * hi
      · rw [if_pos ⟨c.1, c.2, c2⟩]
      · rw [if_neg (fun h => c2 h.2.2), c.1, hI.nz f _ (by omega)]
    · rw [if_neg c, if_neg (fun h => c ⟨h.1, h.2.1⟩)]
  · dsimp only [cutK, cutS]
    by_cases c : f' = f
    · subst c
      rw [if_pos rfl]
      by_cases c1 : 64 * n' + i < 64 * hi
      · by_cases c2 : 64 * (size / 64) ≤ 64 * n' + i
        · rw [if_pos (show f' = f' ∧ 64 * (size / 64) ≤ 64 * n' + i ∧ 64 * n' + i < 64 * hi from ⟨rfl, c2, c1⟩)]
        · rw [if_neg (by omega), if_neg (show ¬ (f' = f' ∧ 64 * (size / 64) ≤ 64 * n' + i ∧ 64 * n' + i < 64 * hi) from fun h => c2 h.2.1)]
          exact hI.eq f' n' (hp n') i hi'
      · rw [if_neg (show ¬ (f' = f' ∧ 64 * (size / 64) ≤ 64 * n' + i ∧ 64 * n' + i < 64 * hi) from fun h => c1 h.2.2)]
        have h1 := hI.nz f' (64 * n' + i) (by omega)
        have h2 := hI.dz0 f' (64 * n' + i) (by have := hI.le f'; omega)
        rw [h2]
        split
        · rfl
        · exact h1
    · rw [if_neg c, if_neg (fun h => c h.1)]

set_option maxRecDepth 100000 in
set_option maxHeartbeats 1000000 in
theorem cut_any (O : Nat → Prop) (B f size : Nat) (s : RS) (w : World) (h : Dk w O B s) (hI : Inv s) (hf : f < 16) (hs : size ≤ s.sz f) (hpd : ∀ n, s.pd f n = false) :
    Calls Tryd.prog 73 #[.pointer (some ⟨B, 0, none⟩), .int .i64 f, .int .i64 size] w fun e w' => e = .returned (.tuple #[]) ∧ DkP O w w' B (cutS s f size) := by
  have hmax := hI.max f
  have hsz : size ≤ 16777216 := by omega
  obtain ⟨M, C, pv, kv, hd⟩ := h
  go_enter Tryd.func73, Tryd.ntmps73
  go_wp2_with fail
  refine (placeOf_any f size _ (by omega)).mono ?_
  rintro e w1 ⟨rfl, hf1⟩
  have hd1 := hd.fr hf1
  have HI := Lib.hid hI
  have HF := Lib.hid hf1
  clear hd hf1 hI
  go_upto_region 1 with fail
  have hfa := Fr.alloc w1 (.cells #[.int .i64 f, .int .i64 ((size : Int) / 64)] 87)
  have hT : (w1.alloc (.cells #[.int .i64 f, .int .i64 ((size : Int) / 64)] 87)).heap[w1.heap.size]? = some (.cells #[.int .i64 f, .int .i64 ((size : Int) / 64)] 87 (0, 0)) := heap_alloc_new w1 _
  have hd2 := hd1.fr hfa
  have hnT : ¬ O w1.heap.size := fun h => Nat.lt_irrefl _ (hd1.bound _ h)
  have HF2 := Lib.hid (Fr.trans HF.out hfa)
  generalize hT6 : w1.heap.size = T6 at *
  generalize (w1.alloc (.cells #[.int .i64 f, .int .i64 ((size : Int) / 64)] 87)) = w2 at *
  clear hd1 HF hfa hT6
  have e64 : ((size : Int) / 64) = ((size / 64 : Nat) : Int) := by omega
  have hlk : ∀ w', Fr w2 w' → (Instr.lookup 67 (.map (some M)) (.agg #[.int .i64 f, .int .i64 ((size : Int) / 64)]) false).run Tryd.prog w' = .ok (.agg (s.sec f (size / 64)).toArray) w' := fun w' hw' => by
    rw [e64]; exact ((hd2.fr hw').secs).lookup f (size / 64) hf (by omega)
  have hz : ∀ w : World, (zeroValue 90).run Tryd.prog w = .ok (.agg zeroL.toArray) w := run_zeroSec
  have c0 := cellOf hd2.heap hd2.blk.files
  have p0 : w2.cell? ⟨T6, 0, none⟩ = some (.int .i64 f) := cellOf hT rfl
  have p1 : w2.cell? ⟨T6, 1, none⟩ = some (.int .i64 ((size : Int) / 64)) := cellOf hT rfl
  have hlB := hd2.bound _ hd2.oB
  have hlT : T6 < w2.heap.size := (Array.getElem?_eq_some_iff.1 hT).1
  have hst : (storeCells ⟨w2.heap.size, 0, none⟩ (s.sec f (size / 64))).run Tryd.prog (w2.alloc (.cells zeroL.toArray 90)).drew =
      .ok () (w2.alloc (.cells (s.sec f (size / 64)).toArray 90)).drew := run_store_new w2 _ zeroL _ infoSec (secL_length _ _ _) zeroL_length (secL_one _ _ _)
  have HD := Lib.hid hd2
  have HT := Lib.hid hT
  have HE := Lib.hid e64
  clear hd2 hT e64
  have hXl : (s.sec f (size / 64)).length = 129 := secL_length _ _ _
  generalize hX : s.sec f (size / 64) = X at hlk hst hXl
  go_cut [7] (fun s7 wx => s7 = .pointer (some ⟨w2.heap.size, 0, none⟩) ∧ Fr w2 wx ∧ wx.heap[w2.heap.size]? = some (.cells X.toArray 90 (0, 0)))
  case first =>
    go_region_held3 (fun w' => w'.cell? ⟨B, 0, none⟩ = some (.map (some M)) ∧ w'.cell? ⟨T6, 0, none⟩ = some (.int .i64 f) ∧ w'.cell? ⟨T6, 1, none⟩ = some (.int .i64 ((size : Int) / 64)) ∧ Fr w2 w')
      (first
        | exact ⟨by go_keep, by go_keep, by go_keep, Fr.drew _⟩
        | exact ⟨by go_keep, by go_keep, by go_keep, (Fr.alloc _ _).trans (Fr.drew _)⟩)
      (fail)
    all_goals (go_wp2_with fail; go_meet; exact ⟨rfl, (Fr.alloc _ _).trans (Fr.drew _), heap_alloc_new w2.drew _⟩)
  case rest =>
    obtain ⟨rfl, hfr, hx⟩ := hcut
    have hnX : ¬ O w2.heap.size := fun h => Nat.lt_irrefl _ (HD.out.bound _ h)
    have hTX : T6 ≠ w2.heap.size := Nat.ne_of_lt hlT
    have HT3 := Lib.hid ((hfr.block hlT).trans HT.out)
    have HD3 := Lib.hid (HD.out.fr hfr)
    have HF3 := Lib.hid (HF2.out.trans hfr)
    have hTn : w.heap.size ≤ w2.heap.size := HF2.out.size
    have HX := Lib.hid hx
    clear hx hlk hst c0 p0 p1 hlB hlT HT HD HF2 hfr
    generalize w2.heap.size = T7 at *
    obtain ⟨a, ha⟩ : ∃ a : Nat → UInt8, a = fun j => s.now f (64 * (size / 64) + j) := ⟨_, rfl⟩
    obtain ⟨b, hb⟩ : ∃ b : Nat → UInt8, b = fun j => s.dur f (64 * (size / 64) + j) := ⟨_, rfl⟩
    have hX' : X = secL a b (s.pd f (size / 64)) := by rw [← hX, ha, hb]; rfl
    have hsl := slice_mod T7 size wc
    obtain ⟨w4, hcl, h4, ho4⟩ := clear_open T7 (size % 64) (64 - size % 64) (64 - size % 64) X 90 wc (by omega) HX.out (by omega)
    rw [hX', secL_clear _ _ _ _ (by omega)] at h4
    obtain ⟨L4, hL4⟩ : ∃ L4, L4 = secL (fun j => if j < size % 64 then a j else 0) b (s.pd f (size / 64)) := ⟨_, rfl⟩
    obtain ⟨cs, hcs⟩ : ∃ cs, cs = (List.range 64).map (fun j => u8 (if j < size % 64 then a j else 0)) := ⟨_, rfl⟩
    have k1 : (L4.drop 0).take 64 = cs := by rw [List.drop_zero, hL4, hcs]; exact take_now _ _ _
    have k2 : cs.length = 64 := by rw [hcs]; simp
    have k3 : 64 + cs.length ≤ L4.length := by rw [k2, hL4, secL_length]; decide
    have k4 : ∀ v ∈ cs, v.oneCell' = true := by rw [hcs]; intro v hv; obtain ⟨_, _, rfl⟩ := List.mem_map.1 hv; rfl
    have k5 : (Tryd.prog.info? 88).map (·.size) = some cs.length := by rw [k2]; exact info64
    have k6 : splice L4 64 cs = (cutK s f size (size / 64 + 1)).sec f (size / 64) := by
      rw [hL4, hcs, secL_dup, cutK_first, ha]
    rw [← hL4] at h4
    have H4 := Lib.hid h4
    have K1 := Lib.hid k1
    have K2 := Lib.hid k2
    have K3 := Lib.hid k3
    have K4 := Lib.hid k4
    have K5 := Lib.hid k5
    have K6 := Lib.hid k6
    have HO4 := Lib.hid ho4
    have HM := Lib.hid hmax
    have HP := Lib.hid hpd
    clear h4 ho4 ha hb hX' hX HX hmax hpd hL4 hcs k1 k2 k3 k4 k5 k6
    go_wp2_with (first
      | ((with_reducible refine wpList_load_half ?_ (.tmp 22) ?_ T7 0 ?_ L4 cs 90 H4.out K1.out K2.out ?_)
         · rfl
         · rfl
         · rfl)
      | ((with_reducible refine wpList_store_part ?_ 88 (.tmp 24) (.tmp 23) ?_ T7 64 cs ?_ ?_ L4 90 H4.out K3.out K5.out K4.out ?_ ?_)
         · rfl
         · rfl
         · rfl
         · rfl
         · rfl
         intro w5 h5 ho5))
    rw [K6.out] at h5
    have ho5' := HO4.out.trans ho5
    have hT5 := (ho5'.block hTX).trans HT3.out
    have hD5 := HD3.out.only ho5' hnX
    have hW5 : Own O w w5 := (Own.of_fr HF3.out).only ho5' (.inr hTn)
    have hS5 : Secs w5.drew M s := hD5.secs
    obtain ⟨w6, hr6, hS6, ho6⟩ := hS5.store (s' := cutK s f size (size / 64 + 1)) f (size / 64) hf (by have := HM.out; omega) (fun f' n' _ hh => cutK_first_other s f size f' n' hh)
    unfold plc at hr6
    rw [← HE.out] at hr6
    have hD6 : DkAt w6 O B M C pv kv (cutK s f size (size / 64 + 1)) := hD5.setM ho6.drew_left hS6 (hD5.blk.congr (fun _ _ => rfl) (fun _ _ => rfl) rfl rfl rfl) rfl rfl
    have hW6 : Own O w w6 := hW5.only ho6.drew_left (.inl hD5.oM)
    have c0 : w5.cell? ⟨B, 0, none⟩ = some (.map (some M)) := cellOf hD5.heap hD5.blk.files
    have p0 : w5.cell? ⟨T6, 0, none⟩ = some (.int .i64 f) := cellOf hT5 rfl
    have p1 : w5.cell? ⟨T6, 1, none⟩ = some (.int .i64 ((size : Int) / 64)) := cellOf hT5 rfl
    have hT6 := (ho6.drew_left.block (k := T6) (fun e => hnT (by rw [e]; exact hD5.oM))).trans hT5
    have q1 : w6.cell? ⟨T6, 1, none⟩ = some (.int .i64 ((size : Int) / 64)) := cellOf hT6 rfl
    have HS := Lib.hid h5
    have HR := Lib.hid hr6
    have HD6 := Lib.hid hD6
    have HW6 := Lib.hid hW6
    clear h5 ho5 ho5' hT5 hD5 hW5 hS5 hr6 hS6 ho6 hD6 hW6 H4 K1 K2 K3 K4 K5 K6 HO4 HT3 HD3 HF3 hT6 hcl hsl
    generalize hY : (cutK s f size (size / 64 + 1)).sec f (size / 64) = Y at *
    have hYl : Y.length = 129 := by rw [← hY]; exact secL_length _ _ _
    clear hY
    refine wp_region_still_tail 6 (by kernel_rfl) (by kernel_rfl) ?_
    simp only [List.take_succ_cons, List.take_zero, List.drop_succ_cons, List.drop_zero]
    iterate 5 still_step
    refine wpStill_load_whole rfl 90 (.tmp 7) rfl T7 rfl Y 90 _ HS.out Tryd.underlying90 rfl (by rw [hYl]; exact infoSec) ?_
    refine wpStill_nil ?_
    refine wpList_map_store rfl (.tmp 28) (.tmp 29) (.tmp 30) _ rfl M _ _ rfl rfl rfl HR.out rfl ?_
    go_wp2_with fail
    have HZ := Lib.hid HM.out
    clear q1 p0 p1 c0 hz hYl HS HR hnT hnX hTX hTn
    go_loopw [8] (fun s8 wr => ∃ hi : Nat, s8 = .int .i64 hi ∧ size / 64 + 1 ≤ hi ∧ hi ≤ 262146 ∧ Hid (DkAt wr O B M C pv kv (cutK s f size hi)) ∧ Hid (Own O w wr)) (fun s8 _ => 300000 - (intOf s8).toNat)
    case atStart => exact ⟨size / 64 + 1, by go_num, by omega, by omega, HD6, HW6⟩
    case round =>
      obtain ⟨hi, rfl, h1, h2, HDr, HWr⟩ := hrel
      have cz : wr.cell? ⟨B, 1 + f, none⟩ = some (.int .i64 (s.sz f)) := cellOf HDr.out.heap (HDr.out.blk.sz f hf)
      have c0 : wr.cell? ⟨B, 0, none⟩ = some (.map (some M)) := cellOf HDr.out.heap HDr.out.blk.files
      obtain ⟨z, hz⟩ : ∃ z, z = s.sz f := ⟨_, rfl⟩
      have hz1 : z ≤ 16777216 := by rw [hz]; exact HM.out
      rw [← hz] at cz
      have HZ1 := Lib.hid hz
      clear hz
      by_cases hlt : hi * 64 < z
      · obtain ⟨w7, hr7, hS7, ho7⟩ := HDr.out.secs.delete (s' := cutK s f size (hi + 1)) f hi hf (by omega) (fun f' n' _ hh => cutK_next_other s f size hi f' n' hh) (cutK_next s f size hi h1 (HP.out hi)) 0
        unfold plc at hr7
        have hD7 : DkAt w7 O B M C pv kv (cutK s f size (hi + 1)) := HDr.out.setM ho7 hS7 (HDr.out.blk.congr (fun _ _ => rfl) (fun _ _ => rfl) rfl rfl rfl) rfl rfl
        have hW7 : Own O w w7 := HWr.out.only ho7 (.inl HDr.out.oM)
        have HD7 := Lib.hid hD7
        have HW7 := Lib.hid hW7
        clear hD7 hW7 hS7 ho7
        go_wp2_with fail
        go_roundw
        case rel => exact ⟨hi + 1, by go_num, by omega, by omega, HD7, HW7⟩
        case measure => simp [intOf]; omega
      · have cd : wr.cell? ⟨B, 17 + f, none⟩ = some (.int .i64 (s.dz f)) := cellOf HDr.out.heap (HDr.out.blk.dz f hf)
        have f1 : wr.frozen? ⟨B, 1 + f, none⟩ = false := frozenOf HDr.out.heap _
        have f2 : wr.frozen? ⟨B, 17 + f, none⟩ = false := frozenOf HDr.out.heap _
        have cd' : (wr.setCell ⟨B, 1 + f, none⟩ (.int .i64 size)).cell? ⟨B, 17 + f, none⟩ = some (.int .i64 (s.dz f)) := by
          rw [World.cell?_setCell_other _ _ _ _ (by simp)]; exact cd
        have hfin : DkP O w ((wr.setCell ⟨B, 1 + f, none⟩ (.int .i64 size)).setCell ⟨B, 17 + f, none⟩ (.int .i64 size)) B (cutS s f size) := by
          have d1 := HDr.out.setB (1 + f) (.int .i64 size) (HDr.out.blk.setSz f size hf) (fun _ _ _ => rfl) rfl rfl
          have d2 := d1.setB (s' := cutS s f size) (17 + f) (.int .i64 size) ((d1.blk.setDz f size hf).congr (fun _ _ => rfl) (fun _ _ => rfl) rfl rfl rfl) (fun f' n' _ => cutK_last s HI.out f size hi (by rw [← HZ1.out]; omega) HP.out f' n') rfl rfl
          exact ⟨O, ⟨M, _, pv, kv, d2⟩, Gr.self, (HWr.out.setCell (.inl HDr.out.oB) _).setCell (.inl HDr.out.oB) _⟩
        have HFIN := Lib.hid hfin
        clear hfin
        go_wp2_with fail
        go_region
        all_goals (go_end0; exact ⟨rfl, HFIN.out.fr (Fr.drew _)⟩)
end Go.Proofs.YtjcajgcfkidbkaaDoor
