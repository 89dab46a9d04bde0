/-
  Package disk: put.
-/
import Derived.Test.YtjcajgcfkidbkaaDoorCrash
namespace Go.Proofs.YtjcajgcfkidbkaaDoor
open Go.RowKit

/-- How many bytes are put when c sectors have been written. -/
def pos (at_ len c : Nat) : Nat := if c = 0 then 0 else min (64 * (at_ / 64 + c) - at_) len
def newQ (s : RS) (f m c : Nat) : List (Nat × Nat) := ((List.range' m c).filter (fun x => !s.pd f x)).map (fun x => (f, x))
def putK (s : RS) (f at_ : Nat) (l : List UInt8) (c : Nat) : RS := { s with
  now := fun f' i => if f' = f ∧ at_ ≤ i ∧ i < at_ + pos at_ l.length c then l.getD (i - at_) 0 else s.now f' i
  pd := fun f' m => if f' = f ∧ at_ / 64 ≤ m ∧ m < at_ / 64 + c then true else s.pd f' m
  q := s.q ++ newQ s f (at_ / 64) c }
/-- How many sectors n bytes touch. -/
def tot (at_ n : Nat) : Nat := (at_ + n - 1) / 64 - at_ / 64 + 1
def putS (s : RS) (f at_ : Nat) (l : List UInt8) : RS := { putK s f at_ l (tot at_ l.length) with sz := fun g => if g = f then max (s.sz f) (at_ + l.length) else s.sz g }

theorem newQ_succ (s : RS) (f m c : Nat) : newQ s f m (c + 1) = newQ s f m c ++ if s.pd f (m + c) then [] else [(f, m + c)] := by
  unfold newQ
  rw [List.range'_concat, List.filter_append, List.map_append]
  congr 1
  simp only [Nat.one_mul, List.filter_cons, List.filter_nil]
  cases s.pd f (m + c) <;> simp

theorem pos_le (at_ len c : Nat) : pos at_ len c ≤ len := by unfold pos; split <;> omega
theorem pos_div (at_ len c : Nat) (h : pos at_ len c < len) : (at_ + pos at_ len c) / 64 = at_ / 64 + c := by
  unfold pos at *
  split at h
  · rename_i hc; rw [if_pos hc]; omega
  · rename_i hc; rw [if_neg hc]; omega
theorem pos_succ (at_ len c : Nat) (h : pos at_ len c < len) : pos at_ len (c + 1) = pos at_ len c + min (len - pos at_ len c) (64 - (at_ + pos at_ len c) % 64) := by
  have h1 := pos_div at_ len c h
  have e : pos at_ len (c + 1) = min (64 * (at_ / 64 + (c + 1)) - at_) len := by unfold pos; rw [if_neg (by omega)]
  rw [e]
  omega

theorem putK_zero (s : RS) (f at_ : Nat) (l : List UInt8) (f' n' : Nat) : (putK s f at_ l 0).sec f' n' = s.sec f' n' := by
  refine secL_congr (fun i hi => ?_) (fun i hi => rfl) ?_ <;> dsimp only [putK]
  · rw [if_neg (by unfold pos; rw [if_pos rfl]; omega)]
  · rw [if_neg (by omega)]
theorem putK_hit (s : RS) (f at_ : Nat) (l : List UInt8) (c : Nat) (h : pos at_ l.length c < l.length) (o cnt : Nat) (ho : o = (at_ + pos at_ l.length c) % 64) (hc : cnt = min (l.length - pos at_ l.length c) (64 - o)) :
    (putK s f at_ l (c + 1)).sec f (at_ / 64 + c) = secL (fun j => if o ≤ j ∧ j < o + cnt then ((l.drop (pos at_ l.length c)).take cnt).getD (j - o) 0 else (putK s f at_ l c).now f (64 * (at_ / 64 + c) + j)) ((fun j => s.dur f (64 * (at_ / 64 + c) + j))) true := by
  have h1 := pos_div at_ l.length c h
  have h2 := pos_succ at_ l.length c h
  refine secL_congr (fun i hi => ?_) (fun i hi => rfl) ?_ <;> dsimp only [putK]
  · rw [h2]
    by_cases c1 : o ≤ i ∧ i < o + cnt
    · rw [if_pos c1, if_pos ⟨rfl, by omega, by omega⟩]
      rw [List.getD_eq_getElem?_getD, List.getD_eq_getElem?_getD, List.getElem?_take, if_pos (by omega), List.getElem?_drop]
      congr 2
      omega
    · rw [if_neg c1]
      by_cases c2 : at_ ≤ 64 * (at_ / 64 + c) + i ∧ 64 * (at_ / 64 + c) + i < at_ + pos at_ l.length c
      · rw [if_pos ⟨rfl, c2.1, by omega⟩, if_pos ⟨rfl, c2⟩]
      · rw [if_neg (fun h => c2 ⟨h.2.1, by omega⟩), if_neg (fun h => c2 h.2)]
  · rw [if_pos ⟨rfl, by omega, by omega⟩]
theorem putK_other (s : RS) (f at_ : Nat) (l : List UInt8) (c : Nat) (h : pos at_ l.length c < l.length) (f' n' : Nat) (hn : ¬ (f' = f ∧ n' = at_ / 64 + c)) : (putK s f at_ l (c + 1)).sec f' n' = (putK s f at_ l c).sec f' n' := by
  have h1 := pos_div at_ l.length c h
  have h2 := pos_succ at_ l.length c h
  refine secL_congr (fun i hi => ?_) (fun i hi => rfl) ?_ <;> dsimp only [putK]
  · rw [h2]
    by_cases c2 : f' = f ∧ at_ ≤ 64 * n' + i ∧ 64 * n' + i < at_ + pos at_ l.length c
    · rw [if_pos ⟨c2.1, c2.2.1, by omega⟩, if_pos c2]
    · rw [if_neg (fun h => c2 ⟨h.1, h.2.1, by
        have : n' ≠ at_ / 64 + c := fun e => hn ⟨h.1, e⟩
        omega⟩), if_neg c2]
  · by_cases c2 : f' = f ∧ at_ / 64 ≤ n' ∧ n' < at_ / 64 + c
    · rw [if_pos ⟨c2.1, c2.2.1, by omega⟩, if_pos c2]
    · rw [if_neg (fun h => c2 ⟨h.1, h.2.1, by
        have : n' ≠ at_ / 64 + c := fun e => hn ⟨h.1, e⟩
        omega⟩), if_neg c2]
theorem putK_pend (s : RS) (f at_ : Nat) (l : List UInt8) (c : Nat) : (putK s f at_ l c).pd f (at_ / 64 + c) = s.pd f (at_ / 64 + c) := by
  dsimp only [putK]; rw [if_neg (by omega)]

theorem newQ_len (s : RS) (f m c : Nat) : (newQ s f m c).length ≤ c := by
  unfold newQ
  rw [List.length_map]
  exact Nat.le_trans (List.length_filter_le _ _) (by simp)
/-! ### copy out of a string -/
theorem run_copy_str {P : Program} (w : World) (dT sT ty elem : TypeId) (T off dLen dCap cnt : Nat) (t : ByteArray) (L cs : List Value) (tt : TypeId)
    (hu : P.underlying dT = some (.slice elem)) (hz : (Go.sizeOf elem).run P w = .ok 1 w) (hT : w.heap[T]? = some (.cells L.toArray tt (0, 0))) (hcnt : cnt = Nat.min t.size dLen) (hfit : off + cnt ≤ L.length) (hcs : cs = (t.data.toList.take cnt).map u8) :
    (Builtin.copy_ #[dT, sT] ty #[.slice (some ⟨T, off, none⟩) dLen dCap, .string t]).run P w = .ok (goInt cnt) (w.setRow T (splice L off cs).toArray) := by
  have hsz : t.data.toList.length = t.size := by rw [Array.length_toList]; rfl
  have hl : cs.length = cnt := by
    rw [hcs, List.length_map, List.length_take, hsz]
    have : cnt ≤ t.size := by rw [hcnt]; exact Nat.min_le_left _ _
    omega
  have hst := run_storeCells_at (P := P) T off tt cs 0 L.toArray w hT (by rw [hl]; simpa using hfit) (by
    intro v hv
    rw [hcs] at hv
    obtain ⟨x, _, rfl⟩ := List.mem_map.1 hv
    rfl)
  simp only [Nat.add_zero, List.append_assoc] at hst
  have hm : List.take cnt (List.map (fun b => Value.int IntKind.u8 ↑b.toNat) t.data.toList) = cs := by rw [hcs, List.map_take]; rfl
  simp [Builtin.copy_, run_underlying hu, Builtin.lenOf, Builtin.firstCells, hz, ← hcnt]
  rw [hm, hst]
  rfl

theorem step_copy_str {P : Program} {ops : Array Oper} {o : Oper} {a : Act} {w : World} {K : Act → World → Prop} {Q : Exit → Act → World → Prop} {E : Prop}
    (hg : o.guard = none) (d x : Operand) (dT sT : TypeId) (hop : o.op = Op.call { callee := Callee.builtin Builtin.copy, args := #[d, x], argTypes := #[dT, sT] })
    (elem : TypeId) (hu : P.underlying dT = some (.slice elem)) (hz : (Go.sizeOf elem).run P w = .ok 1 w) (T off dLen dCap cnt : Nat) (hd : a.eval d = .slice (some ⟨T, off, none⟩) dLen dCap) (t : ByteArray) (hx : a.eval x = .string t)
    (L cs : List Value) (tt : TypeId) (hT : w.heap[T]? = some (.cells L.toArray tt (0, 0))) (hcnt : cnt = Nat.min t.size dLen) (hfit : off + cnt ≤ L.length) (hcs : cs = (t.data.toList.take cnt).map u8)
    (hK : ∀ w', w'.heap[T]? = some (.cells (splice L off cs).toArray tt (0, 0)) → OnlyB T w w' → K (a.put o.dst (goInt cnt)) w') :
    if Region.wanted o (yielded ops a.tmps) = true then Oper.wp P o a w K Q else E := by
  have hw : Region.wanted o (yielded ops a.tmps) = true := by simp [Region.wanted, hg]
  rw [if_pos hw]
  have hrun := run_copy_str (P := P) w dT sT o.type elem T off dLen dCap cnt t L cs tt hu hz hT hcnt hfit hcs
  unfold Oper.wp
  simp [execOp, hop, resolve, invoke, builtin, hd, hx, hrun, Result.andThen]
  exact hK _ (setRow_heap w T _ _ tt _ hT) (OnlyB.setRow w T _)

set_option maxRecDepth 100000 in
theorem placeOf_sum (f a n : Nat) (w : World) (h1 : a + n ≤ 1000000000000) :
    Calls Tryd.prog 61 #[.int .i64 f, .int .i64 ((a : Int) + (n : Int))] w fun e w' => e = .returned (.agg #[.int .i64 f, .int .i64 (((a : Int) + (n : Int)) / 64)]) ∧ Fr w w' := by
  have := placeOf_any f (a + n) w h1
  rw [show ((a + n : Nat) : Int) = (a : Int) + (n : Int) by omega, show (((a + n) / 64 : Nat) : Int) = ((a : Int) + (n : Int)) / 64 by omega] at this
  exact this

theorem slice_add (T x y : Nat) (w : World) : (Instr.sliceAt 88 (.pointer (some ⟨T, 0, none⟩)) (some (.int .i64 (((x : Int) + (y : Int)) % 64))) none none).run Tryd.prog w = .ok (.slice (some ⟨T, (x + y) % 64, none⟩) (64 - (x + y) % 64) (64 - (x + y) % 64)) w := by
  have := slice_mod T (x + y) w
  rw [show ((x + y : Nat) : Int) = (x : Int) + (y : Int) by omega] at this
  exact this

set_option maxRecDepth 100000 in
set_option maxHeartbeats 2000000 in
theorem put_any (O : Nat → Prop) (B f at_ : Nat) (str : ByteArray) (l : List UInt8) (s : RS) (w : World) (hstr : str.data.toList = l) (h : Dk w O B s) (hI : Inv s) (hf : f < 16) (hl : l ≠ []) (hat : at_ + l.length ≤ 16777216) :
    Calls Tryd.prog 65 #[.pointer (some ⟨B, 0, none⟩), .int .i64 f, .int .i64 at_, .string str] w fun e w' => e = .returned (.tuple #[]) ∧ DkP O w w' B (putS s f at_ l) := by
  have hql := hI.q_le
  have hll : str.size = l.length := by rw [← hstr, Array.length_toList]; rfl
  obtain ⟨n0, hn0⟩ : ∃ n0, n0 = str.size := ⟨_, rfl⟩
  have hn1 : n0 ≤ 16777216 := by omega
  have hat1 : at_ + n0 ≤ 16777216 := by omega
  have hnp : 0 < n0 := by rw [hn0, hll]; cases l with | nil => exact absurd rfl hl | cons _ _ => simp
  obtain ⟨M, C, pv, kv, hd⟩ := h
  have hOB := hd.oB
  have hOM := hd.oM
  have HI := Lib.hid hI
  have HD0 := Lib.hid (show DkAt w O B M C pv kv (putK s f at_ l 0) from by
    have := hd.setM (s' := { putK s f at_ l 0 with q := s.q }) (OnlyB.refl M w) (hd.secs.congr (fun f' n' _ => putK_zero s f at_ l f' n')) (hd.blk.congr (fun _ _ => rfl) (fun _ _ => rfl) rfl rfl rfl) rfl rfl
    have e : putK s f at_ l 0 = { putK s f at_ l 0 with q := s.q } := by
      simp [putK, newQ]
    rw [e]; exact this)
  have HW0 := Lib.hid (Own.refl O w)
  have HL := Lib.hid hll
  have HS := Lib.hid hstr
  have HN0 := Lib.hid hn0
  have HB := Lib.hid hd.bound
  obtain ⟨i0, hi, hz0, hz1, hz2⟩ := info_parts infoPlace
  have HIN := Lib.hid hi
  clear hd hI hll hstr hi hl hat
  have hlen : str.size = n0 := hn0.symm
  clear hn0
  go_enter Tryd.func65, Tryd.ntmps65
  go_wp2_with fail
  go_loopw [8] (fun s8 wr => ∃ (c n : Nat) (O' : Nat → Prop) (C' : Array Value) (pv' : Value), s8 = .int .i64 n ∧ n ≤ n0 ∧ Hid (n = pos at_ l.length c) ∧ Hid (c = 0 ∨ pos at_ l.length (c - 1) < l.length) ∧ Hid (DkAt wr O' B M C' pv' kv (putK s f at_ l c)) ∧ Hid (Own O w wr) ∧ Hid (∀ k, O' k → Gr O w wr k)) (fun s8 _ => n0 - (intOf s8).toNat)
  case atStart => exact ⟨0, 0, O, C, pv, by go_num, by omega, Lib.hid rfl, Lib.hid (.inl rfl), HD0, HW0, Lib.hid Gr.self⟩
  case round =>
    obtain ⟨c, n, O', C', pv', rfl, h1, HP, HC, HDr, HWr, HGr⟩ := hrel
    by_cases hlt : n < n0
    · have hlt' : pos at_ l.length c < l.length := by rw [← HP.out, ← HL.out, hlen]; exact hlt
      have hdiv : (at_ + n) / 64 = at_ / 64 + c := by rw [HP.out]; exact pos_div _ _ _ hlt'
      have HDIV := Lib.hid hdiv
      have HLT := Lib.hid hlt'
      clear hdiv hlt'
      go_upto_region 3 with (go_at_call 61; refine (placeOf_sum f at_ n _ (by omega)).mono ?_; rintro e w1 ⟨rfl, hf1⟩; have HF1 := Lib.hid hf1; clear hf1)
      have hd1 := HDr.out.fr HF1.out
      have hT : (w1.alloc (.cells #[.int .i64 f, .int .i64 (((at_ : Int) + (n : Int)) / 64)] 87)).heap[w1.heap.size]? = some (.cells #[.int .i64 f, .int .i64 (((at_ : Int) + (n : Int)) / 64)] 87 (0, 0)) := heap_alloc_new w1 _
      have hnT : ¬ O' w1.heap.size := fun h => Nat.lt_irrefl _ (hd1.bound _ h)
      have hd2 := hd1.fr (Fr.alloc w1 (.cells #[.int .i64 f, .int .i64 (((at_ : Int) + (n : Int)) / 64)] 87))
      have HW2 := Lib.hid ((HWr.out.fr HF1.out).fr (Fr.alloc w1 (.cells #[.int .i64 f, .int .i64 (((at_ : Int) + (n : Int)) / 64)] 87)))
      have hsz1 : w.heap.size ≤ w1.heap.size := Nat.le_trans HWr.out.size HF1.out.size
      have HGw : Hid (∀ k, O' k → Gr O w w1 k) := Lib.hid (fun k hk => by
        rcases HGr.out k hk with h | ⟨h, h'⟩
        · exact .inl h
        · exact .inr ⟨h, Nat.lt_of_lt_of_le h' HF1.out.size⟩)
      clear HDr HWr HF1 hd1 HGr
      generalize w1.heap.size = T6 at *
      generalize (w1.alloc (.cells #[.int .i64 f, .int .i64 (((at_ : Int) + (n : Int)) / 64)] 87)) = w2 at *
      have HE : Hid (((at_ : Int) + (n : Int)) / 64 = ((at_ / 64 + c : Nat) : Int)) := Lib.hid (by have := HDIV.out; omega)
      have hnb : at_ / 64 + c < 1000000000000 := by have := HDIV.out; omega
      have hlk : ∀ w', Fr w2 w' → (Instr.lookup 67 (.map (some M)) (.agg #[.int .i64 f, .int .i64 (((at_ : Int) + (n : Int)) / 64)]) false).run Tryd.prog w' = .ok (.agg ((putK s f at_ l c).sec f (at_ / 64 + c)).toArray) w' := fun w' hw' => by
        rw [HE.out]; exact ((hd2.fr hw').secs).lookup f (at_ / 64 + c) hf hnb
      have hz : ∀ w : World, (zeroValue 90).run Tryd.prog w = .ok (.agg zeroL.toArray) w := run_zeroSec
      have c0 := cellOf hd2.heap hd2.blk.files
      have p0 : w2.cell? ⟨T6, 0, none⟩ = some (.int .i64 f) := cellOf hT rfl
      have p1 : w2.cell? ⟨T6, 1, none⟩ = some (.int .i64 (((at_ : Int) + (n : Int)) / 64)) := cellOf hT rfl
      have hlB := hd2.bound _ hd2.oB
      have hlT : T6 < w2.heap.size := (Array.getElem?_eq_some_iff.1 hT).1
      have hst : (storeCells ⟨w2.heap.size, 0, none⟩ ((putK s f at_ l c).sec f (at_ / 64 + c))).run Tryd.prog (w2.alloc (.cells zeroL.toArray 90)).drew =
          .ok () (w2.alloc (.cells ((putK s f at_ l c).sec f (at_ / 64 + c)).toArray 90)).drew := run_store_new w2 _ zeroL _ infoSec (secL_length _ _ _) zeroL_length (secL_one _ _ _)
      have HD := Lib.hid hd2
      have HT := Lib.hid hT
      clear hd2 hT
      have hXl : ((putK s f at_ l c).sec f (at_ / 64 + c)).length = 129 := secL_length _ _ _
      generalize hX : (putK s f at_ l c).sec f (at_ / 64 + c) = X at hlk hst hXl
      have HX0 := Lib.hid hX
      clear hX
      go_cut [10] (fun s7 wx => s7 = .pointer (some ⟨w2.heap.size, 0, none⟩) ∧ Fr w2 wx ∧ wx.heap[w2.heap.size]? = some (.cells X.toArray 90 (0, 0)))
      case first =>
        go_region_held3 (fun w' => w'.cell? ⟨B, 0, none⟩ = some (.map (some M)) ∧ w'.cell? ⟨T6, 0, none⟩ = some (.int .i64 f) ∧ w'.cell? ⟨T6, 1, none⟩ = some (.int .i64 (((at_ : Int) + (n : Int)) / 64)) ∧ Fr w2 w')
          (first
            | exact ⟨by go_keep, by go_keep, by go_keep, Fr.drew _⟩
            | exact ⟨by go_keep, by go_keep, by go_keep, (Fr.alloc _ _).trans (Fr.drew _)⟩)
          (fail)
        all_goals (go_wp2_with fail; go_meet; exact ⟨rfl, (Fr.alloc _ _).trans (Fr.drew _), heap_alloc_new w2.drew _⟩)
      case rest =>
        obtain ⟨rfl, hfr, hx⟩ := hcut
        have hnX : ¬ O' w2.heap.size := fun h => Nat.lt_irrefl _ (HD.out.bound _ h)
        have hTX : T6 ≠ w2.heap.size := Nat.ne_of_lt hlT
        have HT3 := Lib.hid ((hfr.block hlT).trans HT.out)
        have HD3 := Lib.hid (HD.out.fr hfr)
        have HW3 := Lib.hid (HW2.out.fr hfr)
        have HX := Lib.hid hx
        have hTn : w.heap.size ≤ w2.heap.size := HW2.out.size
        clear hx hlk hst c0 p0 p1 hlB hlT HT HD HW2 hfr
        generalize w2.heap.size = T7 at *
        have hsl := fun w => slice_add T7 at_ n w
        obtain ⟨o, ho⟩ : ∃ o, o = (at_ + n) % 64 := ⟨_, rfl⟩
        obtain ⟨cnt, hcnt⟩ : ∃ cnt, cnt = min (n0 - n) (64 - o) := ⟨_, rfl⟩
        have ho64 : o < 64 := by omega
        obtain ⟨cs, hcs⟩ : ∃ cs, cs = (((l.drop n).take cnt).map u8) := ⟨_, rfl⟩
        obtain ⟨Y, hY⟩ : ∃ Y, Y = splice X o cs := ⟨_, rfl⟩
        have hzz : ∀ w, (Go.sizeOf 5).run Tryd.prog w = .ok 1 w := fun w => by kernel_rfl
        rw [← ho] at hsl
        have HO := Lib.hid ho
        have HCNT := Lib.hid hcnt
        have HCS := Lib.hid hcs
        have HY := Lib.hid hY
        clear ho hcs hY
        have hcl : n + cnt ≤ n0 := by omega
        have hc64 : cnt ≤ 64 := by omega
        clear hcnt
        go_upto_region 4 with fail
        go_cut [8] (fun s8 wx => s8 = .int .i64 ((n : Int) + (cnt : Int)) ∧ OnlyB T7 wc wx ∧ wx.heap[T7]? = some (.cells Y.toArray 90 (0, 0)))
        case first =>
          have hw1 : IntKind.i64.wrap ((at_ : Int) + (n : Int)) = (at_ : Int) + (n : Int) := IntWalk.i64_in _ (by omega)
          have hw2 : ((at_ : Int) + (n : Int)).tmod 64 = ((at_ : Int) + (n : Int)) % 64 := Int.tmod_eq_emod_of_nonneg (by omega)
          have hw3 : IntKind.i64.wrap ((n : Int) + (cnt : Int)) = (n : Int) + (cnt : Int) := IntWalk.i64_in _ (by omega)
          have ht1 : (str.extract n n0).size = n0 - n := by rw [ByteArray.size_extract]; omega
          have ht2 : (str.extract n n0).data.toList = l.drop n := by
            rw [ByteArray.data_extract, Array.toList_extract, HS.out]
            rw [List.extract_eq_take_drop, List.take_of_length_le (by rw [List.length_drop]; have := HL.out; omega)]
          have hq1 : cnt = Nat.min (str.extract n n0).size (64 - o) := by rw [ht1]; exact HCNT.out
          have hq2 : cs = (((str.extract n n0).data.toList).take cnt).map u8 := by rw [ht2]; exact HCS.out
          have hq3 : o + cnt ≤ X.length := by rw [hXl]; omega
          have HQ1 := Lib.hid hq1
          have HQ2 := Lib.hid hq2
          have HQ3 := Lib.hid hq3
          clear ht1 ht2 hq1 hq2 hq3
          go_region_held3 (fun _ => True) (trivial) ((refine step_copy_str rfl (.tmp 32) (.tmp 35) 65 9 rfl 5 Tryd.underlying65 (hzz _) T7 o (64 - o) (64 - o) cnt rfl (str.extract n n0) rfl X cs 90 HX.out HQ1.out HQ3.out HQ2.out ?_; intro wk hk hok; have HKK := Lib.hid hk; have HOK := Lib.hid hok; clear hk hok))
          all_goals (go_wp2_with fail; go_meet; exact ⟨rfl, HOK.out, by rw [HY.out]; exact HKK.out⟩)
        case rest =>
          obtain ⟨rfl, ho4, h4⟩ := hcut
          obtain ⟨pp, hpp⟩ : ∃ pp, pp = s.pd f (at_ / 64 + c) := ⟨_, rfl⟩
          obtain ⟨a, b, hX'⟩ : ∃ a b : Nat → UInt8, X = secL a b pp ∧ a = (fun j => (putK s f at_ l c).now f (64 * (at_ / 64 + c) + j)) ∧ b = fun j => s.dur f (64 * (at_ / 64 + c) + j) := ⟨_, _, by rw [← HX0.out, hpp, ← putK_pend s f at_ l c]; rfl, rfl, rfl⟩
          have hlcs : ((l.drop n).take cnt).length = cnt := by rw [List.length_take, List.length_drop, ← HL.out]; omega
          have hYs : Y = secL (fun j => if o ≤ j ∧ j < o + cnt then ((l.drop n).take cnt).getD (j - o) 0 else a j) b pp := by
            rw [HY.out, hX'.1, HCS.out, secL_copy _ _ _ _ _ (by rw [hlcs]; have := HCNT.out; omega), hlcs]
          have hsec : secL (fun j => if o ≤ j ∧ j < o + cnt then ((l.drop n).take cnt).getD (j - o) 0 else a j) b true = (putK s f at_ l (c + 1)).sec f (at_ / 64 + c) := by
            rw [putK_hit s f at_ l c HLT.out o cnt (by rw [← HP.out]; exact HO.out) (by rw [← HP.out, ← HL.out, hlen]; exact HCNT.out), hX'.2.1, hX'.2.2, ← HP.out]
          have y128 : wc.cell? ⟨T7, 128, none⟩ = some (.bool pp) := cellOf h4 (by rw [hYs, List.getElem?_toArray, secL_pend])
          have z128 : wc.frozen? ⟨T7, 128, none⟩ = false := frozenOf h4 128
          have HT4 := Lib.hid ((ho4.block hTX).trans HT3.out)
          have HD4 := Lib.hid (HD3.out.only ho4 hnX)
          have HW4 := Lib.hid (HW3.out.only ho4 (.inr hTn))
          have hs3 : T7 < wc.heap.size := (Array.getElem?_eq_some_iff.1 h4).1
          have hs4 : T6 < wc.heap.size := (Array.getElem?_eq_some_iff.1 HT4.out).1
          have H4 := Lib.hid h4
          have HYS := Lib.hid hYs
          have HSEC := Lib.hid hsec
          have HPP := Lib.hid hpp
          have hpos : n + cnt = pos at_ l.length (c + 1) := by
            rw [pos_succ _ _ _ HLT.out, ← HP.out, ← HO.out, ← HL.out, hlen, ← HCNT.out]
          have hcp : 0 < cnt := by have := HCNT.out; omega
          have HPOS := Lib.hid hpos
          have HGw2 : Hid (∀ k, O' k → Gr O w wc k) := Lib.hid (fun k hk => by
            rcases HGw.out k hk with h | ⟨h, h'⟩
            · exact .inl h
            · exact .inr ⟨h, HD4.out.bound k hk⟩)
          clear h4 ho4 hX' hlcs hYs hsec hpp hpos HT3 HD3 HW3 HX HX0 hXl HY HCS HGw
          have HE2 := HE
          clear HE
          obtain ⟨w4, hw4⟩ : ∃ w4, w4 = wc := ⟨_, rfl⟩
          subst hw4
          cases pp
          · go_upto_region 7 with fail
            have hpf := pend_form HD4.out.pend
            obtain ⟨ao, cap, hpv⟩ := hpf
            obtain ⟨q0, hq0⟩ : ∃ q0, q0 = (putK s f at_ l c).q := ⟨_, rfl⟩
            rw [← hq0] at hpv
            subst hpv
            have hqb : q0.length + 1 ≤ 100000000 := by
              have h1 := newQ_len s f (at_ / 64) c
              have h2 : q0.length = s.q.length + (newQ s f (at_ / 64) c).length := by rw [hq0]; simp [putK]
              have h3 := HDIV.out
              omega
            have h5 : (w4.setCell ⟨T7, 128, none⟩ (.bool true)).heap[T7]? = some (.cells ((putK s f at_ l (c + 1)).sec f (at_ / 64 + c)).toArray 90 (0, 0)) := by
              rw [heapB H4.out, HYS.out, secL_set, HSEC.out]
            have ho5 := OnlyB.setCell w4 T7 128 (.bool true)
            have hT5 := (ho5.block hTX).trans HT4.out
            have hD5 := HD4.out.only ho5 hnX
            have hW5 := HW4.out.only ho5 (.inr hTn)
            have hGw5 : Hid (∀ k, O' k → Gr O w (w4.setCell ⟨T7, 128, none⟩ (.bool true)) k) := Lib.hid (fun k hk => by
              rcases HGw2.out k hk with h | ⟨h, h'⟩
              · exact .inl h
              · exact .inr ⟨h, by rw [ho5.size]; exact h'⟩)
            have hs5 : T7 < (w4.setCell ⟨T7, 128, none⟩ (.bool true)).heap.size := by rw [ho5.size]; exact hs3
            have hs6 : T6 < (w4.setCell ⟨T7, 128, none⟩ (.bool true)).heap.size := by rw [ho5.size]; exact hs4
            clear y128 z128 HT4 HD4 HW4 H4 HYS HSEC HGw2 ho5 hs3 hs4
            generalize (w4.setCell ⟨T7, 128, none⟩ (.bool true)) = w5 at *
            have hpend := hD5.pend
            rw [← hq0] at hpend
            have c33 : w5.cell? ⟨B, 33, none⟩ = some (.slice ao q0.length cap) := cellOf hD5.heap hD5.blk.pend
            have f33 : w5.frozen? ⟨B, 33, none⟩ = false := frozenOf hD5.heap _
            have p0 : w5.cell? ⟨T6, 0, none⟩ = some (.int .i64 f) := cellOf hT5 rfl
            have p1 : w5.cell? ⟨T6, 1, none⟩ = some (.int .i64 (((at_ : Int) + (n : Int)) / 64)) := cellOf hT5 rfl
            have hlB5 := hD5.bound _ hD5.oB
            have hnpB : (Value.slice ao q0.length cap).ownBlock ≠ some B := fun e => row_ne hpend hD5.heap (by decide) B e rfl
            have HPE := Lib.hid hpend
            have H5 := Lib.hid h5
            have HT5 := Lib.hid hT5
            have HD5 := Lib.hid hD5
            have HW5 := Lib.hid hW5
            have HQ0 := Lib.hid hq0
            clear h5 hT5 hD5 hW5 hpend hq0 hsl hzz
            obtain ⟨nq, hnq⟩ : ∃ nq, nq = q0.length := ⟨_, rfl⟩
            obtain ⟨xs, hxs⟩ : ∃ xs, xs = qCells q0 := ⟨_, rfl⟩
            rw [← hnq] at c33 hqb hnpB
            rw [← hnq, ← hxs] at HPE
            have HNQ := Lib.hid hnq
            have HXS := Lib.hid hxs
            clear hnq hxs
            go_cut [] (fun wx => ∃ (v1 : Value) (w1 : World), Hid (w1.ownsRow 0 87 2 v1 (nq + 1) (xs ++ [.int .i64 f, .int .i64 (((at_ : Int) + (n : Int)) / 64)])) ∧ Hid (w5.grownBy w1 (Value.slice ao nq cap).ownBlock) ∧ Hid (∀ p, v1.ownBlock = some p → (Value.slice ao nq cap).ownBlock = some p ∨ p = w5.heap.size + 1) ∧ wx = w1.setCell ⟨B, 33, none⟩ v1)
            case first =>
              go_region_law
                ((refine step_append_lies _ (by rfl) (.tmp 46) (.tmp 48) 69 (by rfl) 0 87 i0 (.agg #[.int .i64 0, .int .i64 0]) 2 16 Tryd.underlying69 HIN.out hz0 hz1 hz2 rfl (by decide) (.slice ao nq cap) nq xs (by rfl) ((HPE.out.alloc _).drew)
                    ⟨w5.heap.size, 0, none⟩ 1 1 [.int .i64 f, .int .i64 (((at_ : Int) + (n : Int)) / 64)] (by rfl) (by rfl) (World.news_of_block (cs := #[.int .i64 f, .int .i64 (((at_ : Int) + (n : Int)) / 64)]) (t := 87) (fr := (0, 0)) (heap_alloc_new w5 _)) (by simp [Value.oneCell'])
                    (by decide) (by unfold maxLen; omega) (by omega) (Nat.zero_le _) (w5.heap.size + 1) (by simp) ?_
                  intro gg cap1 w1 hown1 hgrow hat1 hlt1
                  have hg1 := Fr.grown ((Fr.alloc w5 (.cells #[.int .i64 f, .int .i64 (((at_ : Int) + (n : Int)) / 64)] 87)).trans (Fr.drew _)) hgrow
                  have c33' : w1.cell? ⟨B, 33, none⟩ = some (.slice ao nq cap) := by
                    rw [World.cell?_of_block (hg1.block B hlB5 (fun e => hnpB e.symm))]; exact c33
                  have f33' : w1.frozen? ⟨B, 33, none⟩ = false := by
                    rw [World.frozen?_of_block (hg1.block B hlB5 (fun e => hnpB e.symm))]; exact f33
                  have HO1 := Lib.hid hown1
                  have HG1 := Lib.hid hg1
                  have HA1 := Lib.hid hat1
                  clear hown1 hgrow hat1 hlt1 hg1))
              all_goals (go_wp2_with fail; go_meet; exact ⟨_, w1, HO1, HG1, Lib.hid (fun p hp => by
                simp only [Value.ownBlock, Option.some.injEq] at hp
                subst hp
                exact HA1.out), rfl⟩)
            case rest =>
              obtain ⟨v1, w1, HO1, HG1, HA1, rfl⟩ := hcut
              obtain ⟨q1, hq1⟩ : ∃ q1, q1 = q0 ++ [(f, at_ / 64 + c)] := ⟨_, rfl⟩
              have hr1 : w1.ownsRow 0 87 2 v1 q1.length (qCells q1) := by
                have := HO1.out
                rw [HXS.out, HNQ.out] at this
                rw [hq1, qCells_append, List.length_append]
                show w1.ownsRow 0 87 2 v1 (q0.length + 1) (qCells q0 ++ [.int .i64 ((f : Nat) : Int), .int .i64 ((at_ / 64 + c : Nat) : Int)])
                rw [← HE2.out]; exact this
              have hD6 : DkAt (w1.setCell ⟨B, 33, none⟩ v1) (fun k => O' k ∨ v1.ownBlock = some k) B M (C'.setIfInBounds 33 v1) v1 kv { putK s f at_ l c with q := q1 } :=
                HD5.out.appended (by rw [← HNQ.out]; exact HG1.out) v1 q1 hr1
              have hB1 := hD6.oB
              have hne : ∀ k, k < w5.heap.size → ¬ O' k → (w1.setCell ⟨B, 33, none⟩ v1).heap[k]? = w5.heap[k]? := fun k hk hn => by
                rw [heap_setCell_other w1 ⟨B, 33, none⟩ k v1 (fun e => hn (by rw [e]; exact HD5.out.oB))]
                exact HG1.out.block k hk (fun e => hn (HD5.out.oP k (by rw [← HNQ.out]; exact e.symm)))
              have hT6' := (hne T6 hs6 hnT).trans HT5.out
              have hX6' := (hne T7 hs5 hnX).trans H5.out
              have hnT1 : ¬ (O' T6 ∨ v1.ownBlock = some T6) := fun h => by
                rcases h with h | h
                · exact hnT h
                · rcases HA1.out T6 h with h' | h'
                  · exact hnT (HD5.out.oP T6 (by rw [← HNQ.out]; exact h'))
                  · omega
              have hnX1 : ¬ (O' T7 ∨ v1.ownBlock = some T7) := fun h => by
                rcases h with h | h
                · exact hnX h
                · rcases HA1.out T7 h with h' | h'
                  · exact hnX (HD5.out.oP T7 (by rw [← HNQ.out]; exact h'))
                  · omega
              have hW6 : Own O w (w1.setCell ⟨B, 33, none⟩ v1) := (HW5.out.grown HG1.out (fun p hp => by
                rcases hGw5.out p (HD5.out.oP p (by rw [← HNQ.out]; exact hp)) with h | ⟨h, _⟩
                · exact .inl h
                · exact .inr h)).setCell (.inl hOB) v1
              have hGw6 : Hid (∀ k, (O' k ∨ v1.ownBlock = some k) → Gr O w (w1.setCell ⟨B, 33, none⟩ v1) k) := Lib.hid (fun k hk => by
                have hlt := hD6.bound k hk
                rcases hk with hk | hk
                · rcases hGw5.out k hk with h | ⟨h, _⟩
                  · exact .inl h
                  · exact .inr ⟨h, hlt⟩
                · rcases HA1.out k hk with h' | h'
                  · rcases hGw5.out k (HD5.out.oP k (by rw [← HNQ.out]; exact h')) with h | ⟨h, _⟩
                    · exact .inl h
                    · exact .inr ⟨h, hlt⟩
                  · exact .inr ⟨by have := HW5.out.size; omega, hlt⟩)
              have hq2 : q1 = (putK s f at_ l (c + 1)).q := by
                show q1 = s.q ++ newQ s f (at_ / 64) (c + 1)
                rw [newQ_succ, ← HPP.out, hq1, HQ0.out]
                simp [putK]
              have HQ2 := Lib.hid hq2
              obtain ⟨O2, hO2⟩ : ∃ O2 : Nat → Prop, O2 = fun k => O' k ∨ v1.ownBlock = some k := ⟨_, rfl⟩
              rw [← hO2] at hD6
              have hnT2 : ¬ O2 T6 := by rw [hO2]; exact hnT1
              have hnX2 : ¬ O2 T7 := by rw [hO2]; exact hnX1
              have hGw7 : Hid (∀ k, O2 k → Gr O w (w1.setCell ⟨B, 33, none⟩ v1) k) := by rw [hO2]; exact hGw6
              clear hO2 hGw6 hq2 hq1 hr1 hne hnT1 hnX1 HO1 HG1 HA1 HPE HT5 HD5 HW5 hGw5 H5 HQ0 HXS HNQ c33 f33 p0 p1 hlB5 hnpB hnT hnX hB1 hs5 hs6 hqb
              generalize (w1.setCell ⟨B, 33, none⟩ v1) = w6 at *
              go_upto_region 8 with fail
              have hD5 := hD6
              have hT5 := hT6'
              have h5 := hX6'
              have hW5 := hW6
              have hnT := hnT2
              clear hD6 hT6' hX6' hW6 hnT2
              have hS5 : Secs w6.drew M ({ putK s f at_ l c with q := q1 }) := hD5.secs
              obtain ⟨w7, hr6, hS6, ho6⟩ := hS5.store (s' := putK s f at_ l (c + 1)) f (at_ / 64 + c) hf hnb (fun f' n' _ hh => putK_other s f at_ l c HLT.out f' n' hh)
              unfold plc at hr6
              rw [← HE2.out] at hr6
              have hD6 : DkAt w7 O2 B M _ v1 kv (putK s f at_ l (c + 1)) := hD5.setM ho6.drew_left hS6 (hD5.blk.congr (fun _ _ => rfl) (fun _ _ => rfl) rfl rfl rfl) HQ2.out.symm rfl
              have hW6 : Own O w w7 := hW5.only ho6.drew_left (.inl hOM)
              have c0 : w6.cell? ⟨B, 0, none⟩ = some (.map (some M)) := cellOf hD5.heap hD5.blk.files
              have p0 : w6.cell? ⟨T6, 0, none⟩ = some (.int .i64 f) := cellOf hT5 rfl
              have p1 : w6.cell? ⟨T6, 1, none⟩ = some (.int .i64 (((at_ : Int) + (n : Int)) / 64)) := cellOf hT5 rfl
              have HT6 := Lib.hid ((ho6.drew_left.block (k := T6) (fun e => hnT (by rw [e]; exact hD5.oM))).trans hT5)
              have HOM := Lib.hid ho6.drew_left
              have HS := Lib.hid h5
              have HR := Lib.hid hr6
              have HD6 := Lib.hid hD6
              have HW6 := Lib.hid hW6
              clear h5 hT5 hD5 hW5 hS5 hr6 hS6 ho6 hD6 hW6
              generalize hY : (putK s f at_ l (c + 1)).sec f (at_ / 64 + c) = Y at HS HR
              have hYl : Y.length = 129 := by rw [← hY]; exact secL_length _ _ _
              clear hY
              refine wp_region_still_tail 6 (by kernel_rfl) (by kernel_rfl) ?_
              simp only [List.take_succ_cons, List.take_zero, List.drop_succ_cons, List.drop_zero]
              iterate 5 still_step
              refine wpStill_load_whole rfl 90 (.tmp 10) rfl T7 rfl Y 90 _ HS.out Tryd.underlying90 rfl (by rw [hYl]; exact infoSec) ?_
              refine wpStill_nil ?_
              simp only [Act.put, List.setIfInBounds_toArray, List.set_cons_zero, List.set_cons_succ]
              refine wpList_map_store rfl (.tmp 55) (.tmp 56) (.tmp 57) _ rfl M _ _ rfl rfl rfl HR.out rfl ?_
              clear HR HS hYl
              go_wp2_with fail
              go_roundw
              case rel =>
                refine ⟨c + 1, n + cnt, O2, _, v1, by go_num, by omega, HPOS, Lib.hid (.inr HLT.out), HD6, HW6, ?_⟩
                have hbb := HD6.out.bound
                exact Lib.hid (fun k hk => by
                  rcases hGw7.out k hk with h | ⟨h, _⟩
                  · exact .inl h
                  · exact .inr ⟨h, hbb k hk⟩)
              case measure => simp [intOf]; omega
          · go_upto_region 8 with fail
            have hq2 : (putK s f at_ l c).q = (putK s f at_ l (c + 1)).q := by
              show s.q ++ newQ s f (at_ / 64) c = s.q ++ newQ s f (at_ / 64) (c + 1)
              rw [newQ_succ, ← HPP.out]
              simp
            have HQ2 := Lib.hid hq2
            have h5 : w4.heap[T7]? = some (.cells ((putK s f at_ l (c + 1)).sec f (at_ / 64 + c)).toArray 90 (0, 0)) := by
              rw [H4.out, HYS.out, HSEC.out]
            have hT5 := HT4.out
            have hD5 := HD4.out
            have hW5 := HW4.out
            clear hq2 y128 z128 HT4 HD4 HW4 H4 HYS HSEC
            have hS5 : Secs w4.drew M (putK s f at_ l c) := hD5.secs
            obtain ⟨w7, hr6, hS6, ho6⟩ := hS5.store (s' := putK s f at_ l (c + 1)) f (at_ / 64 + c) hf hnb (fun f' n' _ hh => putK_other s f at_ l c HLT.out f' n' hh)
            unfold plc at hr6
            rw [← HE2.out] at hr6
            have hD6 : DkAt w7 O' B M _ pv' kv (putK s f at_ l (c + 1)) := hD5.setM ho6.drew_left hS6 (hD5.blk.congr (fun _ _ => rfl) (fun _ _ => rfl) rfl rfl rfl) HQ2.out.symm rfl
            have hW6 : Own O w w7 := hW5.only ho6.drew_left (.inl hOM)
            have c0 : w4.cell? ⟨B, 0, none⟩ = some (.map (some M)) := cellOf hD5.heap hD5.blk.files
            have p0 : w4.cell? ⟨T6, 0, none⟩ = some (.int .i64 f) := cellOf hT5 rfl
            have p1 : w4.cell? ⟨T6, 1, none⟩ = some (.int .i64 (((at_ : Int) + (n : Int)) / 64)) := cellOf hT5 rfl
            have HT6 := Lib.hid ((ho6.drew_left.block (k := T6) (fun e => hnT (by rw [e]; exact hD5.oM))).trans hT5)
            have HOM := Lib.hid ho6.drew_left
            have HS := Lib.hid h5
            have HR := Lib.hid hr6
            have HD6 := Lib.hid hD6
            have HW6 := Lib.hid hW6
            clear h5 hT5 hD5 hW5 hS5 hr6 hS6 ho6 hD6 hW6
            generalize hY : (putK s f at_ l (c + 1)).sec f (at_ / 64 + c) = Y at HS HR
            have hYl : Y.length = 129 := by rw [← hY]; exact secL_length _ _ _
            clear hY
            refine wp_region_still_tail 6 (by kernel_rfl) (by kernel_rfl) ?_
            simp only [List.take_succ_cons, List.take_zero, List.drop_succ_cons, List.drop_zero]
            iterate 5 still_step
            refine wpStill_load_whole rfl 90 (.tmp 10) rfl T7 rfl Y 90 _ HS.out Tryd.underlying90 rfl (by rw [hYl]; exact infoSec) ?_
            refine wpStill_nil ?_
            simp only [Act.put, List.setIfInBounds_toArray, List.set_cons_zero, List.set_cons_succ]
            refine wpList_map_store rfl (.tmp 55) (.tmp 56) (.tmp 57) _ rfl M _ _ rfl rfl rfl HR.out rfl ?_
            clear HR HS hYl
            go_wp2_with fail
            go_roundw
            case rel =>
              refine ⟨c + 1, n + cnt, O', _, pv', by go_num, by omega, HPOS, Lib.hid (.inr HLT.out), HD6, HW6, ?_⟩
              have hbb := HD6.out.bound
              exact Lib.hid (fun k hk => by
                rcases HGw2.out k hk with h | ⟨h, _⟩
                · exact .inl h
                · exact .inr ⟨h, hbb k hk⟩)
            case measure => simp [intOf]; omega
    · have hn : n = l.length := by have := HL.out; omega
      have hne : l.length ≠ 0 := by have := HL.out; omega
      have hct : c = tot at_ l.length := by
        have h2 := HP.out
        rw [hn] at h2
        have h3 := HC.out
        unfold tot
        rcases h3 with h3 | h3
        · subst h3; unfold pos at h2; rw [if_pos rfl] at h2; omega
        · by_cases hc0 : c = 0
          · subst hc0; unfold pos at h2; rw [if_pos rfl] at h2; omega
          · unfold pos at h2
            rw [if_neg hc0] at h2
            have h4 := pos_div at_ l.length (c - 1) h3
            omega
      obtain ⟨z, hz⟩ : ∃ z, z = s.sz f := ⟨_, rfl⟩
      have hzm : z ≤ 16777216 := by rw [hz]; exact HI.out.max f
      have csz : wr.cell? ⟨B, 1 + f, none⟩ = some (.int .i64 z) := by rw [hz]; exact cellOf HDr.out.heap (HDr.out.blk.sz f hf)
      have fsz : wr.frozen? ⟨B, 1 + f, none⟩ = false := frozenOf HDr.out.heap _
      have hfin : ∀ mx, mx = max z (at_ + n0) → DkP O w (wr.setCell ⟨B, 1 + f, none⟩ (.int .i64 mx)) B (putS s f at_ l) := fun mx hmx => by
        have d1 := HDr.out.setB (s' := putS s f at_ l) (1 + f) (.int .i64 mx) ((HDr.out.blk.setSz f mx hf).congr (fun g _ => by
          show (if g = f then max (s.sz f) (at_ + l.length) else s.sz g) = (if g = f then mx else s.sz g)
          rw [hmx, hz, ← HL.out, hlen]) (fun _ _ => rfl) rfl rfl rfl) (fun f' n' _ => by rw [hct]; rfl) (by rw [hct]; rfl) rfl
        exact ⟨O', ⟨M, _, _, kv, d1⟩, fun k hk => by
          rcases HGr.out k hk with h | ⟨h, h'⟩
          · exact .inl h
          · exact .inr ⟨h, by simpa using h'⟩, HWr.out.setCell (.inl hOB) _⟩
      have HFIN := Lib.hid hfin
      have HMX : Hid (∀ a b : Nat, a ≤ b → max a b = b) := Lib.hid (fun a b h => Nat.max_eq_right h)
      clear hfin hz hct hne hn
      by_cases hm : at_ + n0 ≤ z
      · have hm' : (at_ : Int) + (n0 : Int) ≤ (z : Int) := by omega
        have hm2 : ¬ ((z : Int) < (at_ : Int) + (n0 : Int)) := by omega
        have hw1 : IntKind.i64.wrap ((at_ : Int) + (n0 : Int)) = (at_ : Int) + (n0 : Int) := IntWalk.i64_in _ (by omega)
        have hF := HFIN.out z (by omega)
        have HF := Lib.hid hF
        clear hF
        go_wp2_with fail
        go_region
        all_goals (go_end0; exact ⟨rfl, HF.out.fr (Fr.drew _)⟩)
      · have hm' : (z : Int) < (at_ : Int) + (n0 : Int) := by omega
        have hm2 : ¬ ((at_ : Int) + (n0 : Int) ≤ (z : Int)) := by omega
        have hw1 : IntKind.i64.wrap ((at_ : Int) + (n0 : Int)) = (at_ : Int) + (n0 : Int) := IntWalk.i64_in _ (by omega)
        have hF := HFIN.out (at_ + n0) (by omega)
        rw [show ((at_ + n0 : Nat) : Int) = (at_ : Int) + (n0 : Int) by omega] at hF
        have HF := Lib.hid hF
        clear hF
        go_wp2_with fail
        go_region
        all_goals (go_end0; exact ⟨rfl, HF.out.fr (Fr.drew _)⟩)
end Go.Proofs.YtjcajgcfkidbkaaDoor
