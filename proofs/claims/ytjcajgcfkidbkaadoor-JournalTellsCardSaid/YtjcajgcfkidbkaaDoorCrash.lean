/-
  Package disk: Crash.
-/
import Derived.Test.YtjcajgcfkidbkaaDoorSettle
namespace Go.Proofs.YtjcajgcfkidbkaaDoor
open Go.RowKit

/-- A slice of ints that reads as the list ks. -/
def Ints (w : World) (v : Value) (ks : List Int) : Prop :=
  (ks = [] ∧ ∃ a c, v = .slice a 0 c) ∨ ∃ b o c, v = .slice (some ⟨b, o, none⟩) ks.length c ∧ ∀ i (h : i < ks.length), w.cell? ⟨b, o + i, none⟩ = some (.int .i64 ks[i])
theorem Ints.frame {w w' : World} {v : Value} {ks : List Int} (h : Ints w v ks) (hw : ∀ p, ks ≠ [] → v.ownBlock = some p → p < w.heap.size → w'.heap[p]? = w.heap[p]?) : Ints w' v ks := by
  rcases h with h | ⟨b, o, c, rfl, h⟩
  · exact .inl h
  · refine .inr ⟨b, o, c, rfl, fun i hi => ?_⟩
    have h1 := h i hi
    rw [World.cell?_of_block (hw b (fun e => by subst e; simp at hi) rfl (World.block_lt_of_cell? w _ h1))]; exact h1
theorem Ints.form {w : World} {v : Value} {ks : List Int} (h : Ints w v ks) : ∃ a c, v = .slice a ks.length c := by
  rcases h with ⟨rfl, a, c, rfl⟩ | ⟨b, o, c, rfl, _⟩
  · exact ⟨a, c, rfl⟩
  · exact ⟨_, _, rfl⟩
theorem Ints.cell {w : World} {a : Option Addr} {c n : Nat} {ks : List Int} (h : Ints w (.slice a n c) ks) (i : Nat) (hi : i < ks.length) : ∃ b o, a = some ⟨b, o, none⟩ ∧ w.cell? ⟨b, o + i, none⟩ = some (.int .i64 ks[i]) := by
  rcases h with ⟨rfl, _⟩ | ⟨b, o, c', h1, h2⟩
  · simp at hi
  · simp only [Value.slice.injEq] at h1
    exact ⟨b, o, h1.1, h2 i hi⟩

/-- Does the pending sector with this index survive? -/
def kept (ks : List Int) (i : Nat) : Bool := decide (0 < ks.length) && ((ks.getD (i % ks.length) 0).tmod 2 != 0)
def crStep (ks : List Int) (j : Nat) (p : Nat × Nat) (st : RS) : RS := { st with
  dur := fun f' i => if f' = p.1 ∧ i / 64 = p.2 ∧ kept ks j = true then st.now p.1 i else st.dur f' i
  now := fun f' i => if f' = p.1 ∧ i / 64 = p.2 then (if kept ks j = true then st.now p.1 i else st.dur p.1 i) else st.now f' i
  pd := fun f' n => if f' = p.1 ∧ n = p.2 then false else st.pd f' n
  dz := fun g => if g = p.1 ∧ kept ks j = true then max (st.dz g) (min ((p.2 + 1) * 64) (st.sz g)) else st.dz g }
def crK (s : RS) (ks : List Int) : Nat → RS
  | 0 => s
  | k + 1 => if h : k < s.q.length then crStep ks k (s.q[k]) (crK s ks k) else crK s ks k
def crashS (s : RS) (ks : List Int) : RS := if s.down then s else
  { crK s ks s.q.length with sz := (crK s ks s.q.length).dz, q := [], keep := [], calls := 0, down := true }
/-- Only the sizes are those behind the step. -/
def crPre (ks : List Int) (j : Nat) (p : Nat × Nat) (st : RS) : RS := { st with dz := (crStep ks j p st).dz }
theorem crK_rest (s : RS) (ks : List Int) (k : Nat) : (crK s ks k).sz = s.sz ∧ (crK s ks k).q = s.q ∧ (crK s ks k).lost = s.lost ∧ (crK s ks k).calls = s.calls ∧ (crK s ks k).keep = s.keep ∧ (crK s ks k).down = s.down := by
  induction k with
  | zero => exact ⟨rfl, rfl, rfl, rfl, rfl, rfl⟩
  | succ k ih =>
    unfold crK
    split
    · exact ih
    · exact ih
theorem crStep_other (ks : List Int) (j : Nat) (p : Nat × Nat) (st : RS) (f' n' : Nat) (h : ¬ (f' = p.1 ∧ n' = p.2)) : (crStep ks j p st).sec f' n' = st.sec f' n' := by
  refine secL_congr (fun i hi => ?_) (fun i hi => ?_) ?_ <;> dsimp only [crStep]
  · rw [show (64 * n' + i) / 64 = n' by omega, if_neg h]
  · rw [show (64 * n' + i) / 64 = n' by omega, if_neg (fun h1 => h ⟨h1.1, h1.2.1⟩)]
  · rw [if_neg h]
theorem crStep_hit (ks : List Int) (j : Nat) (f n : Nat) (st : RS) (h : kept ks j = true) : (crStep ks j (f, n) st).sec f n = secL (fun i => st.now f (64 * n + i)) (fun i => st.now f (64 * n + i)) false := by
  refine secL_congr (fun i hi => ?_) (fun i hi => ?_) ?_ <;> dsimp only [crStep]
  · rw [show (64 * n + i) / 64 = n by omega, if_pos ⟨rfl, rfl⟩, if_pos h]
  · rw [show (64 * n + i) / 64 = n by omega, if_pos ⟨rfl, rfl, h⟩]
  · rw [if_pos ⟨rfl, rfl⟩]
theorem crStep_lost (ks : List Int) (j : Nat) (f n : Nat) (st : RS) (h : kept ks j = false) : (crStep ks j (f, n) st).sec f n = secL (fun i => st.dur f (64 * n + i)) (fun i => st.dur f (64 * n + i)) false := by
  have h' : ¬ (kept ks j = true) := by rw [h]; exact Bool.false_ne_true
  refine secL_congr (fun i hi => ?_) (fun i hi => ?_) ?_ <;> dsimp only [crStep]
  · rw [show (64 * n + i) / 64 = n by omega, if_pos ⟨rfl, rfl⟩, if_neg h']
  · rw [if_neg (fun h1 => h' h1.2.2)]
  · rw [if_pos ⟨rfl, rfl⟩]

set_option maxRecDepth 100000 in
theorem crash_down (v : Value) (O : Nat → Prop) (B : Nat) (s : RS) (w : World) (h : Dk w O B s) (hd : s.down = true) :
    Calls Tryd.prog 24 #[.pointer (some ⟨B, 0, none⟩), v] w fun e w' => e = .returned (.tuple #[]) ∧ w' = w := by
  obtain ⟨M, C, pv, kv, h⟩ := h
  have c37 := cellOf h.heap h.blk.down
  rw [hd] at c37
  clear h
  go_enter Tryd.func24, Tryd.ntmps24
  go_wp2_with fail
  exact bodyPost_ret (v := .tuple #[]) (by simp [results, Tryd.results24, go_sem]) rfl ⟨rfl, rfl⟩

theorem wpList_load16 {ops : Array Oper} {rest : List Oper} {op : Oper} {a : Act} {w : World} {Q : Exit → Act → World → Prop} (hgd : op.guard = none) (x : Operand) (ho : op.op = .load 68 x)
    (b o : Nat) (hx : a.eval x = .pointer (some ⟨b, o, none⟩)) (cs : List Value) (hc : w.rangeAt b o cs) (hi : (Tryd.prog.info? 68).map (·.size) = some cs.length)
    (h : wpList Tryd.prog ops Q rest (a.put op.dst (.agg cs.toArray)) w) : wpList Tryd.prog ops Q (op :: rest) a w :=
  wpList_load_mid hgd 68 x ho b o hx cs _ hc Tryd.underlying68 rfl hi h
set_option maxRecDepth 100000 in
theorem info16 : (Tryd.prog.info? 68).map (·.size) = some 16 := by kernel_rfl
set_option maxRecDepth 100000 in
set_option maxHeartbeats 2000000 in
theorem crash_at (ks : List Int) (v : Value) (O : Nat → Prop) (B M : Nat) (C : Array Value) (pv kv : Value) (s : RS) (w : World) (hd : DkAt w O B M C pv kv s) (hI : Inv s) (hdn : s.down = false) (hk : Ints w v ks)
    (hkB : ∀ p, ks ≠ [] → v.ownBlock = some p → p ≠ B ∧ p ≠ M) :
    Calls Tryd.prog 24 #[.pointer (some ⟨B, 0, none⟩), v] w fun e w' => e = .returned (.tuple #[]) ∧ DkP O w w' B (crashS s ks) := by
  have hql := hI.q_le
  obtain ⟨ka, kc, rfl⟩ := hk.form
  obtain ⟨ao, cap, rfl⟩ := pend_form hd.pend
  have c33 := cellOf hd.heap hd.blk.pend
  have c37 := cellOf hd.heap hd.blk.down
  rw [hdn] at c37
  have HI := Lib.hid hI
  have HKB := Lib.hid hkB
  have HD0 := Lib.hid hd
  have HK0 := Lib.hid hk
  have HW0 := Lib.hid (Own.refl O w)
  have HDN := Lib.hid hdn
  clear hd hI hk hkB hdn
  obtain ⟨nq, hnq⟩ : ∃ nq, nq = s.q.length := ⟨_, rfl⟩
  obtain ⟨nk, hnk⟩ : ∃ nk, nk = ks.length := ⟨_, rfl⟩
  rw [← hnq] at c33 hql
  rw [← hnk] at HKB HK0
  have HN := Lib.hid hnq
  have HNK := Lib.hid hnk
  clear hnq hnk
  go_enter Tryd.func24, Tryd.ntmps24
  rw [← HNK.out]
  go_wp2_with fail
  go_loopw [17] (fun s17 wr => ∃ (k : Nat) (C' : Array Value), s17 = .int .i64 k ∧ k ≤ nq ∧ Hid (DkAt wr O B M C' (.slice ao s.q.length cap) kv (crK s ks k)) ∧ Hid (Own O w wr) ∧ Hid (Ints wr (.slice ka nk kc) ks)) (fun s17 _ => nq - (intOf s17).toNat)
  case atStart => exact ⟨0, C, by go_num, by omega, HD0, HW0, HK0⟩
  case round =>
    obtain ⟨k, C', rfl, h1, HDr, HWr, HKr⟩ := hrel
    by_cases hlt : k < nq
    · have hlt' : k < s.q.length := by rw [← HN.out]; exact hlt
      have hpend : wr.ownsRow 0 87 2 (.slice ao s.q.length cap) s.q.length (qCells s.q) := by
        have := HDr.out.pend
        rw [(crK_rest s ks k).2.1] at this
        exact this
      obtain ⟨g, rfl, e1, e2⟩ := pend_cells hpend k hlt'
      obtain ⟨fk, hfk⟩ : ∃ fk, fk = (s.q[k]).1 := ⟨_, rfl⟩
      obtain ⟨nn, hnn⟩ : ∃ nn, nn = (s.q[k]).2 := ⟨_, rfl⟩
      have b1 := HI.out.inQ _ (List.getElem_mem hlt')
      have b2 := HI.out.max (s.q[k]).1
      have e1' : wr.cell? ⟨g, k * 2, none⟩ = some (.int .i64 fk) := by rw [hfk]; exact e1
      have e2' : wr.cell? ⟨g, k * 2 + 1, none⟩ = some (.int .i64 nn) := by rw [hnn]; exact e2
      rw [← hnn] at b1
      rw [← hfk] at b1 b2
      have hf := b1.1
      have hnb : nn < 1000000000000 := by omega
      have hnn2 : nn ≤ 262144 := by omega
      have HFK := Lib.hid hfk
      have HNN := Lib.hid hnn
      clear e1 e2 b2 b1 hfk hnn hpend
      go_upto_region 4 with fail
      have hT : (wr.alloc (.cells #[.int .i64 fk, .int .i64 nn] 87)).heap[wr.heap.size]? = some (.cells #[.int .i64 fk, .int .i64 nn] 87 (0, 0)) := heap_alloc_new wr _
      have hnT : ¬ O wr.heap.size := fun h => Nat.lt_irrefl _ (HDr.out.bound _ h)
      have hd2 := HDr.out.fr (Fr.alloc wr (.cells #[.int .i64 fk, .int .i64 nn] 87))
      have HW2 := Lib.hid (HWr.out.fr (Fr.alloc wr (.cells #[.int .i64 fk, .int .i64 nn] 87)))
      have HK2 := Lib.hid (HKr.out.frame (fun p _ _ hp => (Fr.alloc wr (.cells #[.int .i64 fk, .int .i64 nn] 87)).block hp))
      clear HDr HWr HKr e1' e2'
      generalize wr.heap.size = T6 at *
      generalize (wr.alloc (.cells #[.int .i64 fk, .int .i64 nn] 87)) = w2 at *
      have hlk : ∀ w', Fr w2 w' → (Instr.lookup 67 (.map (some M)) (.agg #[.int .i64 fk, .int .i64 nn]) false).run Tryd.prog w' = .ok (.agg ((crK s ks k).sec fk nn).toArray) w' := fun w' hw' => by
        exact ((hd2.fr hw').secs).lookup fk nn hf hnb
      have hz : ∀ w : World, (zeroValue 90).run Tryd.prog w = .ok (.agg zeroL.toArray) w := run_zeroSec
      have c0 := cellOf hd2.heap hd2.blk.files
      have p0 : w2.cell? ⟨T6, 0, none⟩ = some (.int .i64 fk) := cellOf hT rfl
      have p1 : w2.cell? ⟨T6, 1, none⟩ = some (.int .i64 nn) := cellOf hT rfl
      have hlB := hd2.bound _ hd2.oB
      have hlT : T6 < w2.heap.size := (Array.getElem?_eq_some_iff.1 hT).1
      have hst : (storeCells ⟨w2.heap.size, 0, none⟩ ((crK s ks k).sec fk nn)).run Tryd.prog (w2.alloc (.cells zeroL.toArray 90)).drew =
          .ok () (w2.alloc (.cells ((crK s ks k).sec fk nn).toArray 90)).drew := run_store_new w2 _ zeroL _ infoSec (secL_length _ _ _) zeroL_length (secL_one _ _ _)
      have HD := Lib.hid hd2
      have HT := Lib.hid hT
      clear hd2 hT
      have hXl : ((crK s ks k).sec fk nn).length = 129 := secL_length _ _ _
      generalize hX : (crK s ks k).sec fk nn = X at hlk hst hXl
      have HX0 := Lib.hid hX
      clear hX
      go_cut [6] (fun s7 wx => s7 = .pointer (some ⟨w2.heap.size, 0, none⟩) ∧ Fr w2 wx ∧ wx.heap[w2.heap.size]? = some (.cells X.toArray 90 (0, 0)))
      case first =>
        go_region_held3 (fun w' => w'.cell? ⟨B, 0, none⟩ = some (.map (some M)) ∧ w'.cell? ⟨T6, 0, none⟩ = some (.int .i64 fk) ∧ w'.cell? ⟨T6, 1, none⟩ = some (.int .i64 nn) ∧ Fr w2 w')
          (first
            | exact ⟨by go_keep, by go_keep, by go_keep, Fr.drew _⟩
            | exact ⟨by go_keep, by go_keep, by go_keep, (Fr.alloc _ _).trans (Fr.drew _)⟩)
          (fail)
        all_goals (go_wp2_with fail; go_meet; exact ⟨rfl, (Fr.alloc _ _).trans (Fr.drew _), heap_alloc_new w2.drew _⟩)
      case rest =>
        obtain ⟨rfl, hfr, hx⟩ := hcut
        have hnX : ¬ O w2.heap.size := fun h => Nat.lt_irrefl _ (HD.out.bound _ h)
        have hTX : T6 ≠ w2.heap.size := Nat.ne_of_lt hlT
        have HT3 := Lib.hid ((hfr.block hlT).trans HT.out)
        have HD3 := Lib.hid (HD.out.fr hfr)
        have HW3 := Lib.hid (HW2.out.fr hfr)
        have HK3 := Lib.hid (HK2.out.frame (fun p _ _ hp => hfr.block hp))
        have HX := Lib.hid hx
        have hTn : w.heap.size ≤ w2.heap.size := HW2.out.size
        have HPT : Hid (ks ≠ [] → ∀ p, (Value.slice ka nk kc).ownBlock = some p → p ≠ w2.heap.size) := Lib.hid (fun he p hp => by
          rcases HK2.out with ⟨h0, _⟩ | ⟨b, o, c, h1, h2⟩
          · exact absurd h0 he
          · rw [h1] at hp
            simp only [Value.ownBlock, Option.some.injEq] at hp
            subst hp
            have hl : 0 < ks.length := by cases ks with | nil => exact absurd rfl he | cons _ _ => simp
            exact Nat.ne_of_lt (World.block_lt_of_cell? w2 _ (h2 0 hl)))
        clear hx hlk hst c0 p0 p1 hlB hlT HT HD HW2 HK2 hfr
        have hsz2 : w2.heap.size < wc.heap.size := (Array.getElem?_eq_some_iff.1 HX.out).1
        generalize w2.heap.size = T7 at *
        go_upto_region 5 with fail
        obtain ⟨kp, hkp⟩ : ∃ kp, kp = kept ks k := ⟨_, rfl⟩
        go_cut [41] (fun s41 wx => s41 = .bool kp ∧ wx = wc)
        case first =>
          by_cases hn0 : 0 < nk
          · have hmod : k % nk < nk := Nat.mod_lt _ hn0
            have hmod' : k % nk < ks.length := by rw [← HNK.out]; exact hmod
            obtain ⟨bk, ok, hka, hcx⟩ := HK3.out.cell (k % nk) hmod'
            subst hka
            obtain ⟨x, hx⟩ : ∃ x, x = ks[k % nk] := ⟨_, rfl⟩
            rw [← hx] at hcx
            have hkept : kp = (x.tmod 2 != 0) := by
              rw [hkp]
              unfold kept
              rw [← HNK.out, hx, List.getD_eq_getElem?_getD, List.getElem?_eq_getElem hmod']
              simp [hn0]
            have hmi : (k : Int) % (nk : Int) < (nk : Int) := Int.emod_lt_of_pos _ (by omega)
            have hmi0 : 0 ≤ (k : Int) % (nk : Int) := Int.emod_nonneg _ (by omega)
            have HKP := Lib.hid hkept
            clear hkept hx hkp
            go_wp2_with fail
            go_meet
            exact ⟨by rw [HKP.out], rfl⟩
          · have hkept : kp = false := by
              rw [hkp]
              unfold kept
              rw [← HNK.out]
              simp [hn0]
            have hn00 : nk = 0 := by omega
            have HKP := Lib.hid hkept
            have HN0 := Lib.hid hn00
            have hn1 : ¬ ((0 : Int) < (nk : Int)) := by omega
            clear hkept hkp hn00
            go_wp2_with fail
            go_meet
            exact ⟨by rw [HKP.out], rfl⟩
        case rest =>
          obtain ⟨rfl, rfl⟩ := hcut
          obtain ⟨a, ha⟩ : ∃ a : Nat → UInt8, a = fun j => (crK s ks k).now fk (64 * nn + j) := ⟨_, rfl⟩
          obtain ⟨b, hb⟩ : ∃ b : Nat → UInt8, b = fun j => (crK s ks k).dur fk (64 * nn + j) := ⟨_, rfl⟩
          obtain ⟨pp, hX'⟩ : ∃ (pp : Bool), X = secL a b pp := ⟨_, by rw [← HX0.out, ha, hb]; rfl⟩
          have hstep : crK s ks (k + 1) = crStep ks k (fk, nn) (crK s ks k) := by
            show (if h : k < s.q.length then _ else _) = _
            rw [dif_pos hlt', HFK.out, HNN.out]
          have HST := Lib.hid hstep
          have HA := Lib.hid ha
          have HBB := Lib.hid hb
          have HX' := Lib.hid hX'
          have HKP := Lib.hid hkp
          clear hstep ha hb hX' hkp
          cases kp
          · have HD7 := Lib.hid (HD3.out.same (s' := crPre ks k (fk, nn) (crK s ks k)) (fun _ _ _ => rfl) (fun _ _ => rfl) (fun g _ => by
              show (if g = fk ∧ kept ks k = true then _ else _) = _
              rw [if_neg (fun h => by rw [← HKP.out] at h; exact absurd h.2 Bool.false_ne_true)]) rfl rfl rfl rfl rfl)
            have hfin : secL b b false = (crStep ks k (fk, nn) (crK s ks k)).sec fk nn := by
              rw [crStep_lost ks k fk nn _ HKP.out.symm, HBB.out]
            have HFN := Lib.hid hfin
            clear hfin HD3
            obtain ⟨w9, hw9⟩ : ∃ w9, w9 = wc := ⟨_, rfl⟩
            subst hw9
            obtain ⟨L, hL⟩ : ∃ L, L = X := ⟨_, rfl⟩
            have HL := Lib.hid HX.out
            have hLs : X = secL a b pp := HX'.out
            obtain ⟨cs, hcs⟩ : ∃ cs, cs = (List.range 64).map (fun j => u8 (b j)) := ⟨_, rfl⟩
            have k1 : (X.drop 64).take 64 = cs := by rw [hLs, hcs]; exact take_dur _ _ _
            have k2 : cs.length = 64 := by rw [hcs]; simp
            have k3 : 0 + cs.length ≤ X.length := by rw [k2, hLs, secL_length]; decide
            have k4 : ∀ v ∈ cs, v.oneCell' = true := by rw [hcs]; intro v hv; obtain ⟨_, _, rfl⟩ := List.mem_map.1 hv; rfl
            have k5 : (Tryd.prog.info? 88).map (·.size) = some cs.length := by rw [k2]; exact info64
            have k6 : splice X 0 cs = secL b b pp := by rw [hLs, hcs, secL_undup]
            obtain ⟨L5, hL5⟩ : ∃ L5, L5 = splice X 0 cs := ⟨_, rfl⟩
            have k7 : L5.toArray[128]? = some (.bool pp) := by rw [hL5, k6, List.getElem?_toArray, secL_pend]
            have k8 : L5.toArray.setIfInBounds 128 (.bool false) = ((crStep ks k (fk, nn) (crK s ks k)).sec fk nn).toArray := by
              rw [hL5, k6, secL_set, HFN.out]
            have K1 := Lib.hid k1
            have K2 := Lib.hid k2
            have K3 := Lib.hid k3
            have K4 := Lib.hid k4
            have K5 := Lib.hid k5
            have K7 := Lib.hid k7
            have K8 := Lib.hid k8
            have KL := Lib.hid hL5
            clear k1 k2 k3 k4 k5 k6 k7 k8 hL5 hcs hLs hXl HX0
            go_upto_region 10 with (first
              | ((with_reducible refine wpList_load_half ?_ (.tmp 72) ?_ T7 64 ?_ X cs 90 HX.out K1.out K2.out ?_)
                 · rfl
                 · rfl
                 · rfl)
              | ((with_reducible refine wpList_store_part ?_ 88 (.tmp 74) (.tmp 73) ?_ T7 0 cs ?_ ?_ X 90 HX.out K3.out K5.out K4.out ?_ ?_)
                 · rfl
                 · rfl
                 · rfl
                 · rfl
                 · rfl
                 intro w5 h5 ho5
                 rw [← KL.out] at h5
                 have q128 : w5.cell? ⟨T7, 128, none⟩ = some (.bool pp) := cellOf h5 K7.out
                 have r128 : w5.frozen? ⟨T7, 128, none⟩ = false := frozenOf h5 128
                 have H5 := Lib.hid h5
                 have HO5 := Lib.hid ho5
                 clear h5 ho5))
            have h5 : (w5.setCell ⟨T7, 128, none⟩ (.bool false)).heap[T7]? = some (.cells ((crStep ks k (fk, nn) (crK s ks k)).sec fk nn).toArray 90 (0, 0)) := by
              rw [heapB H5.out, K8.out]
            have ho5 := HO5.out.trans (OnlyB.setCell w5 T7 128 (.bool false))
            have hT5 := (ho5.block hTX).trans HT3.out
            have hD5 := HD7.out.only ho5 hnX
            have hW5 := HW3.out.only ho5 (.inr hTn)
            have HK5 := Lib.hid (HK3.out.frame (fun p he hp _ => ho5.block (HPT.out he p hp)))
            clear ho5 H5 HO5 q128 r128 HT3 HD7 HW3 HK3 HX K1 K2 K3 K4 K5 K7 K8 KL
            generalize (w5.setCell ⟨T7, 128, none⟩ (.bool false)) = w7 at *
            have hS5 : Secs w7.drew M (crPre ks k (fk, nn) (crK s ks k)) := hD5.secs
            obtain ⟨w6, hr6, hS6, ho6⟩ := hS5.store (s' := crStep ks k (fk, nn) (crK s ks k)) fk nn hf hnb (fun f' n' _ hh => crStep_other ks k (fk, nn) (crK s ks k) f' n' hh)
            unfold plc at hr6
            have hD6 : DkAt w6 O B M _ (.slice (some ⟨g, 0, none⟩) s.q.length cap) kv (crStep ks k (fk, nn) (crK s ks k)) := hD5.setM ho6.drew_left hS6 (hD5.blk.congr (fun _ _ => rfl) (fun _ _ => rfl) rfl rfl rfl) rfl rfl
            have hW6 : Own O w w6 := hW5.only ho6.drew_left (.inl hD5.oM)
            have c0 : w7.cell? ⟨B, 0, none⟩ = some (.map (some M)) := cellOf hD5.heap hD5.blk.files
            have p0 : w7.cell? ⟨T6, 0, none⟩ = some (.int .i64 fk) := cellOf hT5 rfl
            have p1 : w7.cell? ⟨T6, 1, none⟩ = some (.int .i64 nn) := cellOf hT5 rfl
            have HT6 := Lib.hid ((ho6.drew_left.block (k := T6) (fun e => hnT (by rw [e]; exact hD5.oM))).trans hT5)
            have HOM := Lib.hid ho6.drew_left
            have HS := Lib.hid h5
            have HR := Lib.hid hr6
            have HD6 := Lib.hid hD6
            have HW6 := Lib.hid hW6
            clear h5 hT5 hD5 hW5 hS5 hr6 hS6 ho6 hD6 hW6
            generalize hY : (crStep ks k (fk, nn) (crK s ks k)).sec fk nn = Y at HS HR
            have hYl : Y.length = 129 := by rw [← hY]; exact secL_length _ _ _
            clear hY
            refine wp_region_still_tail 6 (by kernel_rfl) (by kernel_rfl) ?_
            simp only [List.take_succ_cons, List.take_zero, List.drop_succ_cons, List.drop_zero]
            iterate 5 still_step
            refine wpStill_load_whole rfl 90 (.tmp 6) rfl T7 rfl Y 90 _ HS.out Tryd.underlying90 rfl (by rw [hYl]; exact infoSec) ?_
            refine wpStill_nil ?_
            refine wpList_map_store rfl (.tmp 79) (.tmp 80) (.tmp 81) _ rfl M _ _ rfl rfl rfl HR.out rfl ?_
            clear HR HS hYl
            have HK6 := Lib.hid (HK5.out.frame (fun p h0 hp _ => HOM.out.block (HKB.out p h0 hp).2))
            have HD8 : Hid (DkAt w6 O B M _ (.slice (some ⟨g, 0, none⟩) s.q.length cap) kv (crK s ks (k + 1))) := Lib.hid (by rw [HST.out]; exact HD6.out)
            go_wp2_with fail
            go_roundw
            case rel => exact ⟨k + 1, _, by go_num, by omega, HD8, HW6, HK6⟩
            case measure => simp [intOf]; omega
          · obtain ⟨z, hz⟩ : ∃ z, z = s.sz fk := ⟨_, rfl⟩
            have hzm : z ≤ 16777216 := by rw [hz]; exact HI.out.max fk
            have csz : wc.cell? ⟨B, 1 + fk, none⟩ = some (.int .i64 z) := by
              rw [hz, ← congrFun (crK_rest s ks k).1 fk]; exact cellOf HD3.out.heap (HD3.out.blk.sz fk hf)
            obtain ⟨dz, hdz⟩ : ∃ dz, dz = (crK s ks k).dz fk := ⟨_, rfl⟩
            have cdz : wc.cell? ⟨B, 17 + fk, none⟩ = some (.int .i64 dz) := by rw [hdz]; exact cellOf HD3.out.heap (HD3.out.blk.dz fk hf)
            have p0 : wc.cell? ⟨T6, 0, none⟩ = some (.int .i64 fk) := cellOf HT3.out rfl
            have p1 : wc.cell? ⟨T6, 1, none⟩ = some (.int .i64 nn) := cellOf HT3.out rfl
            have HZ := Lib.hid hz
            have HDZ := Lib.hid hdz
            clear hz hdz
            obtain ⟨cs, hcs⟩ : ∃ cs, cs = (List.range 64).map (fun j => u8 (a j)) := ⟨_, rfl⟩
            have k1 : (X.drop 0).take 64 = cs := by rw [List.drop_zero, HX'.out, hcs]; exact take_now _ _ _
            have k2 : cs.length = 64 := by rw [hcs]; simp
            have k3 : 64 + cs.length ≤ X.length := by rw [k2, hXl]; decide
            have k4 : ∀ v ∈ cs, v.oneCell' = true := by rw [hcs]; intro v hv; obtain ⟨_, _, rfl⟩ := List.mem_map.1 hv; rfl
            have k5 : (Tryd.prog.info? 88).map (·.size) = some cs.length := by rw [k2]; exact info64
            have k6 : splice X 64 cs = secL a a pp := by rw [HX'.out, hcs, secL_dup]
            obtain ⟨X1, hX1⟩ : ∃ X1, X1 = splice X 64 cs := ⟨_, rfl⟩
            have K1 := Lib.hid k1
            have K2 := Lib.hid k2
            have K3 := Lib.hid k3
            have K4 := Lib.hid k4
            have K5 := Lib.hid k5
            have K6 := Lib.hid k6
            have KX := Lib.hid hX1
            clear k1 k2 k3 k4 k5 k6 hX1 hcs
            go_upto_region 7 with (first
              | ((with_reducible refine wpList_load_half ?_ (.tmp 42) ?_ T7 0 ?_ X cs 90 HX.out K1.out K2.out ?_)
                 · rfl
                 · rfl
                 · rfl)
              | ((with_reducible refine wpList_store_part ?_ 88 (.tmp 44) (.tmp 43) ?_ T7 64 cs ?_ ?_ X 90 HX.out K3.out K5.out K4.out ?_ ?_)
                 · rfl
                 · rfl
                 · rfl
                 · rfl
                 · rfl
                 intro w5 h5 ho5
                 rw [← KX.out] at h5
                 have H5 := Lib.hid h5
                 have HO5 := Lib.hid ho5
                 clear h5 ho5))
            have hTX' : B ≠ T7 := fun e => hnX (by rw [← e]; exact HD3.out.oB)
            have hWB := HO5.out.block hTX'
            have hWT := HO5.out.block hTX
            have csz5 : w5.cell? ⟨B, 1 + fk, none⟩ = some (.int .i64 z) := by rw [World.cell?_of_block hWB]; exact csz
            have cdz5 : w5.cell? ⟨B, 17 + fk, none⟩ = some (.int .i64 dz) := by rw [World.cell?_of_block hWB]; exact cdz
            have fdz5 : w5.frozen? ⟨B, 17 + fk, none⟩ = false := by rw [World.frozen?_of_block hWB]; exact frozenOf HD3.out.heap _
            have p05 : w5.cell? ⟨T6, 0, none⟩ = some (.int .i64 fk) := by rw [World.cell?_of_block hWT]; exact p0
            have p15 : w5.cell? ⟨T6, 1, none⟩ = some (.int .i64 nn) := by rw [World.cell?_of_block hWT]; exact p1
            have HD5 := Lib.hid (HD3.out.only HO5.out hnX)
            have HT5 := Lib.hid (hWT.trans HT3.out)
            have HW5 := Lib.hid (HW3.out.only HO5.out (.inr hTn))
            have HK5 := Lib.hid (HK3.out.frame (fun p he hp _ => HO5.out.block (HPT.out he p hp)))
            clear hWB hWT csz cdz p0 p1 HD3 HT3 HW3 HK3 HO5 HX K1 K2 K3 K4 K5
            obtain ⟨en, hen⟩ : ∃ en, en = min ((nn + 1) * 64) z := ⟨_, rfl⟩
            have henm : en ≤ 16777216 := by omega
            go_cut [7] (fun s7 wx => s7 = .int .i64 en ∧ Fr w5 wx)
            case first =>
              by_cases hm : (nn + 1) * 64 ≤ z
              · have he : en = (nn + 1) * 64 := by omega
                have HE := Lib.hid he
                have hm' : ((nn : Int) + 1) * 64 ≤ (z : Int) := by omega
                clear he hen
                go_wp2_with fail
                go_quiet (fail)
                go_wp2_with fail
                go_meet
                exact ⟨by rw [HE.out]; go_num, ⟨rfl, rfl, rfl, Nat.le_refl _, fun _ _ _ => rfl⟩⟩
              · have he : en = z := by omega
                have HE := Lib.hid he
                have hm' : (z : Int) < ((nn : Int) + 1) * 64 := by omega
                clear he hen
                go_wp2_with fail
                go_quiet (fail)
                go_wp2_with fail
                go_meet
                exact ⟨by rw [HE.out], ⟨rfl, rfl, rfl, Nat.le_refl _, fun _ _ _ => rfl⟩⟩
            case rest =>
              obtain ⟨rfl, hfr7⟩ := hcut
              have csz6 := hfr7.cell csz5
              have cdz6 := hfr7.cell cdz5
              have p06 := hfr7.cell p05
              have p16 := hfr7.cell p15
              have HD6 := Lib.hid (HD5.out.fr hfr7)
              have fdz6 : wc.frozen? ⟨B, 17 + fk, none⟩ = false := frozenOf HD6.out.heap _
              have hlT6 : T6 < w5.heap.size := (Array.getElem?_eq_some_iff.1 HT5.out).1
              have hlT7 : T7 < w5.heap.size := (Array.getElem?_eq_some_iff.1 H5.out).1
              have HT6 := Lib.hid ((hfr7.block hlT6).trans HT5.out)
              have H6 := Lib.hid ((hfr7.block hlT7).trans H5.out)
              have HW6 := Lib.hid (HW5.out.fr hfr7)
              have HK6 := Lib.hid (HK5.out.frame (fun p _ _ hp => hfr7.block hp))
              have HEN := Lib.hid hen
              clear hfr7 csz5 cdz5 fdz5 p05 p15 HD5 HT5 HW5 HK5 H5 hlT6 hlT7 hen
              obtain ⟨w6, hw6⟩ : ∃ w6, w6 = wc := ⟨_, rfl⟩
              subst hw6
              obtain ⟨mx, hmx⟩ : ∃ mx, mx = max dz en := ⟨_, rfl⟩
              go_upto_region 8 with fail
              go_cut [] (fun wx => OnlyB B w6 wx ∧ wx.heap[B]? = some (.cells (C'.setIfInBounds (17 + fk) (.int .i64 mx)) 71 (0, 0)))
              case first =>
                by_cases hm : en ≤ dz
                · have he : mx = dz := by omega
                  have HE := Lib.hid he
                  have hm' : (en : Int) ≤ (dz : Int) := by omega
                  have hm2 : ¬ ((dz : Int) < (en : Int)) := by omega
                  clear he hmx
                  go_wp2_with fail
                  go_region
                  all_goals (go_wp2_with fail; go_meet; exact ⟨(OnlyB.setCell w6 B _ _).drew, by rw [HE.out]; exact heapB HD6.out.heap⟩)
                · have he : mx = en := by omega
                  have HE := Lib.hid he
                  have hm' : (dz : Int) < (en : Int) := by omega
                  have hm2 : ¬ ((en : Int) ≤ (dz : Int)) := by omega
                  clear he hmx
                  go_wp2_with fail
                  go_region
                  all_goals (go_wp2_with fail; go_meet; exact ⟨(OnlyB.setCell w6 B _ _).drew, by rw [HE.out]; exact heapB HD6.out.heap⟩)
              case rest =>
                obtain ⟨ho8, hB8⟩ := hcut
                have hPB := HKB.out
                have HD9 : Hid (DkAt wc O B M (C'.setIfInBounds (17 + fk) (.int .i64 mx)) (.slice (some ⟨g, 0, none⟩) s.q.length cap) kv (crPre ks k (fk, nn) (crK s ks k))) := Lib.hid (by
                  have hb := (HD6.out.blk.setDz fk mx hf).congr (s' := crPre ks k (fk, nn) (crK s ks k)) (fun _ _ => rfl) (fun g' _ => by
                    show (if g' = fk ∧ kept ks k = true then max ((crK s ks k).dz g') (min ((nn + 1) * 64) ((crK s ks k).sz g')) else (crK s ks k).dz g') = (if g' = fk then mx else (crK s ks k).dz g')
                    by_cases c : g' = fk
                    · subst c
                      rw [if_pos ⟨rfl, HKP.out.symm⟩, if_pos rfl, hmx, HEN.out, HDZ.out, HZ.out, (crK_rest s ks k).1]
                    · rw [if_neg (fun h => c h.1), if_neg c]) rfl rfl rfl
                  exact ⟨fun k' hk' => by rw [ho8.size]; exact HD6.out.bound k' hk', HD6.out.oB, HD6.out.oM, HD6.out.oP, HD6.out.oK, hB8, hb, (HD6.out.secs.heap (ho8.block HD6.out.mb)).congr (fun _ _ _ => rfl),
                    ownsRow_heap HD6.out.pend (fun p hp => ho8.block (row_ne HD6.out.pend HD6.out.heap (by decide) p hp)),
                    ownsRow_heap HD6.out.keep (fun p hp => ho8.block (row_ne HD6.out.keep HD6.out.heap (by decide) p hp))⟩)
                have hT6B : T6 ≠ B := fun e => hnT (by rw [e]; exact HD6.out.oB)
                have HT9 := Lib.hid ((ho8.block hT6B).trans HT6.out)
                have HX9 := Lib.hid ((ho8.block hTX'.symm).trans H6.out)
                have HW9 := Lib.hid (HW6.out.only ho8 (.inl HD6.out.oB))
                have HK9 := Lib.hid (HK6.out.frame (fun p h0 hp _ => ho8.block (HKB.out p h0 hp).1))
                have hfin : secL a a false = (crStep ks k (fk, nn) (crK s ks k)).sec fk nn := by
                  rw [crStep_hit ks k fk nn _ HKP.out.symm, HA.out]
                have HFN := Lib.hid hfin
                have hLs : X1 = secL a a pp := by rw [KX.out]; exact K6.out
                clear hfin hPB hB8 ho8 hT6B HD6 HT6 H6 HW6 HK6 csz6 cdz6 fdz6 p06 p16 hmx hTX' hXl
                have hXl : True := trivial
                obtain ⟨w9, hw9⟩ : ∃ w9, w9 = wc := ⟨_, rfl⟩
                subst hw9
                obtain ⟨cs, hcs⟩ : ∃ cs, cs = (List.range 64).map (fun j => u8 (a j)) := ⟨_, rfl⟩
                have k1 : (X1.drop 64).take 64 = cs := by rw [hLs, hcs]; exact take_dur _ _ _
                have k2 : cs.length = 64 := by rw [hcs]; simp
                have k3 : 0 + cs.length ≤ X1.length := by rw [k2, hLs, secL_length]; decide
                have k4 : ∀ v ∈ cs, v.oneCell' = true := by rw [hcs]; intro v hv; obtain ⟨_, _, rfl⟩ := List.mem_map.1 hv; rfl
                have k5 : (Tryd.prog.info? 88).map (·.size) = some cs.length := by rw [k2]; exact info64
                have k6 : splice X1 0 cs = secL a a pp := by rw [hLs, hcs, secL_undup]
                obtain ⟨L5, hL5⟩ : ∃ L5, L5 = splice X1 0 cs := ⟨_, rfl⟩
                have k7 : L5.toArray[128]? = some (.bool pp) := by rw [hL5, k6, List.getElem?_toArray, secL_pend]
                have k8 : L5.toArray.setIfInBounds 128 (.bool false) = ((crStep ks k (fk, nn) (crK s ks k)).sec fk nn).toArray := by
                  rw [hL5, k6, secL_set, HFN.out]
                have K1 := Lib.hid k1
                have K2 := Lib.hid k2
                have K3 := Lib.hid k3
                have K4 := Lib.hid k4
                have K5 := Lib.hid k5
                have K7 := Lib.hid k7
                have K8 := Lib.hid k8
                have KL := Lib.hid hL5
                clear k1 k2 k3 k4 k5 k6 k7 k8 hL5 hcs hLs hXl HX0
                go_upto_region 10 with (first
                  | ((with_reducible refine wpList_load_half ?_ (.tmp 72) ?_ T7 64 ?_ X1 cs 90 HX9.out K1.out K2.out ?_)
                     · rfl
                     · rfl
                     · rfl)
                  | ((with_reducible refine wpList_store_part ?_ 88 (.tmp 74) (.tmp 73) ?_ T7 0 cs ?_ ?_ X1 90 HX9.out K3.out K5.out K4.out ?_ ?_)
                     · rfl
                     · rfl
                     · rfl
                     · rfl
                     · rfl
                     intro w5 h5 ho5
                     rw [← KL.out] at h5
                     have q128 : w5.cell? ⟨T7, 128, none⟩ = some (.bool pp) := cellOf h5 K7.out
                     have r128 : w5.frozen? ⟨T7, 128, none⟩ = false := frozenOf h5 128
                     have H5 := Lib.hid h5
                     have HO5 := Lib.hid ho5
                     clear h5 ho5))
                have h5 : (w5.setCell ⟨T7, 128, none⟩ (.bool false)).heap[T7]? = some (.cells ((crStep ks k (fk, nn) (crK s ks k)).sec fk nn).toArray 90 (0, 0)) := by
                  rw [heapB H5.out, K8.out]
                have ho5 := HO5.out.trans (OnlyB.setCell w5 T7 128 (.bool false))
                have hT5 := (ho5.block hTX).trans HT9.out
                have hD5 := HD9.out.only ho5 hnX
                have hW5 := HW9.out.only ho5 (.inr hTn)
                have HK5 := Lib.hid (HK9.out.frame (fun p he hp _ => ho5.block (HPT.out he p hp)))
                clear ho5 H5 HO5 q128 r128 HT9 HD9 HW9 HK9 HX9 K1 K2 K3 K4 K5 K7 K8 KL
                generalize (w5.setCell ⟨T7, 128, none⟩ (.bool false)) = w7 at *
                have hS5 : Secs w7.drew M (crPre ks k (fk, nn) (crK s ks k)) := hD5.secs
                obtain ⟨w6, hr6, hS6, ho6⟩ := hS5.store (s' := crStep ks k (fk, nn) (crK s ks k)) fk nn hf hnb (fun f' n' _ hh => crStep_other ks k (fk, nn) (crK s ks k) f' n' hh)
                unfold plc at hr6
                have hD6 : DkAt w6 O B M _ (.slice (some ⟨g, 0, none⟩) s.q.length cap) kv (crStep ks k (fk, nn) (crK s ks k)) := hD5.setM ho6.drew_left hS6 (hD5.blk.congr (fun _ _ => rfl) (fun _ _ => rfl) rfl rfl rfl) rfl rfl
                have hW6 : Own O w w6 := hW5.only ho6.drew_left (.inl hD5.oM)
                have c0 : w7.cell? ⟨B, 0, none⟩ = some (.map (some M)) := cellOf hD5.heap hD5.blk.files
                have p0 : w7.cell? ⟨T6, 0, none⟩ = some (.int .i64 fk) := cellOf hT5 rfl
                have p1 : w7.cell? ⟨T6, 1, none⟩ = some (.int .i64 nn) := cellOf hT5 rfl
                have HT6 := Lib.hid ((ho6.drew_left.block (k := T6) (fun e => hnT (by rw [e]; exact hD5.oM))).trans hT5)
                have HOM := Lib.hid ho6.drew_left
                have HS := Lib.hid h5
                have HR := Lib.hid hr6
                have HD6 := Lib.hid hD6
                have HW6 := Lib.hid hW6
                clear h5 hT5 hD5 hW5 hS5 hr6 hS6 ho6 hD6 hW6
                generalize hY : (crStep ks k (fk, nn) (crK s ks k)).sec fk nn = Y at HS HR
                have hYl : Y.length = 129 := by rw [← hY]; exact secL_length _ _ _
                clear hY
                refine wp_region_still_tail 6 (by kernel_rfl) (by kernel_rfl) ?_
                simp only [List.take_succ_cons, List.take_zero, List.drop_succ_cons, List.drop_zero]
                iterate 5 still_step
                refine wpStill_load_whole rfl 90 (.tmp 6) rfl T7 rfl Y 90 _ HS.out Tryd.underlying90 rfl (by rw [hYl]; exact infoSec) ?_
                refine wpStill_nil ?_
                refine wpList_map_store rfl (.tmp 79) (.tmp 80) (.tmp 81) _ rfl M _ _ rfl rfl rfl HR.out rfl ?_
                clear HR HS hYl
                have HK6 := Lib.hid (HK5.out.frame (fun p h0 hp _ => HOM.out.block (HKB.out p h0 hp).2))
                have HD8 : Hid (DkAt w6 O B M _ (.slice (some ⟨g, 0, none⟩) s.q.length cap) kv (crK s ks (k + 1))) := Lib.hid (by rw [HST.out]; exact HD6.out)
                go_wp2_with fail
                go_roundw
                case rel => exact ⟨k + 1, _, by go_num, by omega, HD8, HW6, HK6⟩
                case measure => simp [intOf]; omega
    · have hk : k = s.q.length := by rw [← HN.out]; omega
      have hbk := HDr.out.blk
      have hCl : C'.toList.length = 38 := by simpa using hbk.size
      have hbh : wr.heap[B]? = some (.cells C'.toList.toArray 71 (0, 0)) := by simpa using HDr.out.heap
      obtain ⟨cs, hcs⟩ : ∃ cs, cs = (List.range 16).map (fun f => Value.int .i64 ((crK s ks k).dz f)) := ⟨_, rfl⟩
      have j1 : wr.rangeAt B 17 cs := fun j v hv => by
        rw [hcs] at hv
        have hj : j < 16 := by
          have := (List.getElem?_eq_some_iff.1 hv).1
          simpa using this
        rw [cellOf HDr.out.heap (hbk.dz j hj), ← hv]
        simp [hj]
      have j2 : cs.length = 16 := by rw [hcs]; simp
      have j3 : 1 + cs.length ≤ C'.toList.length := by rw [j2, hCl]; decide
      have j4 : ∀ v ∈ cs, v.oneCell' = true := by rw [hcs]; intro v hv; obtain ⟨_, _, rfl⟩ := List.mem_map.1 hv; rfl
      have j5 : (Tryd.prog.info? 68).map (·.size) = some cs.length := by rw [j2]; exact info16
      obtain ⟨C8, hC8⟩ : ∃ C8, C8 = (splice C'.toList 1 cs).toArray := ⟨_, rfl⟩
      have hb8 : Blk C8 M (.slice ao s.q.length cap) kv { crK s ks k with sz := (crK s ks k).dz } := by
        have hg : ∀ i, C8[i]? = if 1 ≤ i ∧ i < 1 + 16 then cs[i - 1]? else C'[i]? := fun i => by
          rw [hC8, List.getElem?_toArray, splice_get _ _ _ _ j3, j2, Array.getElem?_toList (xs := C')]
        refine ⟨?_, ?_, fun f hf => ?_, fun f hf => ?_, ?_, ?_, ?_, ?_, ?_⟩
        · rw [hC8, List.size_toArray, length_splice _ _ _ j3]; exact hCl
        · rw [hg, if_neg (by omega)]; exact hbk.files
        · rw [hg, if_pos (by omega), show 1 + f - 1 = f by omega, hcs]; simp [hf]
        · rw [hg, if_neg (by omega)]; exact hbk.dz f hf
        · rw [hg, if_neg (by omega)]; exact hbk.pend
        · rw [hg, if_neg (by omega)]; exact hbk.lost
        · rw [hg, if_neg (by omega)]; exact hbk.calls
        · rw [hg, if_neg (by omega)]; exact hbk.keep
        · rw [hg, if_neg (by omega)]; exact hbk.down
      have J1 := Lib.hid j1
      have J2 := Lib.hid j2
      have J3 := Lib.hid j3
      have J4 := Lib.hid j4
      have J5 := Lib.hid j5
      have JH := Lib.hid hbh
      have JB := Lib.hid hb8
      have JC := Lib.hid hC8
      have JK := Lib.hid hk
      clear j1 j2 j3 j4 j5 hbh hb8 hC8 hk hcs hbk hCl
      go_wp2_with (first
        | ((with_reducible refine wpList_load16 ?_ (.tmp 86) ?_ B 17 ?_ cs J1.out J5.out ?_)
           · rfl
           · rfl
           · rfl)
        | ((with_reducible refine wpList_store_part ?_ 68 (.tmp 89) (.tmp 87) ?_ B 1 cs ?_ ?_ C'.toList 71 JH.out J3.out J5.out J4.out ?_ ?_)
           · rfl
           · rfl
           · rfl
           · rfl
           · rfl
           intro w5 h5 ho5
           rw [← JC.out] at h5
           have d5 : w5.cell? ⟨B, 33, none⟩ = some (.slice ao s.q.length cap) := cellOf h5 JB.out.pend
           have d6 : w5.cell? ⟨B, 36, none⟩ = some kv := cellOf h5 JB.out.keep
           have d7 : w5.cell? ⟨B, 35, none⟩ = some (.int .i64 (crK s ks k).calls) := cellOf h5 JB.out.calls
           have d8 : w5.cell? ⟨B, 37, none⟩ = some (.bool (crK s ks k).down) := cellOf h5 JB.out.down
           have f5 : w5.frozen? ⟨B, 33, none⟩ = false := frozenOf h5 33
           have f6 : w5.frozen? ⟨B, 36, none⟩ = false := frozenOf h5 36
           have f7 : w5.frozen? ⟨B, 35, none⟩ = false := frozenOf h5 35
           have f8 : w5.frozen? ⟨B, 37, none⟩ = false := frozenOf h5 37
           have H5 := Lib.hid h5
           have HO5 := Lib.hid ho5
           clear h5 ho5))
      have hd5 : DkAt w5 O B M C8 (.slice ao s.q.length cap) kv { crK s ks k with sz := (crK s ks k).dz } :=
        ⟨fun k' hk' => by rw [HO5.out.size]; exact HDr.out.bound k' hk', HDr.out.oB, HDr.out.oM, HDr.out.oP, HDr.out.oK, H5.out, JB.out, (HDr.out.secs.heap (HO5.out.block HDr.out.mb)).congr (fun _ _ _ => rfl),
          ownsRow_heap HDr.out.pend (fun p hp => HO5.out.block (row_ne HDr.out.pend HDr.out.heap (by decide) p hp)),
          ownsRow_heap HDr.out.keep (fun p hp => HO5.out.block (row_ne HDr.out.keep HDr.out.heap (by decide) p hp))⟩
      have hW5 : Own O w w5 := HWr.out.only HO5.out (.inl HDr.out.oB)
      have g1 := hd5.setPv (.slice none 0 0) [] (World.ownsRow_nil _ _ _ _)
      have g2 := g1.setKv (.slice none 0 0) [] (World.ownsRow_nil _ _ _ _)
      have g3 := g2.setB 35 (.int .i64 0) (g2.blk.setCalls 0) (fun _ _ _ => rfl) rfl rfl
      have g4 := g3.setB 37 (.bool true) (g3.blk.setDown true) (fun _ _ _ => rfl) rfl rfl
      have hO' : ∀ k', ((O k' ∨ (Value.slice none 0 0).ownBlock = some k') ∨ (Value.slice none 0 0).ownBlock = some k') → O k' := fun k' hk' => by
        rcases hk' with (hk' | hk') | hk'
        · exact hk'
        · cases hk'
        · cases hk'
      have hs : crashS s ks = { crK s ks k with sz := (crK s ks k).dz, q := [], keep := [], calls := 0, down := true } := by
        unfold crashS
        rw [HDN.out, JK.out]
        rfl
      go_end0
      refine ⟨rfl, ?_⟩
      rw [hs]
      exact ⟨_, ⟨M, _, _, _, g4⟩, fun k' hk' => .inl (hO' k' hk'), (((hW5.setCell (.inl HDr.out.oB) _).setCell (.inl HDr.out.oB) _).setCell (.inl HDr.out.oB) _).setCell (.inl HDr.out.oB) _⟩

/-- Crash with a list from elsewhere. -/
theorem crash_any (ks : List Int) (v : Value) (O : Nat → Prop) (B : Nat) (s : RS) (w : World) (h : Dk w O B s) (hI : Inv s) (hk : Ints w v ks) (hkO : ∀ p, ks ≠ [] → v.ownBlock = some p → ¬ O p) :
    Calls Tryd.prog 24 #[.pointer (some ⟨B, 0, none⟩), v] w fun e w' => e = .returned (.tuple #[]) ∧ DkP O w w' B (crashS s ks) := by
  rcases hd : s.down with _ | _
  · obtain ⟨M, C, pv, kv, h⟩ := h
    exact crash_at ks v O B M C pv kv s w h hI hd hk (fun p h0 hp => ⟨fun e => hkO p h0 hp (e ▸ h.oB), fun e => hkO p h0 hp (e ▸ h.oM)⟩)
  · refine (crash_down v O B s w h hd).mono ?_
    rintro e w' ⟨rfl, rfl⟩
    have : crashS s ks = s := by unfold crashS; rw [hd]; rfl
    rw [this]
    exact ⟨rfl, .refl h⟩
theorem row_ints {w : World} {v : Value} {ks : List Int} (h : w.ownsRow 0 3 1 v ks.length (iCells ks)) : Ints w v ks := by
  rcases h.2 with ⟨h1, h2⟩ | ⟨g, cap, cur, h1, _⟩
  · exact .inl ⟨List.eq_nil_of_length_eq_zero h2, none, 0, h1⟩
  · subst h1
    refine .inr ⟨g, 0, cap, rfl, fun i hi => ?_⟩
    rw [Nat.zero_add, h.cellAt i (by omega)]
    simp [iCells, hi]
/-- Crash with the disk's own list. -/
theorem crash_own (O : Nat → Prop) (B M : Nat) (C : Array Value) (pv kv : Value) (s : RS) (w : World) (h : DkAt w O B M C pv kv s) (hI : Inv s) :
    Calls Tryd.prog 24 #[.pointer (some ⟨B, 0, none⟩), kv] w fun e w' => e = .returned (.tuple #[]) ∧ DkP O w w' B (crashS s s.keep) := by
  rcases hd : s.down with _ | _
  · exact crash_at s.keep kv O B M C pv kv s w h hI hd (row_ints h.keep) (fun p _ hp => ⟨row_ne h.keep h.heap (by decide) p hp, row_ne_map h.keep h.secs p hp⟩)
  · refine (crash_down kv O B s w ⟨M, C, pv, kv, h⟩ hd).mono ?_
    rintro e w' ⟨rfl, rfl⟩
    have : crashS s s.keep = s := by unfold crashS; rw [hd]; rfl
    rw [this]
    exact ⟨rfl, .refl ⟨M, C, pv, kv, h⟩⟩
end Go.Proofs.YtjcajgcfkidbkaaDoor
