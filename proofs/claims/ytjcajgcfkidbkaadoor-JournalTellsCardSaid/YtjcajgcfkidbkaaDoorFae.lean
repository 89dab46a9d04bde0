/-
  The reference's disk: Crash.
-/
import Derived.Test.YtjcajgcfkidbkaaDoorJh
import Derived.Deep.AppendLies
import Derived.Laws.AppendOwnNone
import Derived.Test.YtjcajgcfkidbkaaDoorFmn
import Derived.BigQuiet
import Derived.ArgAppend
import Derived.Laws.BytesArg
import Derived.Lib.ConvBytes
import Derived.Laws.Bits128
import Derived.Deep.RegionHeldLaw
namespace Go.Proofs.YtjcajgcfkidbkaaDoor
open Go.RowKit

theorem own_base {w : World} {base e size n : Nat} {v : Value} {xs : List Value} (h : w.ownsRow base e size v n xs) {b : Nat} (hb : b ≤ base) : w.ownsRow b e size v n xs := row_mono h hb
theorem Has.step {w w' : World} {T : Thing} (h : Has w w' T) : T.step (fun _ => False) w w' := by
  obtain ⟨hf, O, ht, hO⟩ := h
  exact ⟨O, ht, fun k hk => .inr ⟨hO k hk, T.bound ht k hk⟩, .of_fr hf⟩
theorem Has.add {W w w' : World} {T U : Thing} (h : Has W w U) (k : Has w w' T) : Has W w' (T.sep U) := h.new k.step
theorem Has.drop {W w : World} {T : Thing} (h : Has W w (T.sep .emp)) : Has W w T := h.left
theorem Has.emp {W w : World} {T : Thing} (h : Has W w T) : Has W w (T.sep .emp) := by
  obtain ⟨hf, O, ht, hO⟩ := h
  exact ⟨hf, O, ⟨O, fun _ => False, ht, fun _ h => h, fun _ _ h => h, fun k => by simp⟩, hO⟩
end Go.Proofs.YtjcajgcfkidbkaaDoor
namespace Go.Proofs.YtjcajgcfkidbkaaDoor
open Go.RowKit

/-- Files as cells. -/
def fC (l : List (Nat × Txt × Txt)) : List Value := l.flatMap fun p => [.int .i64 p.1, .string (S p.2.1), .string (S p.2.2)]
theorem fC_cons (p : Nat × Txt × Txt) (l : List (Nat × Txt × Txt)) : fC (p :: l) = .int .i64 p.1 :: .string (S p.2.1) :: .string (S p.2.2) :: fC l := by simp [fC]
theorem fC_length (l : List (Nat × Txt × Txt)) : (fC l).length = l.length * 3 := by
  induction l with
  | nil => rfl
  | cons a l ih => rw [fC_cons]; simp only [List.length_cons, ih]; omega
theorem fC_append (l m : List (Nat × Txt × Txt)) : fC (l ++ m) = fC l ++ fC m := by simp [fC]
theorem fC_one (l : List (Nat × Txt × Txt)) : ∀ v ∈ fC l, v.oneCell' = true := by
  intro v hv
  simp only [fC, List.mem_flatMap, List.mem_cons, List.not_mem_nil, or_false] at hv
  obtain ⟨_, _, rfl | rfl | rfl⟩ := hv <;> rfl
theorem fC_get (l : List (Nat × Txt × Txt)) (i : Nat) (h : i < l.length) : (fC l)[3 * i]? = some (.int .i64 l[i].1) ∧ (fC l)[3 * i + 1]? = some (.string (S l[i].2.1)) ∧ (fC l)[3 * i + 2]? = some (.string (S l[i].2.2)) := by
  induction l generalizing i with
  | nil => simp at h
  | cons a l ih =>
    rw [fC_cons]
    cases i with
    | zero => simp
    | succ i =>
      have := ih i (by simpa using h)
      rw [show 3 * (i + 1) = 3 * i + 1 + 1 + 1 by omega]
      simp only [List.getElem?_cons_succ]
      simpa using this
set_option maxRecDepth 100000 in
theorem infoFile : (Tryd.prog.info? 95).map (fun i => (i.zero, i.size, i.bytes)) = some (some (.agg #[.int .i64 0, .string (S []), .string (S [])]), 3, 40) := by kernel_rfl
/-- Cells of a row, wherever they stand. -/
theorem own_cell {w : World} {base e size n : Nat} {a : Option Addr} {c : Nat} {xs : List Value} (h : w.ownsRow base e size (.slice a n c) n xs) (h0 : 0 < n) :
    ∃ g, a = some ⟨g, 0, none⟩ ∧ n ≤ c ∧ ∀ j u, j < n * size → xs[j]? = some u → w.cell? ⟨g, j, none⟩ = some u := by
  rcases h.2 with ⟨hv, h1⟩ | ⟨g, cap, cur, hv, hB, hg, hc, _, hs, ht⟩
  · omega
  · obtain ⟨rfl, rfl⟩ : a = some ⟨g, 0, none⟩ ∧ c = cap := by simpa using hv
    refine ⟨g, rfl, hc, fun j u hj hu => ?_⟩
    rw [cell_of_row w g j cur e (0, 0) hg]
    rw [← ht, List.getElem?_take, if_pos hj] at hu
    simpa using hu

/-- What a world holds of the reference's disk in state r, at block B; O: the blocks that belong to it. -/
structure RfAt (w : World) (O : Nat → Prop) (B : Nat) (fv qv kv : Value) (r : FS) : Prop where
  bound : ∀ k, O k → k < w.heap.size
  oB : O B
  oF : ∀ p, fv.ownBlock = some p → O p
  oQ : ∀ p, qv.ownBlock = some p → O p
  oK : ∀ p, kv.ownBlock = some p → O p
  heap : w.heap[B]? = some (.cells #[fv, qv, .int .i64 r.lost, .bool r.down, .int .i64 r.armed, kv] 75 (0, 0))
  files : w.ownsRow 0 95 3 fv r.fl.length (fC r.fl)
  queue : w.ownsRow 0 93 2 qv r.q.length (qCells r.q)
  keep : w.ownsRow 0 3 1 kv r.keep.length (iCells r.keep)
theorem RfAt.frame {w w' : World} {O : Nat → Prop} {B : Nat} {fv qv kv : Value} {r : FS} (h : RfAt w O B fv qv kv r) (hs : w.heap.size ≤ w'.heap.size) (hw : ∀ k, O k → w'.heap[k]? = w.heap[k]?) : RfAt w' O B fv qv kv r :=
  ⟨fun k hk => Nat.lt_of_lt_of_le (h.bound k hk) hs, h.oB, h.oF, h.oQ, h.oK, by rw [hw B h.oB]; exact h.heap, ownsRow_heap h.files (fun p hp => hw p (h.oF p hp)), ownsRow_heap h.queue (fun p hp => hw p (h.oQ p hp)), ownsRow_heap h.keep (fun p hp => hw p (h.oK p hp))⟩
theorem RfAt.fr {w w' : World} {O : Nat → Prop} {B : Nat} {fv qv kv : Value} {r : FS} (h : RfAt w O B fv qv kv r) (hf : Fr w w') : RfAt w' O B fv qv kv r := h.frame hf.size fun k hk => hf.block (h.bound k hk)
/-- The reference's disk in state r at block B. -/
def RfT (B : Nat) (r : FS) : Thing where
  at_ w O := ∃ fv qv kv, RfAt w O B fv qv kv r
  bound h k hk := let ⟨_, _, _, h'⟩ := h; h'.bound k hk
  frame h hs hw := let ⟨fv, qv, kv, h'⟩ := h; ⟨fv, qv, kv, h'.frame hs hw⟩
theorem RfAt.c {w : World} {O : Nat → Prop} {B : Nat} {fv qv kv : Value} {r : FS} (h : RfAt w O B fv qv kv r) :
    w.cell? ⟨B, 0, none⟩ = some fv ∧ w.cell? ⟨B, 1, none⟩ = some qv ∧ w.cell? ⟨B, 2, none⟩ = some (.int .i64 r.lost) ∧ w.cell? ⟨B, 3, none⟩ = some (.bool r.down) ∧ w.cell? ⟨B, 4, none⟩ = some (.int .i64 r.armed) ∧ w.cell? ⟨B, 5, none⟩ = some kv :=
  ⟨cellOf h.heap rfl, cellOf h.heap rfl, cellOf h.heap rfl, cellOf h.heap rfl, cellOf h.heap rfl, cellOf h.heap rfl⟩
theorem RfAt.fz {w : World} {O : Nat → Prop} {B : Nat} {fv qv kv : Value} {r : FS} (h : RfAt w O B fv qv kv r) (i : Nat) : w.frozen? ⟨B, i, none⟩ = false := frozenOf h.heap i

/-! ### New, Down, may, fits -/
set_option maxHeartbeats 1000000 in
set_option maxRecDepth 100000 in
theorem rnew_any (w : World) : Calls Tryd.prog 11 #[] w fun e w' => ∃ B, e = .returned (.pointer (some ⟨B, 0, none⟩)) ∧ (RfT B newF).step (fun _ => False) w w' := by
  have hs : (w.alloc (.cells #[.slice none 0 0, .slice none 0 0, .int .i64 0, .bool false, .int .i64 0, .slice none 0 0] 75)).heap.size = w.heap.size + 1 := by simp
  have hb := heap_alloc_new w (.cells #[.slice none 0 0, .slice none 0 0, .int .i64 0, .bool false, .int .i64 0, .slice none 0 0] 75)
  have HS : Hid ((RfT w.heap.size newF).step (fun _ => False) w (w.alloc (.cells #[.slice none 0 0, .slice none 0 0, .int .i64 0, .bool false, .int .i64 0, .slice none 0 0] 75))) := by
    refine Lib.hid ⟨fun k => k = w.heap.size, ⟨.slice none 0 0, .slice none 0 0, .slice none 0 0, fun k hk => by rw [hs, hk]; omega, rfl, fun p hp => by simp [Value.ownBlock] at hp, fun p hp => by simp [Value.ownBlock] at hp, fun p hp => by simp [Value.ownBlock] at hp, hb, World.ownsRow_nil _ _ _ _, World.ownsRow_nil _ _ _ _, World.ownsRow_nil _ _ _ _⟩, fun k hk => .inr (by rw [hs]; omega), .of_fr (Fr.alloc _ _)⟩
  clear hs hb
  go_enter Tryd.func11, Tryd.ntmps11
  go_wp2
  go_ret
  exact ⟨_, rfl, HS.out⟩
/-- The first two errors. -/
def mayE (r : FS) (f : Int) : Int := if r.down then 8 else if isF f then 0 else 1
set_option maxRecDepth 100000 in
theorem rmay_any {w : World} {O : Nat → Prop} {B : Nat} {r : FS} (h : (RfT B r).at_ w O) (f : Int) :
    Calls Tryd.prog 62 #[.pointer (some ⟨B, 0, none⟩), .int .i64 f] w fun e w' => e = .returned (.int .i64 (mayE r f)) ∧ w' = w := by
  obtain ⟨fv, qv, kv, hr⟩ := h
  obtain ⟨_, _, _, c3, _, _⟩ := hr.c
  have HM := Lib.hid (show mayE r f = if r.down = true then 8 else if isF f then 0 else 1 from rfl)
  clear hr
  generalize mayE r f = z at *
  generalize r.down = dn at *
  cases dn with
  | true =>
    have hz : z = 8 := by rw [HM.out]; simp
    subst hz
    go_enter Tryd.func62, Tryd.ntmps62
    go_wp2
    go_ret
    exact ⟨rfl, rfl⟩
  | false =>
    by_cases hf : isF f
    · have hz : z = 0 := by rw [HM.out]; simp [hf]
      subst hz
      have h0 := hf.1
      have h1 : f ≤ 15 := by have := hf.2; omega
      clear hf HM
      go_enter Tryd.func62, Tryd.ntmps62
      go_wp2
      go_ret
      exact ⟨rfl, rfl⟩
    · have hz : z = 1 := by rw [HM.out]; simp [hf]
      subst hz
      unfold isF at hf
      clear HM
      by_cases h0 : f < 0
      · go_enter Tryd.func62, Tryd.ntmps62
        go_wp2
        go_ret
        exact ⟨rfl, rfl⟩
      · have h1 : 15 < f := by omega
        go_enter Tryd.func62, Tryd.ntmps62
        go_wp2
        go_ret
        exact ⟨rfl, rfl⟩
def fitsB (a : Int) (n : Nat) : Bool := decide (0 ≤ a) && decide (a ≤ 16777216) && decide (a + n ≤ 16777216)
set_option maxRecDepth 100000 in
theorem rfits_any (a : Int) (s : Txt) (w : World) (hs : s.length ≤ 9223372036820000000) :
    Calls Tryd.prog 82 #[.int .i64 a, .string (S s)] w fun e w' => e = .returned (.bool (fitsB a s.length)) ∧ w' = w := by
  unfold fitsB
  by_cases h0 : 0 ≤ a
  · by_cases h1 : a ≤ 16777216
    · go_enter Tryd.func82, Tryd.ntmps82
      go_wp2
      go_ret
      exact ⟨by simp [h0, h1], rfl⟩
    · go_enter Tryd.func82, Tryd.ntmps82
      go_wp2
      go_ret
      exact ⟨by simp []; try omega, rfl⟩
  · go_enter Tryd.func82, Tryd.ntmps82
    go_wp2
    go_ret
    exact ⟨by simp []; try omega, rfl⟩

/-! ### get -/
def getI (l : List (Nat × Txt × Txt)) (f : Int) : Txt × Txt := ((l.find? fun p => (p.1 : Int) == f).map (·.2)).getD ([], [])
theorem getI_nat (l : List (Nat × Txt × Txt)) (f : Nat) : getI l f = getF l f := by
  unfold getI getF
  congr 2
  congr 1
  funext p
  rw [Bool.eq_iff_iff]; simp only [beq_iff_eq]; omega
theorem getI_out {l : List (Nat × Txt × Txt)} (h : Fine l) {f : Int} (hf : ¬ isF f) : getI l f = ([], []) := by
  unfold getI
  rw [List.find?_eq_none.2 (fun p hp => by have := h.small p hp; unfold isF at hf; simp; omega)]
  rfl
theorem getI_hit {l : List (Nat × Txt × Txt)} {f : Int} {k : Nat} (hk : k < l.length) (h : (l[k].1 : Int) = f) (hn : ∀ j (hj : j < l.length), j < k → (l[j].1 : Int) ≠ f) : getI l f = l[k].2 := by
  unfold getI
  have : l.find? (fun p => (p.1 : Int) == f) = some l[k] := by
    rw [List.find?_eq_some_iff_getElem]
    refine ⟨by simpa using h, k, hk, rfl, fun j hj => ?_⟩
    simpa using hn j (by omega) hj
  rw [this]; rfl
theorem getI_miss {l : List (Nat × Txt × Txt)} {f : Int} (hn : ∀ j (hj : j < l.length), (l[j].1 : Int) ≠ f) : getI l f = ([], []) := by
  unfold getI
  rw [List.find?_eq_none.2 (fun p hp => by
    obtain ⟨j, hj, rfl⟩ := List.mem_iff_getElem.1 hp
    simpa using hn j hj)]
  rfl
/-- A file, as a value. -/
def fileV (f : Int) (x : Txt × Txt) : Value := .agg #[.int .i64 f, .string (S x.1), .string (S x.2)]
end Go.Proofs.YtjcajgcfkidbkaaDoor
namespace Go.Proofs.YtjcajgcfkidbkaaDoor
open Go.RowKit

theorem row_at {w : World} {base e size n : Nat} {v : Value} {xs : List Value} (h : w.ownsRow base e size v n xs) : ∃ a c, v = .slice a n c := by
  rcases h.2 with ⟨rfl, rfl⟩ | ⟨g, cap, cur, rfl, _⟩
  · exact ⟨_, _, rfl⟩
  · exact ⟨_, _, rfl⟩
/-- A sector in the queue. -/
def qMem (r : FS) (f n : Nat) : Bool := decide ((f, n) ∈ r.q)
theorem qMem_hit {r : FS} {f n k : Nat} (hk : k < r.q.length) (h1 : (r.q[k]).1 = f) (h2 : (r.q[k]).2 = n) : qMem r f n = true := by
  have := List.getElem_mem hk
  rw [show r.q[k] = (f, n) from Prod.ext h1 h2] at this
  unfold qMem; simpa using this
theorem qMem_miss {r : FS} {f n : Nat} (h : ∀ j (hj : j < r.q.length), ¬ ((r.q[j]).1 = f ∧ (r.q[j]).2 = n)) : qMem r f n = false := by
  unfold qMem
  rw [decide_eq_false_iff_not]
  intro hm
  obtain ⟨j, hj, e⟩ := List.mem_iff_getElem.1 hm
  exact h j hj ⟨by rw [e], by rw [e]⟩

set_option maxHeartbeats 4000000 in
set_option maxRecDepth 100000 in
theorem rpend_any {w : World} {O : Nat → Prop} {B : Nat} {r : FS} (h : (RfT B r).at_ w O) (f n : Nat) (hf : f < 16) (hn : n ≤ 1000000) (hq : r.q.length ≤ 1000000000000) :
    Calls Tryd.prog 93 #[.pointer (some ⟨B, 0, none⟩), .int .i64 f, .int .i64 n] w fun e w' => e = .returned (.bool (qMem r f n)) ∧ w' = w := by
  obtain ⟨fv, qv, kv, hr⟩ := h
  obtain ⟨_, c1, _, _, _, _⟩ := hr.c
  obtain ⟨a, c, rfl⟩ := row_at hr.queue
  have HQ := Lib.hid hr.queue
  clear hr
  obtain ⟨nq, hnq⟩ : ∃ nq, nq = r.q.length := ⟨_, rfl⟩
  rw [← hnq] at c1 hq
  have HN := Lib.hid hnq
  clear hnq
  go_enter Tryd.func93, Tryd.ntmps93
  go_wp2_with fail
  go_loopw [7] (fun i wr => ∃ (k : Nat), k ≤ nq ∧ i = .int .i64 k ∧ wr = w ∧ Hid (∀ j (hj : j < r.q.length), j < k → ¬ ((r.q[j]).1 = f ∧ (r.q[j]).2 = n))) (fun i _ => nq - (intOf i).toNat)
  case atStart => exact ⟨0, Nat.zero_le _, by go_num, rfl, Lib.hid (fun j _ hj => by omega)⟩
  case round =>
    obtain ⟨k, hk, rfl, rfl, HM⟩ := hrel
    by_cases hlt : k < nq
    · have hlt' : k < r.q.length := by rw [← HN.out]; exact hlt
      have h0 : 0 < r.q.length := by omega
      obtain ⟨g, rfl, _, hc⟩ := own_cell HQ.out h0
      obtain ⟨e1, e2⟩ := qCells_get r.q k hlt'
      have d1 := hc (2 * k) _ (by omega) e1
      have d2 := hc (2 * k + 1) _ (by omega) e2
      rw [Nat.mul_comm] at d1 d2
      clear hc e1 e2 h0
      have HS := Lib.hid (show ∀ (_ : ¬ ((r.q[k]).1 = f ∧ (r.q[k]).2 = n)) j (hj : j < r.q.length), j < k + 1 → ¬ ((r.q[j]).1 = f ∧ (r.q[j]).2 = n) from fun hh j hj hjk => by
        rcases Nat.lt_or_ge j k with hjk' | hjk'
        · exact HM.out j hj hjk'
        · obtain rfl : j = k := by omega
          exact hh)
      have HH := Lib.hid (show (r.q[k]).1 = f → (r.q[k]).2 = n → qMem r f n = true from fun a b => qMem_hit hlt' a b)
      generalize (r.q[k]).1 = x at *
      generalize (r.q[k]).2 = y at *
      by_cases hx : x = f
      · by_cases hy : y = n
        · have HT := Lib.hid (HH.out hx hy)
          subst hx hy
          go_wp2
          go_ret
          exact ⟨by rw [HT.out]; rfl, rfl⟩
        · have hy' : (y : Int) ≠ n := by omega
          have HT := Lib.hid (HS.out (fun h => hy h.2))
          subst hx
          go_wp2
          go_roundw
          case rel => exact ⟨k + 1, by omega, by go_num, trivial, HT⟩
          case measure => simp [intOf]; omega
      · have hx' : (x : Int) ≠ f := by omega
        have HT := Lib.hid (HS.out (fun h => hx h.1))
        go_wp2
        go_roundw
        case rel => exact ⟨k + 1, by omega, by go_num, trivial, HT⟩
        case measure => simp [intOf]; omega
    · have HT := Lib.hid (qMem_miss (fun j hj => HM.out j hj (by have := HN.out; omega)))
      go_wp2
      go_ret
      exact ⟨by rw [HT.out]; rfl, rfl⟩
end Go.Proofs.YtjcajgcfkidbkaaDoor
namespace Go.Proofs.YtjcajgcfkidbkaaDoor
open Go.RowKit

set_option maxHeartbeats 4000000 in
set_option maxRecDepth 100000 in
theorem rget_any {w : World} {O : Nat → Prop} {B : Nat} {r : FS} (h : (RfT B r).at_ w O) (f : Int) (hl : r.fl.length ≤ 16) :
    Calls Tryd.prog 63 #[.pointer (some ⟨B, 0, none⟩), .int .i64 f] w fun e w' => e = .returned (fileV f (getI r.fl f)) ∧ Fr w w' := by
  obtain ⟨fv, qv, kv, hr⟩ := h
  obtain ⟨c0, _, _, _, _, _⟩ := hr.c
  obtain ⟨a, c, rfl⟩ := row_at hr.files
  have HQ := Lib.hid hr.files
  clear hr
  obtain ⟨nq, hnq⟩ : ∃ nq, nq = r.fl.length := ⟨_, rfl⟩
  rw [← hnq] at c0 hl
  have HN := Lib.hid hnq
  clear hnq
  go_enter Tryd.func63, Tryd.ntmps63
  go_wp2_with fail
  go_loopw [5] (fun i wr => ∃ (k : Nat), k ≤ nq ∧ i = .int .i64 k ∧ wr = w.alloc (.cells #[.int .i64 0, .string (S []), .string (S [])] 95) ∧ Hid (∀ j (hj : j < r.fl.length), j < k → (((r.fl[j]).1 : Nat) : Int) ≠ f)) (fun i _ => nq - (intOf i).toNat)
  case atStart => exact ⟨0, Nat.zero_le _, by go_num, rfl, Lib.hid (fun j _ hj => by omega)⟩
  case round =>
    obtain ⟨k, hk, rfl, rfl, HM⟩ := hrel
    have hfr : Fr w (w.alloc (.cells #[.int .i64 0, .string (S []), .string (S [])] 95)) := .alloc _ _
    have HFR := Lib.hid hfr
    have c1 := hfr.cell c0
    by_cases hlt : k < nq
    · have hlt' : k < r.fl.length := by rw [← HN.out]; exact hlt
      have h0 : 0 < r.fl.length := by omega
      obtain ⟨g, rfl, _, hc⟩ := own_cell HQ.out h0
      obtain ⟨e1, e2, e3⟩ := fC_get r.fl k hlt'
      have d1 := hc (3 * k) _ (by omega) e1
      have d2 := hc (3 * k + 1) _ (by omega) e2
      have d3 := hc (3 * k + 2) _ (by omega) e3
      rw [Nat.mul_comm] at d1 d2 d3
      replace d1 := hfr.cell d1
      replace d2 := hfr.cell d2
      replace d3 := hfr.cell d3
      clear hc e1 e2 e3 h0
      have HS := Lib.hid (show ∀ (_ : (((r.fl[k]).1 : Nat) : Int) ≠ f) j (hj : j < r.fl.length), j < k + 1 → (((r.fl[j]).1 : Nat) : Int) ≠ f from fun hh j hj hjk => by
        rcases Nat.lt_or_ge j k with hjk' | hjk'
        · exact HM.out j hj hjk'
        · obtain rfl : j = k := by omega
          exact hh)
      have HH := Lib.hid (show (((r.fl[k]).1 : Nat) : Int) = f → getI r.fl f = (r.fl[k]).2 from fun a => getI_hit hlt' a HM.out)
      clear hfr
      generalize (r.fl[k]).2 = y at *
      generalize (r.fl[k]).1 = x at *
      by_cases hx : (x : Int) = f
      · have HT := Lib.hid (HH.out hx)
        subst hx
        go_wp2_with fail
        exact bodyPost_ret (v := .agg #[.int .i64 x, .string (S y.1), .string (S y.2)]) (by simp [results, Tryd.results63, go_sem]) rfl ⟨by rw [HT.out]; rfl, .alloc _ _⟩
      · have HT := Lib.hid (HS.out hx)
        go_wp2
        go_roundw
        case rel => exact ⟨k + 1, by omega, by go_num, trivial, HT⟩
        case measure => simp [intOf]; omega
    · have HT := Lib.hid (getI_miss (fun j hj => HM.out j hj (by have := HN.out; omega)))
      go_wp2_with fail
      exact bodyPost_ret (v := .agg #[.int .i64 f, .string (S []), .string (S [])]) (by simp [results, Tryd.results63, go_sem]; rfl) rfl ⟨by rw [HT.out]; rfl, .alloc _ _⟩
set_option maxRecDepth 100000 in
theorem fileF1 (f : Int) (x1 x2 : Txt) (w : World) : (Instr.field 95 (.agg #[.int .i64 f, .string (S x1), .string (S x2)]) 1).run Tryd.prog w = .ok (.string (S x1)) w := by kernel_rfl
theorem rsize_any {w : World} {O : Nat → Prop} {B : Nat} {r : FS} (h : (RfT B r).at_ w O) (f : Int) (hl : r.fl.length ≤ 16) :
    Calls Tryd.prog 33 #[.pointer (some ⟨B, 0, none⟩), .int .i64 f] w fun e w' => e = .returned (.int .i64 ((getI r.fl f).1.length : Nat)) ∧ Fr w w' := by
  have HG := Lib.hid (rget_any h f hl)
  clear h
  generalize getI r.fl f = x at *
  obtain ⟨x1, x2⟩ := x
  unfold fileV at HG
  go_enter Tryd.func33, Tryd.ntmps33
  go_wp2_with fail
  refine HG.out.mono ?_
  rintro e w1 ⟨rfl, hf⟩
  have HF := fun w' => fileF1 f x1 x2 w'
  go_wp2_with fail
  go_ret
  exact ⟨by simp, hf⟩
end Go.Proofs.YtjcajgcfkidbkaaDoor
namespace Go.Proofs.YtjcajgcfkidbkaaDoor
open Go.RowKit

def filtF (l : List (Nat × Txt × Txt)) (f : Nat) : List (Nat × Txt × Txt) := l.filter (fun p => decide (p.1 ≠ f))
theorem filtF_hit (l : List (Nat × Txt × Txt)) (f k : Nat) (hk : k < l.length) (h : (l[k]).1 = f) : filtF (l.take (k + 1)) f = filtF (l.take k) f := by
  unfold filtF
  rw [List.take_add_one, List.getElem?_eq_getElem hk, List.filter_append]
  simp [h]
theorem filtF_miss (l : List (Nat × Txt × Txt)) (f k : Nat) (hk : k < l.length) (h : (l[k]).1 ≠ f) : filtF (l.take (k + 1)) f = filtF (l.take k) f ++ [l[k]] := by
  unfold filtF
  rw [List.take_add_one, List.getElem?_eq_getElem hk, List.filter_append]
  simp [h]
theorem filtF_len (l : List (Nat × Txt × Txt)) (f k : Nat) : (filtF (l.take k) f).length ≤ k := by
  have h1 : (filtF (l.take k) f).length ≤ (l.take k).length := List.length_filter_le _ _
  have h2 := List.length_take_le k l
  omega
theorem rowB_ne {w : World} {base e size n : Nat} {v : Value} {xs : List Value} (h : w.ownsRow base e size v n xs) {B : Nat} {C : Array Value} {t : TypeId} (hB : w.heap[B]? = some (.cells C t (0, 0))) (ht : t ≠ e) : ∀ p, v.ownBlock = some p → p ≠ B := by
  rintro p hp rfl
  rcases h.2 with ⟨rfl, _⟩ | ⟨g, cap, cur, rfl, _, hg, _⟩
  · simp [Value.ownBlock] at hp
  · simp only [Value.ownBlock, Option.some.injEq] at hp
    subst hp
    rw [hg] at hB
    simp only [Option.some.injEq, Obj.cells.injEq] at hB
    exact ht hB.2.1.symm
/-- The files are another row now. -/
theorem RfAt.refile {w W w' : World} {O : Nat → Prop} {B : Nat} {fv qv kv : Value} {r : FS} (h : RfAt w O B fv qv kv r) (hfr : Fr w W) {v : Value} {L : List (Nat × Txt × Txt)} {n : Nat}
    (hR : Has W w' ((RowT 95 3 v n (fC L)).sep .emp)) (hn : n = L.length) :
    (RfT B { r with fl := L }).step O w (w'.setCell ⟨B, 0, none⟩ v) ∧ Own (fun k => k = B) w (w'.setCell ⟨B, 0, none⟩ v) := by
  subst hn
  have hf : Fr w w' := hfr.trans hR.toFr
  have hr := h.fr hf
  obtain ⟨O2, hT, hO2, _⟩ := hR.open
  have hg : ∀ p, v.ownBlock = some p → w.heap.size ≤ p ∧ p < w'.heap.size := fun p hp =>
    ⟨Nat.le_trans hfr.size (hO2 p ((hT.2 p).2 hp)), (hT.1.lt p hp).2⟩
  have hob := OnlyB.setCell w' B 0 v
  have hsz : (w'.setCell ⟨B, 0, none⟩ v).heap.size = w'.heap.size := hob.2.2.2.1
  have ho := hob.2.2.2.2
  refine ⟨?_, (Own.of_fr hf).only hob (.inl rfl)⟩
  refine ⟨fun k => O k ∨ v.ownBlock = some k, ⟨v, qv, kv, fun k hk => ?_, .inl h.oB, fun p hp => .inr hp, fun p hp => .inl (h.oQ p hp), fun p hp => .inl (h.oK p hp), heapB hr.heap, ?_, ?_, ?_⟩, fun k hk => ?_, ?_⟩
  · rw [hsz]
    rcases hk with hk | hk
    · exact hr.bound k hk
    · exact (hg k hk).2
  · exact ownsRow_heap hT.1 fun p hp => ho p (rowB_ne hT.1 hr.heap (by decide) p hp)
  · exact ownsRow_heap hr.queue fun p hp => ho p (rowB_ne hr.queue hr.heap (by decide) p hp)
  · exact ownsRow_heap hr.keep fun p hp => ho p (rowB_ne hr.keep hr.heap (by decide) p hp)
  · rcases hk with hk | hk
    · exact .inl hk
    · exact .inr ⟨(hg k hk).1, by rw [hsz]; exact (hg k hk).2⟩
  · exact (Own.of_fr hf).only hob (.inl h.oB)

set_option maxHeartbeats 4000000 in
set_option maxRecDepth 100000 in
theorem rset_any {w : World} {O : Nat → Prop} {B : Nat} {r : FS} (h : (RfT B r).at_ w O) (f : Nat) (x : Txt × Txt) (hl : r.fl.length ≤ 16) :
    Calls Tryd.prog 85 #[.pointer (some ⟨B, 0, none⟩), fileV f x] w fun e w' => e = .returned (.tuple #[]) ∧ (RfT B { r with fl := setF r.fl f x }).step O w w' ∧ Own (fun k => k = B) w w' := by
  obtain ⟨fv, qv, kv, hr⟩ := h
  obtain ⟨c0, _, _, _, _, _⟩ := hr.c
  obtain ⟨a, c, rfl⟩ := row_at hr.files
  have HR := Lib.hid hr
  have HQ := Lib.hid hr.files
  clear hr
  obtain ⟨x1, x2⟩ := x
  unfold fileV
  dsimp only
  have HSF := Lib.hid (show setF r.fl f (x1, x2) = filtF (r.fl.take r.fl.length) f ++ [(f, x1, x2)] by rw [List.take_length]; rfl)
  obtain ⟨m0, hnq⟩ : ∃ m0, m0 = r.fl.length := ⟨_, rfl⟩
  rw [← hnq] at c0 hl HSF
  have HN := Lib.hid hnq
  clear hnq
  go_enter Tryd.func85, Tryd.ntmps85
  go_wp2_with fail
  obtain ⟨i0, hi, hz0, hz1, hz2⟩ := info_parts infoFile
  have HIN := Lib.hid hi
  clear hi
  have hT0 := heap_alloc_new w (.cells #[.int .i64 f, .string (S x1), .string (S x2)] 95)
  have HFR := Lib.hid (Fr.alloc w (.cells #[.int .i64 f, .string (S x1), .string (S x2)] 95))
  generalize w.heap.size = T at *
  generalize (w.alloc (.cells #[.int .i64 f, .string (S x1), .string (S x2)] 95)) = W at *
  have HT0 := Lib.hid hT0
  clear hT0
  have HC0 := Lib.hid (HFR.out.cell c0)
  clear c0
  go_loopw [4, 5] (fun v i wr => ∃ (k : Nat), k ≤ m0 ∧ i = .int .i64 k ∧ Hid (Has W wr ((RowT 95 3 v (filtF (r.fl.take k) f).length (fC (filtF (r.fl.take k) f))).sep .emp))) (fun _ i _ => m0 - (intOf i).toNat)
  case atStart => exact ⟨0, Nat.zero_le _, by go_num, Lib.hid ((Has.here W).nilRow _ _)⟩
  case round =>
    obtain ⟨k, hk, rfl, HO⟩ := hrel
    have c1 := HO.out.toFr.cell HC0.out
    have hTr := (HO.out.toFr.block (Array.getElem?_eq_some_iff.1 HT0.out).1).trans HT0.out
    have t0 : wr.cell? ⟨T, 0, none⟩ = some (.int .i64 f) := cellOf hTr rfl
    have t1 : wr.cell? ⟨T, 1, none⟩ = some (.string (S x1)) := cellOf hTr rfl
    have t2 : wr.cell? ⟨T, 2, none⟩ = some (.string (S x2)) := cellOf hTr rfl
    clear hTr
    by_cases hlt : k < m0
    · have hlt' : k < r.fl.length := by rw [← HN.out]; exact hlt
      have h0 : 0 < r.fl.length := by omega
      obtain ⟨g, rfl, _, hc⟩ := own_cell HQ.out h0
      obtain ⟨e1, e2, e3⟩ := fC_get r.fl k hlt'
      have d1 := HO.out.toFr.cell (HFR.out.cell (hc (3 * k) _ (by omega) e1))
      have d2 := HO.out.toFr.cell (HFR.out.cell (hc (3 * k + 1) _ (by omega) e2))
      have d3 := HO.out.toFr.cell (HFR.out.cell (hc (3 * k + 2) _ (by omega) e3))
      rw [Nat.mul_comm] at d1 d2 d3
      clear hc e1 e2 e3 h0
      have HH := Lib.hid (show (r.fl[k]).1 = f → filtF (r.fl.take (k + 1)) f = filtF (r.fl.take k) f from filtF_hit r.fl f k hlt')
      have HM := Lib.hid (show (r.fl[k]).1 ≠ f → filtF (r.fl.take (k + 1)) f = filtF (r.fl.take k) f ++ [((r.fl[k]).1, (r.fl[k]).2.1, (r.fl[k]).2.2)] from filtF_miss r.fl f k hlt')
      have HL := Lib.hid (show (filtF (r.fl.take k) f).length ≤ 1000 from Nat.le_trans (filtF_len _ _ _) (by omega))
      generalize (r.fl[k]).2.1 = y1 at *
      generalize (r.fl[k]).2.2 = y2 at *
      generalize (r.fl[k]).1 = x at *
      generalize filtF (r.fl.take k) f = F0 at *
      obtain ⟨F1, hF1⟩ : ∃ F1, F1 = filtF (r.fl.take (k + 1)) f := ⟨_, rfl⟩
      rw [← hF1] at HH HM
      have HF1 := Lib.hid hF1
      clear hF1
      by_cases hx : x = f
      · have HE := Lib.hid (HH.out hx)
        subst hx
        go_wp2_with fail
        go_quiet (fail)
        go_wp2_with fail
        go_roundw
        case rel => exact ⟨k + 1, by omega, by go_num, by rw [← HF1.out, HE.out]; exact Lib.hid (HO.out.fr (Fr.drewN _ _))⟩
        case measure => simp [intOf]; omega
      · have HE := Lib.hid (HM.out hx)
        have hx' : (x : Int) ≠ f := by omega
        go_wp2_with fail
        go_quiet (fail)
        replace c1 := (Fr.drewN wr nq).cell c1
        replace d1 := (Fr.drewN wr nq).cell d1
        replace d2 := (Fr.drewN wr nq).cell d2
        replace d3 := (Fr.drewN wr nq).cell d3
        replace HO := Lib.hid (HO.out.fr (Fr.drewN wr nq))
        clear t0 t1 t2
        generalize wr.drewN nq = w2 at *
        go_wp2_with (at_builtin; refine wpList_app rfl _ _ 72 rfl 95 i0 (.agg #[.int .i64 0, .string (S []), .string (S [])]) 3 40 Tryd.underlying72 HIN.out hz0 hz1 hz2 rfl (by decide) rfl HO.out 1 1 [.int .i64 (x : Nat), .string (S y1), .string (S y2)] rfl rfl (by simp [Value.oneCell']) (by decide) (by have := HL.out; omega) (by decide) ?_; intro g' cap w3 h3)
        go_wp2_with fail
        have H3 : Hid (Has W w3 ((RowT 95 3 (.slice (some ⟨g', 0, none⟩) (F0.length + 1) cap) F1.length (fC F1)).sep .emp)) := Lib.hid (by
          rw [HE.out, fC_append, List.length_append]
          exact h3)
        clear h3
        go_roundw
        case rel => exact ⟨k + 1, by omega, by go_num, by rw [← HF1.out]; exact H3⟩
        case measure => simp [intOf]; omega
    · obtain rfl : k = m0 := by omega
      have HL := Lib.hid (show (filtF (r.fl.take k) f).length ≤ 1000 from Nat.le_trans (filtF_len _ _ _) (by omega))
      generalize filtF (r.fl.take k) f = F0 at *
      go_wp2_with (at_builtin; refine wpList_app rfl _ _ 72 rfl 95 i0 (.agg #[.int .i64 0, .string (S []), .string (S [])]) 3 40 Tryd.underlying72 HIN.out hz0 hz1 hz2 rfl (by decide) rfl HO.out 1 1 [.int .i64 (f : Nat), .string (S x1), .string (S x2)] rfl rfl (by simp [Value.oneCell']) (by decide) (by have := HL.out; omega) (by decide) ?_; intro g' cap w3 h3; have c2 := h3.toFr.cell HC0.out; have fz : w3.frozen? ⟨B, 0, none⟩ = false := frozenOf ((HR.out.fr (HFR.out.trans h3.toFr)).heap) 0)
      have hS := HR.out.refile HFR.out (L := setF r.fl f (x1, x2)) (n := F0.length + 1) (w' := w3) (v := .slice (some ⟨g', 0, none⟩) (F0.length + 1) cap) (by rw [HSF.out, fC_append]; exact h3) (by rw [HSF.out, List.length_append]; rfl)
      have HS := Lib.hid hS
      clear hS h3
      go_wp2_with fail
      go_end0
      exact ⟨rfl, HS.out⟩
end Go.Proofs.YtjcajgcfkidbkaaDoor
namespace Go.Proofs.YtjcajgcfkidbkaaDoor
open Go.RowKit

def filtQ (l : List (Nat × Nat)) (f : Nat) : List (Nat × Nat) := l.filter (fun p => decide (p.1 ≠ f))
theorem filtQ_hit (l : List (Nat × Nat)) (f k : Nat) (hk : k < l.length) (h : (l[k]).1 = f) : filtQ (l.take (k + 1)) f = filtQ (l.take k) f := by
  unfold filtQ
  rw [List.take_add_one, List.getElem?_eq_getElem hk, List.filter_append]
  simp [h]
theorem filtQ_miss (l : List (Nat × Nat)) (f k : Nat) (hk : k < l.length) (h : (l[k]).1 ≠ f) : filtQ (l.take (k + 1)) f = filtQ (l.take k) f ++ [l[k]] := by
  unfold filtQ
  rw [List.take_add_one, List.getElem?_eq_getElem hk, List.filter_append]
  simp [h]
theorem filtQ_len (l : List (Nat × Nat)) (f k : Nat) : (filtQ (l.take k) f).length ≤ k := by
  have h1 : (filtQ (l.take k) f).length ≤ (l.take k).length := List.length_filter_le _ _
  have h2 := List.length_take_le k l
  omega
set_option maxRecDepth 100000 in
theorem infoSector : (Tryd.prog.info? 93).map (fun i => (i.zero, i.size, i.bytes)) = some (some (.agg #[.int .i64 0, .int .i64 0]), 2, 16) := by kernel_rfl
/-- The queue is another row now. -/
theorem RfAt.requeue {w W w' : World} {O : Nat → Prop} {B : Nat} {fv qv kv : Value} {r : FS} (h : RfAt w O B fv qv kv r) (hfr : Fr w W) {v : Value} {L : List (Nat × Nat)} {n : Nat}
    (hR : Has W w' ((RowT 93 2 v n (qCells L)).sep .emp)) (hn : n = L.length) :
    (RfT B { r with q := L }).step O w (w'.setCell ⟨B, 1, none⟩ v) := by
  subst hn
  have hf : Fr w w' := hfr.trans hR.toFr
  have hr := h.fr hf
  obtain ⟨O2, hT, hO2, _⟩ := hR.open
  have hg : ∀ p, v.ownBlock = some p → w.heap.size ≤ p ∧ p < w'.heap.size := fun p hp =>
    ⟨Nat.le_trans hfr.size (hO2 p ((hT.2 p).2 hp)), (hT.1.lt p hp).2⟩
  have hob := OnlyB.setCell w' B 1 v
  have hsz : (w'.setCell ⟨B, 1, none⟩ v).heap.size = w'.heap.size := hob.2.2.2.1
  have ho := hob.2.2.2.2
  refine ⟨fun k => O k ∨ v.ownBlock = some k, ⟨fv, v, kv, fun k hk => ?_, .inl h.oB, fun p hp => .inl (h.oF p hp), fun p hp => .inr hp, fun p hp => .inl (h.oK p hp), heapB hr.heap, ?_, ?_, ?_⟩, fun k hk => ?_, ?_⟩
  · rw [hsz]
    rcases hk with hk | hk
    · exact hr.bound k hk
    · exact (hg k hk).2
  · exact ownsRow_heap hr.files fun p hp => ho p (rowB_ne hr.files hr.heap (by decide) p hp)
  · exact ownsRow_heap hT.1 fun p hp => ho p (rowB_ne hT.1 hr.heap (by decide) p hp)
  · exact ownsRow_heap hr.keep fun p hp => ho p (rowB_ne hr.keep hr.heap (by decide) p hp)
  · rcases hk with hk | hk
    · exact .inl hk
    · exact .inr ⟨(hg k hk).1, by rw [hsz]; exact (hg k hk).2⟩
  · exact (Own.of_fr hf).only hob (.inl h.oB)

set_option maxHeartbeats 4000000 in
set_option maxRecDepth 100000 in
theorem rsettle_any {w : World} {O : Nat → Prop} {B : Nat} {r : FS} (h : (RfT B r).at_ w O) (f : Nat) (x : Txt) (hl : r.fl.length ≤ 16) (hq : r.q.length ≤ 100000) :
    Calls Tryd.prog 75 #[.pointer (some ⟨B, 0, none⟩), .int .i64 f, .string (S x)] w fun e w' => e = .returned (.tuple #[]) ∧ (RfT B (settleF r f x)).step O w w' := by
  have HSET := Lib.hid (rset_any h f (x, x) hl)
  clear h
  unfold fileV at HSET
  go_enter Tryd.func75, Tryd.ntmps75
  go_wp2_with fail
  refine HSET.out.mono ?_
  rintro e w1 ⟨rfl, hst, _⟩
  obtain ⟨O1, ⟨fv, qv, kv, hr⟩, hG, hW⟩ := hst
  have HG := Lib.hid hG
  have HW := Lib.hid hW
  clear hG hW HSET
  obtain ⟨_, c1, _, _, _, _⟩ := hr.c
  obtain ⟨a, c, rfl⟩ := row_at hr.queue
  have HR := Lib.hid hr
  have HQ := Lib.hid (show w1.ownsRow 0 93 2 (.slice a r.q.length c) r.q.length (qCells r.q) from hr.queue)
  clear hr
  have c1' : w1.cell? ⟨B, 1, none⟩ = some (.slice a r.q.length c) := c1
  clear c1
  have HSF := Lib.hid (show settleF r f x = { { r with fl := setF r.fl f (x, x) } with q := filtQ (r.q.take r.q.length) f } by rw [List.take_length]; rfl)
  obtain ⟨m0, hm0⟩ : ∃ m0, m0 = r.q.length := ⟨_, rfl⟩
  rw [← hm0] at c1' hq HSF
  have HN := Lib.hid hm0
  clear hm0
  have HC0 := Lib.hid c1'
  clear c1'
  obtain ⟨i0, hi, hz0, hz1, hz2⟩ := info_parts infoSector
  have HIN := Lib.hid hi
  clear hi
  go_wp2_with fail
  go_loopw [6, 7] (fun v i wr => ∃ (k : Nat), k ≤ m0 ∧ i = .int .i64 k ∧ Hid (Has w1 wr ((RowT 93 2 v (filtQ (r.q.take k) f).length (qCells (filtQ (r.q.take k) f))).sep .emp))) (fun _ i _ => m0 - (intOf i).toNat)
  case atStart => exact ⟨0, Nat.zero_le _, by go_num, Lib.hid ((Has.here w1).nilRow _ _)⟩
  case round =>
    obtain ⟨k, hk, rfl, HO⟩ := hrel
    have c1 := HO.out.toFr.cell HC0.out
    by_cases hlt : k < m0
    · have hlt' : k < r.q.length := by rw [← HN.out]; exact hlt
      have h0 : 0 < r.q.length := by omega
      obtain ⟨g, rfl, _, hc⟩ := own_cell HQ.out h0
      obtain ⟨e1, e2⟩ := qCells_get r.q k hlt'
      have d1 := HO.out.toFr.cell (hc (2 * k) _ (by omega) e1)
      have d2 := HO.out.toFr.cell (hc (2 * k + 1) _ (by omega) e2)
      rw [Nat.mul_comm] at d1 d2
      clear hc e1 e2 h0
      have HH := Lib.hid (show (r.q[k]).1 = f → filtQ (r.q.take (k + 1)) f = filtQ (r.q.take k) f from filtQ_hit r.q f k hlt')
      have HM := Lib.hid (show (r.q[k]).1 ≠ f → filtQ (r.q.take (k + 1)) f = filtQ (r.q.take k) f ++ [((r.q[k]).1, (r.q[k]).2)] from filtQ_miss r.q f k hlt')
      have HL := Lib.hid (show (filtQ (r.q.take k) f).length ≤ 100000 from Nat.le_trans (filtQ_len _ _ _) (by omega))
      generalize (r.q[k]).2 = y at *
      generalize (r.q[k]).1 = z at *
      generalize filtQ (r.q.take k) f = F0 at *
      obtain ⟨F1, hF1⟩ : ∃ F1, F1 = filtQ (r.q.take (k + 1)) f := ⟨_, rfl⟩
      rw [← hF1] at HH HM
      have HF1 := Lib.hid hF1
      clear hF1
      by_cases hx : z = f
      · have HE := Lib.hid (HH.out hx)
        subst hx
        go_wp2_with fail
        go_roundw
        case rel => exact ⟨k + 1, by omega, by go_num, by rw [← HF1.out, HE.out]; exact HO⟩
        case measure => simp [intOf]; omega
      · have HE := Lib.hid (HM.out hx)
        have hx' : (z : Int) ≠ f := by omega
        go_wp2_with (at_builtin; refine wpList_app rfl _ _ 73 rfl 93 i0 (.agg #[.int .i64 0, .int .i64 0]) 2 16 Tryd.underlying73 HIN.out hz0 hz1 hz2 rfl (by decide) rfl HO.out 1 1 [.int .i64 (z : Nat), .int .i64 (y : Nat)] rfl rfl (by simp [Value.oneCell']) (by decide) (by have := HL.out; omega) (by decide) ?_; intro g' cap w3 h3)
        go_wp2_with fail
        have H3 : Hid (Has w1 w3 ((RowT 93 2 (.slice (some ⟨g', 0, none⟩) (F0.length + 1) cap) F1.length (qCells F1)).sep .emp)) := Lib.hid (by
          rw [HE.out, qCells_append, List.length_append]
          exact h3)
        clear h3
        go_roundw
        case rel => exact ⟨k + 1, by omega, by go_num, by rw [← HF1.out]; exact H3⟩
        case measure => simp [intOf]; omega
    · obtain rfl : k = m0 := by omega
      obtain ⟨a6, c6, rfl⟩ := row_at HO.out.row
      have fz := frozenOf ((HR.out.fr HO.out.toFr).heap) 1
      have HS := Lib.hid (HR.out.requeue (Fr.refl w1) HO.out rfl)
      go_wp2_with fail
      go_end0
      exact ⟨rfl, by rw [HSF.out]; exact Thing.step_trans HG.out HW.out HS.out⟩
end Go.Proofs.YtjcajgcfkidbkaaDoor
namespace Go.Proofs.YtjcajgcfkidbkaaDoor
open Go.RowKit

/-! ### A slice of bytes that has come since w0, told by its cells -/
structure ByAt (w0 w : World) (G cap : Nat) (l : Txt) : Prop where
  new : w0.heap.size ≤ G
  lt : G < w.heap.size
  fr : Fr w0 w
  le : l.length ≤ cap
  holds : ∀ j (h : j < l.length), w.cell? ⟨G, j, none⟩ = some (.int .u8 (l[j].toNat : Nat))
  there : ∀ j, j < cap → (w.cell? ⟨G, j, none⟩).isSome = true ∧ w.frozen? ⟨G, j, none⟩ = false
theorem ByAt.frr {w0 w w' : World} {G cap : Nat} {l : Txt} (h : ByAt w0 w G cap l) (hf : Fr w w') : ByAt w0 w' G cap l :=
  ⟨h.new, Nat.lt_of_lt_of_le h.lt hf.size, h.fr.trans hf, h.le, fun j hj => hf.cell (h.holds j hj), fun j hj => by
    have hb := hf.block h.lt
    have := h.there j hj
    exact ⟨by rw [World.cell?_of_block (a := ⟨G, j, none⟩) hb]; exact this.1, by rw [World.frozen?_of_block (a := ⟨G, j, none⟩) hb]; exact this.2⟩⟩
theorem ByAt.ofString (w : World) (l : Txt) : ByAt w (Lib.bytesWorld w 5 (S l)) w.heap.size (grownCap w l.length 0 5) l := by
  have hsz := Lib.bytesWorld_size w 5 (S l)
  have hge := grownCap_ge w l.length 0 5
  have hcs : (Lib.bytesCells w 5 (S l)).size = grownCap w l.length 0 5 := by
    unfold Lib.bytesCells
    rw [Array.size_append, Array.size_map, Array.size_replicate]
    show l.toArray.size + (grownCap w l.length 0 5 - l.length) = _
    rw [List.size_toArray]
    omega
  have hn := Lib.bytesWorld_at_new w 5 (S l)
  refine ⟨Nat.le_refl _, by omega, ⟨rfl, rfl, rfl, by omega, fun k hk _ => Lib.bytesWorld_at_old w _ (S l) k hk⟩, hge, fun j hj => ?_, fun j hj => ⟨?_, ?_⟩⟩
  · rw [Lib.bytesWorld_cell w _ (S l) j hj]
    have : (S l).data.toList = l := rfl
    rw [this, List.getD_eq_getElem?_getD, List.getElem?_eq_getElem hj]
    rfl
  · unfold World.cell?
    rw [hn]
    simp
    omega
  · unfold World.frozen?
    rw [hn]
    simp
    omega
theorem ByAt.set {w0 w : World} {G cap : Nat} {l : Txt} (h : ByAt w0 w G cap l) (i : Nat) (hi : i < cap) (x : UInt8) (l' : Txt) (hl : l'.length ≤ cap)
    (hx : ∀ j (hj : j < l'.length), (j = i ∧ l'[j] = x) ∨ (j ≠ i ∧ ∃ h' : j < l.length, l'[j] = l[j])) : ByAt w0 (w.setCell ⟨G, i, none⟩ (.int .u8 (x.toNat : Nat))) G cap l' := by
  have ho := OnlyB.setCell w G i (.int .u8 (x.toNat : Nat))
  have hsome := (h.there i hi).1
  obtain ⟨u, hu⟩ := Option.isSome_iff_exists.1 hsome
  refine ⟨h.new, by rw [ho.2.2.2.1]; exact h.lt, h.fr.only ho h.new, hl, fun j hj => ?_, fun j hj => ⟨?_, ?_⟩⟩
  · rcases hx j hj with ⟨rfl, e⟩ | ⟨hne, h', e⟩
    · rw [World.cell?_setCell_same (h := hu), e]
    · rw [World.cell?_setCell_other (h := fun h => hne (Addr.mk.inj h).2.1.symm), e]
      exact h.holds j h'
  · by_cases e : i = j
    · subst e
      rw [World.cell?_setCell_same (h := hu)]; rfl
    · rw [World.cell?_setCell_other (h := fun h => e (Addr.mk.inj h).2.1)]
      exact (h.there j hj).1
  · rw [World.frozen?_setCell]
    exact (h.there j hj).2
theorem ByAt.conv {w0 w : World} {G cap : Nat} {l : Txt} (h : ByAt w0 w G cap l) (c : Nat) :
    (convert 65 9 (.slice (some ⟨G, 0, none⟩) l.length c)).run Tryd.prog w = .ok (.string (S l)) w := by
  rw [run_convert_bytes_arg (P := Tryd.prog) w 65 5 Tryd.underlying65 Tryd.underlying5 G 0 l.length c (l.map fun b => (b.toNat : Int)) (by rw [List.length_map]) (fun i hi => ?_) 9 Tryd.underlying9]
  · congr 2
    unfold strOfNums S
    rw [List.map_map, show ((fun n : Int => UInt8.ofNat n.toNat) ∘ fun b : UInt8 => (b.toNat : Int)) = id from by funext b; simp, List.map_id]
  · rw [Nat.zero_add, h.holds i hi, List.getD_eq_getElem?_getD, List.getElem?_map, List.getElem?_eq_getElem hi]
    rfl
set_option maxRecDepth 100000 in
theorem infoU8 : (Tryd.prog.info? 5).map (fun i => (i.zero, i.size, i.bytes)) = some (some (.int .u8 0), 1, 1) := by kernel_rfl
theorem wpList_byte {w0 w : World} {ops : Array Oper} {rest : List Oper} {o : Oper} {a : Act} {Q : Exit → Act → World → Prop} (hgd : o.guard = none) (s x : Operand)
    (ho : o.op = .call { callee := .builtin .append, args := #[s, x], argTypes := #[65, 65] })
    {G cap : Nat} {l : Txt} (h : ByAt w0 w G cap l) (hs : a.eval s = .slice (some ⟨G, 0, none⟩) l.length cap) (c : Nat) (hx : a.eval x = .slice (some ⟨w.heap.size, 0, none⟩) 1 c) (hl : l.length ≤ 100000000)
    (hK : ∀ G' cap' w', ByAt w0 w' G' cap' (l ++ [0]) → wpList Tryd.prog ops Q rest (a.put o.dst (.slice (some ⟨G', 0, none⟩) (l.length + 1) cap')) w') :
    wpList Tryd.prog ops Q (o :: rest) a (w.alloc (.cells #[.int .u8 0] 5)) := by
  obtain ⟨i0, hi, hz0, hz1, hz2⟩ := info_parts infoU8
  have h1 := h.frr (Fr.alloc w (.cells #[.int .u8 0] 5))
  have hnew : (w.alloc (.cells #[.int .u8 0] 5)).cell? ⟨w.heap.size, 0, none⟩ = some (.int .u8 0) := cellOf (heap_alloc_new w _) rfl
  refine wpList_append_arg _ hgd s x 65 ho 5 i0 (.int .u8 0) 1 1 Tryd.underlying65 hi hz0 hz1 hz2 rfl (by decide) G 0 l.length cap (l.map fun b => Value.int .u8 (b.toNat : Nat)) hs (by simp)
    (fun j u hj => ?_) ⟨w.heap.size, 0, none⟩ 1 c [.int .u8 0] hx rfl (fun j u hj => ?_) (by simp [Value.oneCell']) (fun hr j hj => ?_) (by unfold maxLen; omega) (by omega) (fun hr => ?_) (fun hr v' w' hown hgr => ?_)
  · rw [List.getElem?_map] at hj
    have hjl : j < l.length := by
      rcases Nat.lt_or_ge j l.length with h' | h'
      · exact h'
      · rw [List.getElem?_eq_none h'] at hj; simp at hj
    rw [List.getElem?_eq_getElem hjl] at hj
    obtain rfl := Option.some.inj hj
    rw [Nat.zero_add]
    exact h1.holds j hjl
  · match j, hj with
    | 0, hj =>
      obtain rfl := Option.some.inj hj
      exact hnew
  · obtain rfl : j = 0 := by simpa using hj
    have := h1.there l.length (by omega)
    simpa using this
  · have h2 := h1.set l.length (by omega) 0 (l ++ [0]) (by simp; omega) (fun j hj => by
      rcases Nat.lt_or_ge j l.length with h' | h'
      · exact .inr ⟨by omega, h', by rw [List.getElem_append_left h']⟩
      · have : j = l.length := by simp at hj; omega
        subst this
        exact .inl ⟨rfl, by simp⟩)
    have e : (w.alloc (.cells #[.int .u8 0] 5)).setCells G (0 + l.length * 1) [.int .u8 0] = (w.alloc (.cells #[.int .u8 0] 5)).setCell ⟨G, l.length, none⟩ (.int .u8 ((0 : UInt8).toNat : Nat)) := by
      rw [Nat.zero_add, Nat.mul_one]; rfl
    rw [e]
    exact hK _ _ _ h2
  · rcases hown.2 with ⟨_, h0⟩ | ⟨g, cap', cur, rfl, hB, hg, hc, _, hsz, ht⟩
    · omega
    · refine hK g cap' w' ⟨Nat.le_trans h1.fr.size hB, (Array.getElem?_eq_some_iff.1 hg).1, h1.fr.trans hgr, by simpa using hc, fun j hj => ?_, fun j hj => ⟨?_, frozenOf hg j⟩⟩
      · rw [cell_of_row w' g j cur 5 (0, 0) hg]
        have : (cur.toList.take ((l.length + 1) * 1))[j]? = ((l.map fun b => Value.int .u8 (b.toNat : Nat)) ++ [.int .u8 0])[j]? := by rw [ht]
        rw [List.getElem?_take, if_pos (by simp at hj; omega), Array.getElem?_toList] at this
        rw [this]
        rcases Nat.lt_or_ge j l.length with h' | h'
        · rw [List.getElem?_append_left (by simpa using h'), List.getElem?_map, List.getElem?_eq_getElem h', List.getElem_append_left h']; rfl
        · have : j = l.length := by simp at hj; omega
          subst this
          simp
      · rw [cell_of_row w' g j cur 5 (0, 0) hg, Array.getElem?_eq_getElem (by omega)]; rfl
end Go.Proofs.YtjcajgcfkidbkaaDoor
namespace Go.Proofs.YtjcajgcfkidbkaaDoor
open Go.RowKit

def sLen : Value → Nat
  | .slice _ n _ => n
  | _ => 0
/-- t over F at a place, so far as k bytes. -/
def overL (F : Txt) (at_ : Nat) (t : Txt) (k : Nat) : Txt := F.take at_ ++ (t.take k ++ F.drop (at_ + k))
theorem overL_zero (F : Txt) (at_ : Nat) (t : Txt) : overL F at_ t 0 = F := by simp [overL]
theorem overL_len (F : Txt) (at_ : Nat) (t : Txt) (k : Nat) (hk : k ≤ t.length) (h : at_ + t.length ≤ F.length) : (overL F at_ t k).length = F.length := by
  simp [overL]; omega
theorem overL_get (F : Txt) (at_ : Nat) (t : Txt) (k : Nat) (hk : k ≤ t.length) (h : at_ + t.length ≤ F.length) (j : Nat) :
    (overL F at_ t k)[j]? = if at_ ≤ j ∧ j < at_ + k then t[j - at_]? else F[j]? := by
  have h1 : (F.take at_).length = at_ := by rw [List.length_take]; omega
  have h2 : (t.take k).length = k := by rw [List.length_take]; omega
  unfold overL
  by_cases c1 : j < at_
  · rw [List.getElem?_append_left (by omega), if_neg (by omega), List.getElem?_take, if_pos c1]
  · rw [List.getElem?_append_right (by omega), h1]
    by_cases c2 : j < at_ + k
    · rw [if_pos ⟨by omega, c2⟩, List.getElem?_append_left (by omega), List.getElem?_take, if_pos (by omega)]
    · rw [if_neg (by omega), List.getElem?_append_right (by omega), h2, List.getElem?_drop]
      congr 1; omega
theorem overL_step (F : Txt) (at_ : Nat) (t : Txt) (k : Nat) (hk : k < t.length) (h : at_ + t.length ≤ F.length) (j : Nat) (hj : j < (overL F at_ t (k + 1)).length) :
    (j = at_ + k ∧ (overL F at_ t (k + 1))[j] = t[k]) ∨ (j ≠ at_ + k ∧ ∃ h' : j < (overL F at_ t k).length, (overL F at_ t (k + 1))[j] = (overL F at_ t k)[j]) := by
  have l1 := overL_len F at_ t (k + 1) (by omega) h
  have l0 := overL_len F at_ t k (by omega) h
  have e1 := overL_get F at_ t (k + 1) (by omega) h j
  have e0 := overL_get F at_ t k (by omega) h j
  rw [List.getElem?_eq_getElem hj] at e1
  by_cases c : j = at_ + k
  · refine .inl ⟨c, ?_⟩
    rw [if_pos (by omega), show j - at_ = k by omega, List.getElem?_eq_getElem hk] at e1
    exact Option.some.inj e1
  · refine .inr ⟨c, by omega, ?_⟩
    rw [List.getElem?_eq_getElem (show j < (overL F at_ t k).length by omega)] at e0
    apply Option.some.inj
    rw [e1, e0]
    by_cases c2 : at_ ≤ j ∧ j < at_ + k
    · rw [if_pos ⟨c2.1, by omega⟩, if_pos c2]
    · rw [if_neg (by omega), if_neg c2]
theorem fill_of (s : Txt) (m n : Nat) (h1 : m ≤ n - s.length) (h2 : n ≤ s.length + m) : s ++ List.replicate m 0 = fillL s n := by
  unfold fillL
  rw [show m = n - s.length by omega]
theorem put_of (s : Txt) (at_ : Nat) (t : Txt) (ht : t ≠ []) : overL (fillL s (at_ + t.length)) at_ t t.length = putL s at_ t := by
  unfold overL putL
  rw [if_neg ht, List.take_length]

set_option maxHeartbeats 4000000 in
set_option maxRecDepth 100000 in
theorem rput_any (s : Txt) (at_ : Nat) (t : Txt) (w : World) (_hs : s.length ≤ 16777216) (ha : at_ + t.length ≤ 16777216) :
    Calls Tryd.prog 84 #[.string (S s), .int .i64 at_, .string (S t)] w fun e w' => e = .returned (.string (S (putL s at_ t))) ∧ Fr w w' := by
  by_cases ht : t = []
  · have HP := Lib.hid (show putL s at_ t = s by unfold putL; rw [if_pos ht])
    subst ht
    go_enter Tryd.func84, Tryd.ntmps84
    go_wp2
    go_ret
    exact ⟨by rw [HP.out]; rfl, .refl _⟩
  have HP := Lib.hid (put_of s at_ t ht)
  have htl : 0 < t.length := List.length_pos_iff.2 ht
  have HT := Lib.hid ht
  clear ht
  have hne : t.isEmpty = false := by cases t with | nil => simp at htl | cons _ _ => rfl
  have hcv := Lib.run_convert_string_bytes (P := Tryd.prog) w 9 65 5 (S s) Tryd.underlying9 Tryd.underlying65 Tryd.underlying5
  have H0 := Lib.hid (ByAt.ofString w s)
  go_enter Tryd.func84, Tryd.ntmps84
  go_wp2_with fail
  go_loopw [7] (fun v wr => ∃ (m G cap : Nat), m ≤ (at_ + t.length) - s.length ∧ v = .slice (some ⟨G, 0, none⟩) (s.length + m) cap ∧ Hid (ByAt w wr G cap (s ++ List.replicate m 0))) (fun v _ => (at_ + t.length) - sLen v)
  case atStart => exact ⟨0, _, _, Nat.zero_le _, rfl, by simpa using H0⟩
  case round =>
    obtain ⟨m, G, cap, hm, rfl, HB⟩ := hrel
    clear H0 hcv hne
    by_cases hlt : s.length + m < at_ + t.length
    · go_wp2_with (at_builtin; refine wpList_byte rfl _ _ rfl HB.out (by rw [List.length_append, List.length_replicate]; rfl) 1 rfl (by rw [List.length_append, List.length_replicate]; omega) ?_; intro G' cap' w3 h3)
      go_wp2_with fail
      have H3 : Hid (ByAt w w3 G' cap' (s ++ List.replicate (m + 1) 0)) := Lib.hid (by rw [List.replicate_succ', ← List.append_assoc]; exact h3)
      clear h3
      go_roundw
      case rel => exact ⟨m + 1, _, _, by omega, by rw [Nat.add_assoc], H3⟩
      case measure => simp [sLen]; omega
    · have HF := Lib.hid (fill_of s m (at_ + t.length) hm (by omega))
      rw [HF.out] at HB
      have hFl : (fillL s (at_ + t.length)).length = s.length + m := by rw [← HF.out]; simp
      have HFl := Lib.hid hFl
      generalize fillL s (at_ + t.length) = F at *
      go_wp2_with fail
      go_loopw [8] (fun i wr => ∃ (k : Nat), k ≤ t.length ∧ i = .int .i64 k ∧ Hid (ByAt w wr G cap (overL F at_ t k))) (fun i _ => t.length - (intOf i).toNat)
      case atStart => exact ⟨0, Nat.zero_le _, by go_num, by rw [overL_zero]; exact HB⟩
      case round =>
        obtain ⟨k, hk, rfl, HK⟩ := hrel
        clear HB
        by_cases hlk : k < t.length
        · have hin : at_ + k < s.length + m := by omega
          have hle := HK.out.le
          rw [overL_len F at_ t k (by omega) (by omega), hFl] at hle
          have hth := HK.out.there (at_ + k) (by omega)
          obtain ⟨u, hu⟩ := Option.isSome_iff_exists.1 hth.1
          have hfz := hth.2
          have H4 := Lib.hid (HK.out.set (at_ + k) (by omega) (t[k]) (overL F at_ t (k + 1)) (by rw [overL_len F at_ t (k + 1) (by omega) (by omega)]; omega) (overL_step F at_ t k hlk (by omega)))
          clear hth HK
          generalize ht : t[k] = x at *
          go_wp2_with fail
          go_roundw
          case rel => exact ⟨k + 1, by omega, by go_num, H4⟩
          case measure => simp [intOf]; omega
        · obtain rfl : k = t.length := by omega
          have hb := HK.out
          rw [HP.out] at hb
          have hPl : (putL s at_ t).length = s.length + m := by rw [← HP.out, overL_len F at_ t _ (Nat.le_refl _) (by omega), hFl]
          have hc2 := hb.conv cap
          rw [hPl] at hc2
          have HFR := Lib.hid hb.fr
          clear hb hPl
          go_wp2_with fail
          go_ret
          exact ⟨rfl, HFR.out⟩
end Go.Proofs.YtjcajgcfkidbkaaDoor
namespace Go.Proofs.YtjcajgcfkidbkaaDoor
open Go.RowKit

theorem rowE_ne {w : World} {base e e' size size' n n' : Nat} {v v' : Value} {xs xs' : List Value} (h : w.ownsRow base e size v n xs) (h' : w.ownsRow base e' size' v' n' xs') (hne : e ≠ e') : ∀ p, v.ownBlock = some p → some p ≠ v'.ownBlock := by
  intro p hp hp'
  rcases h'.2 with ⟨rfl, _⟩ | ⟨g, cap, cur, rfl, _, hg, _⟩
  · simp [Value.ownBlock] at hp'
  · simp only [Value.ownBlock, Option.some.injEq] at hp'
    subst hp'
    exact rowB_ne h hg (fun h => hne h.symm) _ hp rfl
/-- A sector more in the queue. -/
theorem RfAt.pushq {w w0 w' : World} {O : Nat → Prop} {B : Nat} {fv qv kv : Value} {r : FS} (h : RfAt w O B fv qv kv r) (hfr : Fr w w0) {v : Value} {L : List (Nat × Nat)} {n : Nat}
    (hown : w'.ownsRow 0 93 2 v n (qCells L)) (hn : n = L.length) (hg : w0.grownBy w' qv.ownBlock) (hb : ∀ p, v.ownBlock = some p → qv.ownBlock = some p ∨ w.heap.size ≤ p) :
    w'.heap[B]? = some (.cells #[fv, qv, .int .i64 r.lost, .bool r.down, .int .i64 r.armed, kv] 75 (0, 0)) ∧ (RfT B { r with q := L }).step O w (w'.setCell ⟨B, 1, none⟩ v) := by
  subst hn
  have hr := h.fr hfr
  have hO' : Own O w w' := (Own.of_fr hfr).grown hg (fun p hp => .inl (h.oQ p hp))
  have keep : ∀ p, p < w0.heap.size → some p ≠ qv.ownBlock → w'.heap[p]? = w0.heap[p]? := fun p hp hne => World.grownBy.block hg p hp hne
  have hBne : some B ≠ qv.ownBlock := fun e => rowB_ne hr.queue hr.heap (by decide) B e.symm rfl
  have hB : w'.heap[B]? = some (.cells #[fv, qv, .int .i64 r.lost, .bool r.down, .int .i64 r.armed, kv] 75 (0, 0)) := by
    rw [keep B (hr.bound B hr.oB) hBne]; exact hr.heap
  have hfiles : w'.ownsRow 0 95 3 fv r.fl.length (fC r.fl) := ownsRow_heap hr.files fun p hp => keep p (hr.bound p (hr.oF p hp)) (rowE_ne hr.files hr.queue (by decide) p hp)
  have hkeep : w'.ownsRow 0 3 1 kv r.keep.length (iCells r.keep) := ownsRow_heap hr.keep fun p hp => keep p (hr.bound p (hr.oK p hp)) (rowE_ne hr.keep hr.queue (by decide) p hp)
  have hob := OnlyB.setCell w' B 1 v
  have hsz : (w'.setCell ⟨B, 1, none⟩ v).heap.size = w'.heap.size := hob.2.2.2.1
  have ho := hob.2.2.2.2
  have hlt : ∀ p, v.ownBlock = some p → p < w'.heap.size := fun p hp => (hown.lt p hp).2
  refine ⟨hB, fun k => O k ∨ v.ownBlock = some k, ⟨fv, v, kv, fun k hk => ?_, .inl h.oB, fun p hp => .inl (h.oF p hp), fun p hp => .inr hp, fun p hp => .inl (h.oK p hp), heapB hB, ?_, ?_, ?_⟩, fun k hk => ?_, ?_⟩
  · rw [hsz]
    rcases hk with hk | hk
    · exact Nat.lt_of_lt_of_le (h.bound k hk) hO'.size
    · exact hlt k hk
  · exact ownsRow_heap hfiles fun p hp => ho p (rowB_ne hfiles hB (by decide) p hp)
  · exact ownsRow_heap hown fun p hp => ho p (rowB_ne hown hB (by decide) p hp)
  · exact ownsRow_heap hkeep fun p hp => ho p (rowB_ne hkeep hB (by decide) p hp)
  · rcases hk with hk | hk
    · exact .inl hk
    · rcases hb k hk with h1 | h1
      · exact .inl (h.oQ k h1)
      · exact .inr ⟨h1, by rw [hsz]; exact hlt k hk⟩
  · exact hO'.only hob (.inl h.oB)
theorem wpList_pushq {w0 : World} {ops : Array Oper} {rest : List Oper} {o : Oper} {a : Act} {Q : Exit → Act → World → Prop} (hgd : o.guard = none) (s x : Operand)
    (ho : o.op = .call { callee := .builtin .append, args := #[s, x], argTypes := #[73, 73] })
    {O : Nat → Prop} {B : Nat} {fv qv kv : Value} {r : FS} (h : RfAt w0 O B fv qv kv r) (hs : a.eval s = qv) (c : Nat) (p : Nat × Nat) (hx : a.eval x = .slice (some ⟨w0.heap.size, 0, none⟩) 1 c) (hl : r.q.length ≤ 1000000)
    (hK : ∀ g cap w', w'.heap[B]? = some (.cells #[fv, qv, .int .i64 r.lost, .bool r.down, .int .i64 r.armed, kv] 75 (0, 0)) →
      (RfT B { r with q := r.q ++ [p] }).step O w0 (w'.setCell ⟨B, 1, none⟩ (.slice (some ⟨g, 0, none⟩) (r.q.length + 1) cap)) → wpList Tryd.prog ops Q rest (a.put o.dst (.slice (some ⟨g, 0, none⟩) (r.q.length + 1) cap)) w') :
    wpList Tryd.prog ops Q (o :: rest) a (w0.alloc (.cells #[.int .i64 p.1, .int .i64 p.2] 93)) := by
  obtain ⟨i0, hi, hz0, hz1, hz2⟩ := info_parts infoSector
  refine wpList_append_lies _ hgd s x 73 ho 0 93 i0 (.agg #[.int .i64 0, .int .i64 0]) 2 16 Tryd.underlying73 hi hz0 hz1 hz2 rfl (by decide) qv r.q.length (qCells r.q) hs (h.queue.alloc _)
    ⟨w0.heap.size, 0, none⟩ 1 c [.int .i64 p.1, .int .i64 p.2] hx rfl (by have := World.news_of_block (cs := #[Value.int .i64 p.1, Value.int .i64 p.2]) (t := 93) (fr := (0, 0)) (heap_alloc_new w0 _); simpa using this) (by simp [Value.oneCell']) (by decide) (by unfold maxLen; omega) (by omega) (Nat.zero_le _) _ rfl ?_
  intro g cap w' hown hgrow hat _
  have := h.pushq (Fr.alloc w0 (.cells #[.int .i64 p.1, .int .i64 p.2] 93)) (L := r.q ++ [p]) (by rw [qCells_append]; exact hown) (by simp) hgrow (fun q hq => by
    simp only [Value.ownBlock, Option.some.injEq] at hq
    subst hq
    rcases hat with h1 | h1
    · exact .inl h1
    · exact .inr (by rw [h1]; simp))
  exact hK g cap w' this.1 this.2
theorem newF_succ (q : List (Nat × Nat)) (f m c : Nat) : newF' q f m (c + 1) = newF' q f m c ++ if (f, m + c) ∈ q then [] else [(f, m + c)] := by
  unfold newF'
  rw [List.range'_concat, List.filter_append, List.map_append]
  congr 1
  by_cases h : (f, m + c) ∈ q <;> simp [h]
theorem newF_mem (q : List (Nat × Nat)) (f m c : Nat) : (f, m + c) ∈ q ++ newF' q f m c ↔ (f, m + c) ∈ q := by
  rw [List.mem_append]
  constructor
  · rintro (h | h)
    · exact h
    · unfold newF' at h
      rw [List.mem_map] at h
      obtain ⟨x, hx, e⟩ := h
      have := List.mem_range'_1.1 (List.mem_filter.1 hx).1
      simp at e
      omega
  · exact .inl
theorem newF_len (q : List (Nat × Nat)) (f m c : Nat) : (newF' q f m c).length ≤ c := by
  unfold newF'
  rw [List.length_map]
  have := List.length_filter_le (fun x => decide ((f, x) ∉ q)) (List.range' m c)
  rw [List.length_range'] at this
  exact this
/-- add, so far as c sectors. -/
def addC (r : FS) (f at_ : Nat) (l : Txt) (c : Nat) : FS := { r with fl := setF r.fl f (putL (getF r.fl f).1 at_ l, (getF r.fl f).2), q := r.q ++ newF' r.q f (at_ / 64) c }
theorem addC_tot (r : FS) (f at_ : Nat) (l : Txt) (h : l ≠ []) : addC r f at_ l (tot at_ l.length) = addF r f at_ l := by unfold addC addF; rw [if_neg h]
theorem addC_zero (r : FS) (f at_ : Nat) (l : Txt) : addC r f at_ l 0 = { r with fl := setF r.fl f (putL (getF r.fl f).1 at_ l, (getF r.fl f).2) } := by unfold addC newF'; simp
theorem addC_yes (r : FS) (f at_ : Nat) (l : Txt) (c : Nat) (h : qMem (addC r f at_ l c) f (at_ / 64 + c) = true) : addC r f at_ l (c + 1) = addC r f at_ l c := by
  unfold qMem addC at h
  have h1 := (newF_mem r.q f (at_ / 64) c).1 (by simpa using h)
  unfold addC
  rw [newF_succ, if_pos h1, List.append_nil]
theorem addC_no (r : FS) (f at_ : Nat) (l : Txt) (c : Nat) (h : qMem (addC r f at_ l c) f (at_ / 64 + c) = false) : addC r f at_ l (c + 1) = { addC r f at_ l c with q := (addC r f at_ l c).q ++ [(f, at_ / 64 + c)] } := by
  unfold qMem addC at h
  have h1 : ¬ (f, at_ / 64 + c) ∈ r.q := fun hm => by
    have := (newF_mem r.q f (at_ / 64) c).2 hm
    simp at h
    simp at this
    rcases this with h2 | h2
    · exact h.1 h2
    · exact h.2 h2
  unfold addC
  rw [newF_succ, if_neg h1, List.append_assoc]
end Go.Proofs.YtjcajgcfkidbkaaDoor
namespace Go.Proofs.YtjcajgcfkidbkaaDoor
open Go.RowKit

theorem setF_len {l : List (Nat × Txt × Txt)} (h : Fine l) {f : Nat} (hf : f < 16) (x : Txt × Txt) : (setF l f x).length ≤ 16 := (h.set hf x).len
set_option maxHeartbeats 8000000 in
set_option maxRecDepth 100000 in
theorem radd_any {w : World} {O : Nat → Prop} {B : Nat} {r : FS} (h : (RfT B r).at_ w O) (f at_ : Nat) (l : Txt) (hf : f < 16) (hF : Fine r.fl) (hq : r.q.length ≤ 100000) (hn : (getF r.fl f).1.length ≤ 16777216) (ha : at_ + l.length ≤ 16777216) :
    Calls Tryd.prog 83 #[.pointer (some ⟨B, 0, none⟩), .int .i64 f, .int .i64 at_, .string (S l)] w fun e w' => e = .returned (.tuple #[]) ∧ (RfT B (addF r f at_ l)).step O w w' := by
  by_cases hl : l = []
  · have HS := Lib.hid (show (RfT B (addF r f at_ l)).step O w w by unfold addF; rw [if_pos hl]; exact Thing.step_fr h (Fr.refl w))
    subst hl
    clear h
    go_enter Tryd.func83, Tryd.ntmps83
    go_wp2
    exact bodyPost_ret (v := .tuple #[]) (by simp [results, Tryd.results83, go_sem]) rfl ⟨rfl, HS.out⟩
  have HTOT := Lib.hid (addC_tot r f at_ l hl)
  have hlen : 0 < l.length := List.length_pos_iff.2 hl
  have hne : l.isEmpty = false := by cases l with | nil => simp at hlen | cons _ _ => rfl
  have HFL := Lib.hid hF.len
  have HG := Lib.hid (rget_any h f hF.len)
  have HA := Lib.hid h
  have HFI := Lib.hid hF
  have HZ := Lib.hid (addC_zero r f at_ l)
  rw [getI_nat] at HG
  have HL0 := Lib.hid (fun x => setF_len hF hf x)
  have HQ := Lib.hid hq
  clear h hF hl hq
  obtain ⟨x1, x2, hx⟩ : ∃ x1 x2, (x1, x2) = getF r.fl f := ⟨_, _, rfl⟩
  rw [← hx] at HG hn HZ
  dsimp only at hn HZ
  unfold fileV at HG
  have HX := Lib.hid hx
  clear hx
  go_enter Tryd.func83, Tryd.ntmps83
  go_wp2_with fail
  refine HG.out.mono ?_
  rintro e w1 ⟨rfl, hf1⟩
  have HA1 := Lib.hid ((RfT B r).fr HA.out hf1)
  have HFR1 := Lib.hid hf1
  clear hf1 HG
  dsimp only
  go_wp2_with fail
  have hT1 := heap_alloc_new w1 (.cells #[.int .i64 f, .string (S x1), .string (S x2)] 95)
  have hFR2 := Fr.alloc w1 (.cells #[.int .i64 f, .string (S x1), .string (S x2)] 95)
  obtain ⟨T, hTd⟩ : ∃ T, T = w1.heap.size := ⟨_, rfl⟩
  rw [← hTd] at hT1 ⊢
  have HTd := Lib.hid hTd
  clear hTd
  generalize (w1.alloc (.cells #[.int .i64 f, .string (S x1), .string (S x2)] 95)) = w2 at *
  refine (rput_any x1 at_ l w2 hn ha).mono ?_
  rintro e w3 ⟨rfl, hf3⟩
  have hT3 := (hf3.block (Array.getElem?_eq_some_iff.1 hT1).1).trans hT1
  have hfz : w3.frozen? ⟨T, 1, none⟩ = false := frozenOf hT3 1
  have hc1 : w3.cell? ⟨T, 1, none⟩ = some (.string (S x1)) := cellOf hT3 rfl
  have hT4 := heapB (i := 1) (v := .string (S (putL x1 at_ l))) hT3
  have hA4 := (RfT B r).fr HA1.out ((hFR2.trans hf3).only (OnlyB.setCell w3 T 1 (.string (S (putL x1 at_ l)))) (by have := HTd.out; omega))
  have hF4 := HFR1.out.trans ((hFR2.trans hf3).only (OnlyB.setCell w3 T 1 (.string (S (putL x1 at_ l)))) (by have := HTd.out; omega))
  have t0 : (w3.setCell ⟨T, 1, none⟩ (.string (S (putL x1 at_ l)))).cell? ⟨T, 0, none⟩ = some (.int .i64 f) := cellOf hT4 rfl
  have t1 : (w3.setCell ⟨T, 1, none⟩ (.string (S (putL x1 at_ l)))).cell? ⟨T, 1, none⟩ = some (.string (S (putL x1 at_ l))) := cellOf hT4 rfl
  have t2 : (w3.setCell ⟨T, 1, none⟩ (.string (S (putL x1 at_ l)))).cell? ⟨T, 2, none⟩ = some (.string (S x2)) := cellOf hT4 rfl
  have HSET := Lib.hid (rset_any hA4 f (putL x1 at_ l, x2) HFL.out)
  have HF4 := Lib.hid hF4
  clear hT4 hA4 hF4 hT1 hFR2 hf3 hT3 HFR1 HA1
  unfold fileV at HSET
  dsimp only at HSET
  go_wp2_with fail
  refine HSET.out.mono ?_
  rintro e w5 ⟨rfl, hs5, _⟩
  have H5 : Hid ((RfT B (addC r f at_ l 0)).step O w w5) := Lib.hid (by rw [HZ.out]; exact Thing.step_left HF4.out hs5)
  clear hs5 HSET HF4 t0 t1 t2 hfz hc1 HTd HL0 HZ HX hn
  have htot : (tot at_ l.length : Nat) + at_ / 64 = (at_ + l.length - 1) / 64 + 1 := by unfold tot; omega
  generalize tot at_ l.length = N at *
  have HNL := Lib.hid htot
  clear htot
  obtain ⟨i0, hi, hz0, hz1, hz2⟩ := info_parts infoSector
  have HIN := Lib.hid hi
  clear hi
  go_wp2_with fail
  go_loopw [9] (fun i wr => ∃ (c : Nat), c ≤ N ∧ i = .int .i64 ((at_ / 64 + c : Nat) : Int) ∧ Hid ((RfT B (addC r f at_ l c)).step O w wr)) (fun i _ => at_ / 64 + N - (intOf i).toNat)
  case atStart => exact ⟨0, Nat.zero_le _, by go_num, H5⟩
  case round =>
    obtain ⟨c, hc, rfl, HS⟩ := hrel
    clear H5
    have hNL := HNL.out
    by_cases hlt : c < N
    · obtain ⟨O', hat, hG, hW⟩ := HS.out
      have hql : (addC r f at_ l c).q.length ≤ 400000 := by
        show (r.q ++ newF' r.q f (at_ / 64) c).length ≤ _
        rw [List.length_append]
        have := newF_len r.q f (at_ / 64) c
        have := HQ.out
        omega
      have HP := Lib.hid (rpend_any hat f (at_ / 64 + c) hf (by omega) (by omega))
      have HYES := Lib.hid (addC_yes r f at_ l c)
      have HNO := Lib.hid (addC_no r f at_ l c)
      have hm : at_ / 64 + c ≤ (at_ + l.length - 1) / 64 := by omega
      have hm2 : at_ / 64 + c ≤ 300000 := by omega
      have HAT := Lib.hid hat
      have HG2 := Lib.hid hG
      have HW2 := Lib.hid hW
      have HQL := Lib.hid hql
      clear hat hG hW hql
      obtain ⟨n, hn⟩ : ∃ n, n = at_ / 64 + c := ⟨_, rfl⟩
      rw [← hn] at HP HYES HNO hm hm2 ⊢
      have HN := Lib.hid hn
      clear hn
      generalize hqm : qMem (addC r f at_ l c) f n = bq at *
      clear hqm
      go_wp2_with fail
      refine HP.out.mono ?_
      rintro e w6 ⟨rfl, rfl⟩
      clear HP
      cases bq with
      | true =>
        have HE := Lib.hid (HYES.out rfl)
        clear HYES HNO
        go_wp2_with fail
        go_roundw
        case rel => exact ⟨c + 1, by omega, by have := HN.out; go_num, by rw [HE.out]; exact HS⟩
        case measure => have := HN.out; simp [intOf]; omega
      | false =>
        have HE := Lib.hid (HNO.out rfl)
        clear HYES HNO
        obtain ⟨fv, qv, kv, hr⟩ := HAT.out
        obtain ⟨a, cc, hqv⟩ := row_at hr.queue
        subst hqv
        obtain ⟨m0, hm0⟩ : ∃ m0, m0 = (addC r f at_ l c).q.length := ⟨_, rfl⟩
        have hm1 : m0 ≤ 400000 := by rw [hm0]; exact HQL.out
        rw [← hm0] at hr
        obtain ⟨_, c1, _, _, _, _⟩ := hr.c
        have HR := Lib.hid hr
        have HM0 := Lib.hid hm0
        clear hr hm0 HAT
        go_wp2_with (at_builtin; refine wpList_pushq rfl _ _ rfl HR.out rfl 1 (f, n) rfl (by rw [← HM0.out]; omega) ?_; rw [← HM0.out]; intro g' cap w7 h7 hs7; have c7 : w7.cell? ⟨B, 1, none⟩ = some (.slice a m0 cc) := cellOf h7 rfl; have z7 : w7.frozen? ⟨B, 1, none⟩ = false := frozenOf h7 1; have HS7 := Lib.hid hs7; clear hs7 h7)
        go_wp2_with fail
        go_roundw
        case rel => exact ⟨c + 1, by omega, by have := HN.out; go_num, by rw [HE.out]; exact Lib.hid (Thing.step_trans HG2.out HW2.out (HN.out ▸ HS7.out))⟩
        case measure => have := HN.out; simp [intOf]; omega
    · obtain rfl : c = N := by omega
      rw [HTOT.out] at HS
      go_wp2_with fail
      go_end0
      exact ⟨rfl, HS.out⟩
end Go.Proofs.YtjcajgcfkidbkaaDoor
namespace Go.Proofs.YtjcajgcfkidbkaaDoor
open Go.RowKit

set_option maxHeartbeats 8000000 in
set_option maxRecDepth 100000 in
theorem rsurv_any {w : World} {O : Nat → Prop} {B : Nat} {r : FS} (h : (RfT B r).at_ w O) (p : Nat × Nat) (hn : p.2 ≤ 262144) (hF : r.fl.length ≤ 16) (h1 : (getF r.fl p.1).1.length ≤ 16777216) (h2 : (getF r.fl p.1).2.length ≤ 16777216) :
    Calls Tryd.prog 58 #[.pointer (some ⟨B, 0, none⟩), .agg #[.int .i64 p.1, .int .i64 p.2]] w fun e w' => e = .returned (.tuple #[]) ∧ (RfT B { r with fl := survL r.fl p }).step O w w' ∧ Own (fun k => k = B) w w' := by
  obtain ⟨f, n⟩ := p
  dsimp only at hn h1 h2 ⊢
  have HSV := Lib.hid (show survL r.fl (f, n) = setF r.fl f ((getF r.fl f).1, if 64 * n < (getF r.fl f).1.length then putL (getF r.fl f).2 (64 * n) (((getF r.fl f).1.drop (64 * n)).take (min (64 * n + 64) (getF r.fl f).1.length - 64 * n)) else (getF r.fl f).2) from rfl)
  obtain ⟨x1, x2, hx⟩ : ∃ x1 x2, (x1, x2) = getF r.fl f := ⟨_, _, rfl⟩
  rw [← hx] at HSV h1 h2
  dsimp only at HSV h1 h2
  have HA := Lib.hid h
  have HA0 := Lib.hid ((RfT B r).fr h (Fr.alloc w (.cells #[.int .i64 f, .int .i64 n] 93)))
  have HG := Lib.hid (rget_any HA0.out f hF)
  rw [getI_nat, ← hx] at HG
  unfold fileV at HG
  dsimp only at HG
  clear h hx
  have hF0 := Fr.alloc w (.cells #[.int .i64 f, .int .i64 n] 93)
  have hT0 := heap_alloc_new w (.cells #[.int .i64 f, .int .i64 n] 93)
  have HFL := Lib.hid hF
  clear hF
  go_enter Tryd.func58, Tryd.ntmps58
  go_wp2_with fail
  generalize w.heap.size = T0 at *
  generalize (w.alloc (.cells #[.int .i64 f, .int .i64 n] 93)) = w0 at *
  refine HG.out.mono ?_
  rintro e w1 ⟨rfl, hf1⟩
  dsimp only
  go_upto_region 2 with fail
  have hF2 := Fr.alloc w1 (.cells #[.int .i64 f, .string (S x1), .string (S x2)] 95)
  have hT1 := heap_alloc_new w1 (.cells #[.int .i64 f, .string (S x1), .string (S x2)] 95)
  have hT00 := ((hf1.trans hF2).block (Array.getElem?_eq_some_iff.1 hT0).1).trans hT0
  have hlt : w.heap.size ≤ w1.heap.size := (hF0.trans hf1).size
  have HA2 := Lib.hid ((RfT B r).fr HA0.out (hf1.trans hF2))
  have HF2 := Lib.hid (hF0.trans (hf1.trans hF2))
  clear HG HA0 hF2 hF0 hf1 hT0
  generalize w1.heap.size = T at *
  generalize (w1.alloc (.cells #[.int .i64 f, .string (S x1), .string (S x2)] 95)) = w2 at *
  have s0 : w2.cell? ⟨T0, 0, none⟩ = some (.int .i64 f) := cellOf hT00 rfl
  have s1 : w2.cell? ⟨T0, 1, none⟩ = some (.int .i64 n) := cellOf hT00 rfl
  have t0 : w2.cell? ⟨T, 0, none⟩ = some (.int .i64 f) := cellOf hT1 rfl
  have t1 : w2.cell? ⟨T, 1, none⟩ = some (.string (S x1)) := cellOf hT1 rfl
  have t2 : w2.cell? ⟨T, 2, none⟩ = some (.string (S x2)) := cellOf hT1 rfl
  have HT1 := Lib.hid hT1
  have HLT := Lib.hid hlt
  clear hT00 hT1 hlt
  by_cases hc : 64 * n < x1.length
  · rw [if_pos hc] at HSV
    obtain ⟨m, hm⟩ : ∃ m, m = min (64 * n + 64) x1.length := ⟨_, rfl⟩
    rw [← hm] at HSV
    have hd : (m = x1.length ∧ (x1.length : Int) < 64 * (n : Int) + 64 ∧ (0 : Int) ≤ (x1.length : Int) ∧ min (64 * (n : Int) + 64) (x1.length : Int) = (x1.length : Int)) ∨ (m = 64 * n + 64 ∧ ¬ ((x1.length : Int) < 64 * (n : Int) + 64) ∧ 64 * (n : Int) + 64 ≤ (x1.length : Int) ∧ min (64 * (n : Int) + 64) (x1.length : Int) = 64 * (n : Int) + 64) := by omega
    have hm1 : 64 * n < m := by omega
    have hm2 : m ≤ x1.length := by omega
    clear hm
    generalize hy : (x1.drop (64 * n)).take (m - 64 * n) = y at *
    have hyl : 64 * n + y.length ≤ 16777216 := by rw [← hy, List.length_take, List.length_drop]; omega
    have hY : (S x1).extract (64 * n) m = S y := by rw [S_extract, hy]
    have hb0 : (0 : Int) ≤ 64 * (n : Int) := by omega
    have hn1 : (64 * (n : Int)).toNat = 64 * n := by omega
    have hn2 : (64 * (n : Int) + 64).toNat = 64 * n + 64 := by omega
    have hb3 : (0 : Int) ≤ 64 * (n : Int) + 64 := by omega
    have hb4 : 64 * (n : Int) ≤ 64 * (n : Int) + 64 := by omega
    have hb1 : 64 * (n : Int) ≤ (m : Int) := by omega
    have hb2 : (m : Int) ≤ (x1.length : Int) := by omega
    clear hy
    have HPUT := Lib.hid (fun w' => rput_any x2 (64 * n) y w' h2 hyl)
    clear hyl
    have hw1 : IntKind.i64.wrap (64 * (n : Int)) = 64 * n := IntWalk.i64_in _ (by omega)
    have hw2 : IntKind.i64.wrap (64 * (n : Int) + 64) = 64 * n + 64 := IntWalk.i64_in _ (by omega)
    have q1 := (Fr.drew w2).cell s1
    have q2 := (Fr.drew w2).cell t1
    have q3 := (Fr.drew w2).cell t2
    have HZ := Lib.hid (show ∀ w', Fr w2 w' → w'.heap[T]? = some (.cells #[.int .i64 f, .string (S x1), .string (S x2)] 95 (0, 0)) from fun w' hw' => (hw'.block (Array.getElem?_eq_some_iff.1 HT1.out).1).trans HT1.out)
    go_upto_region 3 with fail
    go_cut [4] (fun v wx => v = .pointer (some ⟨T, 0, none⟩) ∧ ∃ w8, Fr w2 w8 ∧ wx = w8.setCell ⟨T, 2, none⟩ (.string (S (putL x2 (64 * n) y))))
    case first =>
      rcases hd with ⟨rfl, hd, hd6, hd7⟩ | ⟨rfl, hd, hd6, hd7⟩
      all_goals refine wp_region_still_tail 19 (by kernel_rfl) (by kernel_rfl) ?_
      all_goals simp only [List.take_succ_cons, List.take_zero, List.drop_succ_cons, List.drop_zero]
      all_goals iterate 19 still_step
      all_goals refine wpStill_nil ?_
      all_goals (go_wp2_with (first | (go_at_call 84; refine (HPUT.out _).mono ?_; rintro e w8 ⟨rfl, hf8⟩; have H8 := Lib.hid hf8; have e8 : w8.cell? ⟨T, 2, none⟩ = some (.string (S x2)) := cellOf (HZ.out _ ((Fr.drew w2).trans hf8)) rfl; have z8 : w8.frozen? ⟨T, 2, none⟩ = false := frozenOf (HZ.out _ ((Fr.drew w2).trans hf8)) 2; clear hf8)))
      all_goals (go_wp2_with fail; go_meet; exact ⟨rfl, _, (Fr.drew w2).trans H8.out, rfl⟩)
    case rest =>
      obtain ⟨rfl, w8, hf8, rfl⟩ := hcut
      have hT8 := HZ.out _ hf8
      have hT9 := heapB (i := 2) (v := .string (S (putL x2 (64 * n) y))) hT8
      have hw : w.heap.size ≤ T := HLT.out
      have hob := OnlyB.setCell w8 T 2 (.string (S (putL x2 (64 * n) y)))
      have hF9 := Lib.hid ((HF2.out.trans hf8).only hob hw)
      have r0 : (w8.setCell ⟨T, 2, none⟩ (.string (S (putL x2 (64 * n) y)))).cell? ⟨T, 0, none⟩ = some (.int .i64 f) := cellOf hT9 rfl
      have r1 : (w8.setCell ⟨T, 2, none⟩ (.string (S (putL x2 (64 * n) y)))).cell? ⟨T, 1, none⟩ = some (.string (S x1)) := cellOf hT9 rfl
      have r2 : (w8.setCell ⟨T, 2, none⟩ (.string (S (putL x2 (64 * n) y)))).cell? ⟨T, 2, none⟩ = some (.string (S (putL x2 (64 * n) y))) := cellOf hT9 rfl
      have HSET := Lib.hid (rset_any ((RfT B r).fr HA.out hF9.out) f (x1, putL x2 (64 * n) y) HFL.out)
      unfold fileV at HSET
      dsimp only at HSET
      clear hT8 hT9 hob hf8 HPUT HZ
      go_wp2_with fail
      refine HSET.out.mono ?_
      rintro e w10 ⟨rfl, hs5, ho5⟩
      have HS := Lib.hid (Thing.step_left hF9.out hs5)
      have HO5 := Lib.hid ((Own.of_fr (O := fun k => k = B) hF9.out).trans (fun k hk => .inl hk) ho5)
      clear hs5 ho5
      go_wp2_with fail
      go_end0
      exact ⟨rfl, by rw [HSV.out]; exact HS.out, HO5.out⟩
  · rw [if_neg hc] at HSV
    have HSET := Lib.hid (rset_any HA2.out f (x1, x2) HFL.out)
    unfold fileV at HSET
    dsimp only at HSET
    have hc' : ¬ (64 * (n : Int) < (x1.length : Int)) := by omega
    go_wp2_with fail
    refine HSET.out.mono ?_
    rintro e w5 ⟨rfl, hs5, ho5⟩
    have HS := Lib.hid (Thing.step_left HF2.out hs5)
    have HO5 := Lib.hid ((Own.of_fr (O := fun k => k = B) HF2.out).trans (fun k hk => .inl hk) ho5)
    clear hs5 ho5
    go_wp2_with fail
    go_end0
    exact ⟨rfl, by rw [HSV.out]; exact HS.out, HO5.out⟩
end Go.Proofs.YtjcajgcfkidbkaaDoor
namespace Go.Proofs.YtjcajgcfkidbkaaDoor
open Go.RowKit

theorem i64_and1 (n : Int) : bits .and .i64 n 1 = n % 2 := by
  have h1 : (BitVec.ofInt 64 1).toNat = 2 ^ 1 - 1 := by decide
  have key : (BitVec.ofInt 64 n &&& BitVec.ofInt 64 1).toNat = (n % ((2 ^ 64 : Nat) : Int)).toNat % 2 ^ 1 := by
    rw [BitVec.toNat_and, BitVec.toNat_ofInt, h1, Nat.and_two_pow_sub_one_eq_mod]
  show IntKind.i64.wrap ((BitVec.ofInt 64 n &&& BitVec.ofInt 64 1).toNat : Nat) = n % 2
  rw [key, IntKind.wrap_i64]
  omega
theorem kept_iff (ks : List Int) (k : Nat) (h : k % ks.length < ks.length) : (kept ks k = true) ↔ bits .and .i64 (ks[k % ks.length]) 1 = 1 := by
  rw [i64_and1]
  unfold kept
  have h0 : 0 < ks.length := by omega
  rw [List.getD_eq_getElem?_getD, List.getElem?_eq_getElem h]
  generalize ks[k % ks.length] = x
  have e : x.tmod 2 = 0 ↔ (2 : Int) ∣ x := (Int.dvd_iff_tmod_eq_zero).symm
  rw [decide_eq_true h0, Bool.true_and, bne_iff_ne, ne_eq, show ((some x).getD 0 : Int) = x from rfl, e]
  omega
theorem kept_nil (k : Nat) : kept [] k = false := rfl
theorem crF_nil (fl : List (Nat × Txt × Txt)) (q : List (Nat × Nat)) (k : Nat) : crF fl q [] k = fl := by
  induction k with
  | zero => rfl
  | succ k ih =>
    unfold crF
    split
    · rw [kept_nil]; exact ih
    · exact ih
/-- One of the plain cells is another now. -/
theorem RfAt.scalar {w : World} {O : Nat → Prop} {B : Nat} {fv qv kv : Value} {r : FS} (h : RfAt w O B fv qv kv r) (i : Nat) (v : Value) (r' : FS)
    (e : (#[fv, qv, .int .i64 r.lost, .bool r.down, .int .i64 r.armed, kv] : Array Value).setIfInBounds i v = #[fv, qv, .int .i64 r'.lost, .bool r'.down, .int .i64 r'.armed, kv])
    (h1 : r'.fl = r.fl) (h2 : r'.q = r.q) (h3 : r'.keep = r.keep) : RfAt (w.setCell ⟨B, i, none⟩ v) O B fv qv kv r' := by
  have hob := OnlyB.setCell w B i v
  have hsz : (w.setCell ⟨B, i, none⟩ v).heap.size = w.heap.size := hob.2.2.2.1
  have ho := hob.2.2.2.2
  refine ⟨fun k hk => by rw [hsz]; exact h.bound k hk, h.oB, h.oF, h.oQ, h.oK, by rw [← e]; exact heapB h.heap, ?_, ?_, ?_⟩
  · rw [h1]; exact ownsRow_heap h.files fun p hp => ho p (rowB_ne h.files h.heap (by decide) p hp)
  · rw [h2]; exact ownsRow_heap h.queue fun p hp => ho p (rowB_ne h.queue h.heap (by decide) p hp)
  · rw [h3]; exact ownsRow_heap h.keep fun p hp => ho p (rowB_ne h.keep h.heap (by decide) p hp)
theorem lastL_succ (l : List (Nat × Txt × Txt)) (k : Nat) (hk : k < l.length) : lastL (l.take (k + 1)) = lastL (l.take k) ++ [((l[k]).1, (l[k]).2.2, (l[k]).2.2)] := by
  unfold lastL
  rw [List.take_add_one, List.getElem?_eq_getElem hk, List.map_append]
  rfl
theorem lastL_len (l : List (Nat × Txt × Txt)) : (lastL l).length = l.length := by unfold lastL; simp
end Go.Proofs.YtjcajgcfkidbkaaDoor
namespace Go.Proofs.YtjcajgcfkidbkaaDoor
open Go.RowKit

theorem Ints.own {w w' : World} {v : Value} {ks : List Int} {B : Nat} (h : Ints w v ks) (ho : Own (fun k => k = B) w w') (hb : ∀ p, ks ≠ [] → v.ownBlock = some p → p ≠ B) : Ints w' v ks :=
  h.frame fun p h0 hp hlt => ho.block p hlt (hb p h0 hp)
theorem Own.one {w w1 w2 : World} {B : Nat} (h : Own (fun k => k = B) w w1) (h' : Own (fun k => k = B) w1 w2) : Own (fun k => k = B) w w2 := h.trans (fun _ hk => .inl hk) h'

set_option maxHeartbeats 8000000 in
set_option maxRecDepth 100000 in
theorem rcrash_any (ks : List Int) (v : Value) {w : World} {O : Nat → Prop} {B : Nat} {r : FS} (h : (RfT B r).at_ w O) (hF : Fine r.fl) (hqf : ∀ p ∈ r.q, p.1 < 16 ∧ p.2 ≤ 262144) (hq : r.q.length ≤ 100000)
    (hlen : ∀ k f, f < 16 → (getF (crF r.fl r.q ks k) f).1.length ≤ 16777216 ∧ (getF (crF r.fl r.q ks k) f).2.length ≤ 16777216) (hk : Ints w v ks) (hkl : ks.length ≤ 17592186044416) (hkB : ∀ p, ks ≠ [] → v.ownBlock = some p → p ≠ B) :
    Calls Tryd.prog 25 #[.pointer (some ⟨B, 0, none⟩), v] w fun e w' => e = .returned (.tuple #[]) ∧ (RfT B (crashF r ks)).step O w w' ∧ Own (fun k => k = B) w w' := by
  by_cases hd : r.down = true
  · have HC := Lib.hid (show crashF r ks = r by unfold crashF; rw [if_pos hd])
    have HS := Lib.hid (Thing.step_fr h (Fr.refl w))
    obtain ⟨fv, qv, kv, hr⟩ := h
    obtain ⟨_, _, _, c3, _, _⟩ := hr.c
    rw [hd] at c3
    clear hr hlen hqf hkB hk
    go_enter Tryd.func25, Tryd.ntmps25
    go_wp2
    exact bodyPost_ret (v := .tuple #[]) (by simp [results, Tryd.results25, go_sem]) rfl ⟨rfl, by rw [HC.out]; exact HS.out, Own.refl _ _⟩
  · replace hd : r.down = false := by simpa using hd
    obtain ⟨fv, qv, kv, hr⟩ := h
    have HC := Lib.hid (show crashF r ks = { r with fl := lastL (crF r.fl r.q ks r.q.length), q := [], down := true, armed := 0 } by unfold crashF; rw [hd]; rfl)
    have HFI := Lib.hid (fun k => crF_fine hF (fun p hp => (hqf p hp).1) ks k)
    have h1 := hr.scalar 3 (.bool true) { r with down := true } rfl rfl rfl rfl
    have h2 := h1.scalar 4 (.int .i64 0) { r with down := true, armed := 0 } rfl rfl rfl rfl
    have o2 : Own (fun k => k = B) w ((w.setCell ⟨B, 3, none⟩ (.bool true)).setCell ⟨B, 4, none⟩ (.int .i64 0)) := ((Own.refl (fun k => k = B) w).only (OnlyB.setCell w B 3 _) (.inl rfl)).only (OnlyB.setCell _ B 4 _) (.inl rfl)
    have HS0 : Hid ((RfT B { r with down := true, armed := 0, fl := crF r.fl r.q ks 0 }).step O w ((w.setCell ⟨B, 3, none⟩ (.bool true)).setCell ⟨B, 4, none⟩ (.int .i64 0))) :=
      Lib.hid ⟨O, ⟨fv, qv, kv, h2⟩, fun _ hk => .inl hk, o2.mono fun k hk => by subst hk; exact hr.oB⟩
    have HO0 := Lib.hid o2
    obtain ⟨_, _, _, c3, c4, _⟩ := hr.c
    rw [hd] at c3
    have z3 : w.frozen? ⟨B, 3, none⟩ = false := hr.fz 3
    have z4 : (w.setCell ⟨B, 3, none⟩ (.bool true)).frozen? ⟨B, 4, none⟩ = false := h1.fz 4
    have d4 : (w.setCell ⟨B, 3, none⟩ (.bool true)).cell? ⟨B, 4, none⟩ = some (.int .i64 r.armed) := h1.c.2.2.2.2.1
    obtain ⟨a, c, rfl⟩ := hk.form
    have HK0 := Lib.hid hk
    have HQF := Lib.hid hqf
    have HLEN := Lib.hid hlen
    have HKB := Lib.hid hkB
    clear hr h1 h2 o2 hk hqf hlen hkB hF
    obtain ⟨m0, hm0⟩ : ∃ m0, m0 = r.q.length := ⟨_, rfl⟩
    obtain ⟨nk, hnk⟩ : ∃ nk, nk = ks.length := ⟨_, rfl⟩
    rw [← hm0] at hq
    rw [← hnk] at hkl HK0 HKB
    have HM0 := Lib.hid hm0
    have HNK := Lib.hid hnk
    clear hm0 hnk
    go_enter Tryd.func25, Tryd.ntmps25
    rw [← HNK.out]
    go_wp2_with fail
    go_loopw [4] (fun i wr => ∃ (k : Nat), k ≤ m0 ∧ i = .int .i64 k ∧ Hid ((RfT B { r with down := true, armed := 0, fl := crF r.fl r.q ks k }).step O w wr) ∧ Hid (Own (fun k => k = B) w wr)) (fun i _ => m0 - (intOf i).toNat)
    case atStart => exact ⟨0, Nat.zero_le _, by go_num, HS0, HO0⟩
    case round =>
      obtain ⟨k, hk, rfl, HS, HO⟩ := hrel
      clear HS0 HO0
      obtain ⟨O', ⟨fv', qv', kv', hr⟩, hG, hW⟩ := HS.out
      have HR := Lib.hid hr
      have HG := Lib.hid hG
      have HW := Lib.hid hW
      have HQ : Hid (wr.ownsRow 0 93 2 qv' r.q.length (qCells r.q)) := Lib.hid hr.queue
      obtain ⟨_, c1, _, _, _, _⟩ := hr.c
      clear hr hG hW
      obtain ⟨aq, cq, hqv⟩ := row_at HQ.out
      subst hqv
      rw [← HM0.out] at c1
      have HK := Lib.hid (HK0.out.own HO.out HKB.out)
      obtain ⟨bg, hbg⟩ : ∃ bg, bg = decide (k < m0 ∧ 0 < nk) := ⟨_, rfl⟩
      have HBG := Lib.hid hbg
      clear hbg
      go_upto_region 4 with fail
      go_cut [28] (fun s wx => s = .bool bg ∧ wx = wr)
      case first =>
        by_cases h1 : k < m0
        · by_cases h2 : 0 < nk
          · have hbt : bg = true := by rw [HBG.out]; simp [h1, h2]
            subst hbt
            have h2' : (0 : Int) < (nk : Int) := by omega
            go_wp2_with fail
            go_meet
            exact ⟨rfl, rfl⟩
          · have hbt : bg = false := by rw [HBG.out]; simp [h2]
            subst hbt
            have h2' : ¬ (0 : Int) < (nk : Int) := by omega
            go_wp2_with fail
            go_meet
            exact ⟨rfl, rfl⟩
        · have hbt : bg = false := by rw [HBG.out]; simp [h1]
          subst hbt
          go_wp2_with fail
          go_meet
          exact ⟨rfl, rfl⟩
      case rest =>
      obtain ⟨rfl, rfl⟩ := hcut
      cases bg with
      | true =>
        have hb := HBG.out
        rw [eq_comm, decide_eq_true_iff] at hb
        obtain ⟨hk1, hk2⟩ := hb
        have hkr : k < r.q.length := by rw [← HM0.out]; exact hk1
        have hmod : k % ks.length < ks.length := Nat.mod_lt _ (by rw [← HNK.out]; exact hk2)
        obtain ⟨kb, ko, rfl, x1⟩ := HK.out.cell (k % ks.length) hmod
        have HKP := Lib.hid (kept_iff ks k hmod)
        generalize ks[k % ks.length] = y at *
        rw [← HNK.out] at x1
        obtain ⟨gq, rfl, _, hc⟩ := own_cell HQ.out (by omega)
        obtain ⟨e1, e2⟩ := qCells_get r.q k hkr
        have d1 := hc (2 * k) _ (by omega) e1
        have d2 := hc (2 * k + 1) _ (by omega) e2
        rw [Nat.mul_comm] at d1 d2
        clear hc e1 e2
        have hp := HQF.out (r.q[k]) (List.getElem_mem hkr)
        have hln := HLEN.out k (r.q[k]).1 hp.1
        have HSUC := Lib.hid (crF_succ r.fl r.q ks k hkr)
        have HSV := Lib.hid (rsurv_any (r := { r with down := true, armed := 0, fl := crF r.fl r.q ks k }) ⟨_, _, _, HR.out⟩ (r.q[k]) hp.2 (HFI.out k).len hln.1 hln.2)
        clear hp hln
        obtain ⟨px, py, hpp⟩ : ∃ px py, (px, py) = r.q[k] := ⟨_, _, rfl⟩
        rw [← hpp] at d1 d2 HSV HSUC
        dsimp only at d1 d2 HSV
        clear hpp
        have hmi : ((k : Int) % (nk : Int)) = ((k % nk : Nat) : Int) := by omega
        have hmlt : k % nk < nk := Nat.mod_lt _ hk2
        have hidx : (0 : Int) ≤ ((k % nk : Nat) : Int) ∧ ((k % nk : Nat) : Int) < (nk : Int) := by omega
        obtain ⟨ix, hix⟩ : ∃ ix, ix = k % nk := ⟨_, rfl⟩
        rw [← hix] at x1 hmi hmlt hidx
        clear hix
        by_cases hy : bits .and .i64 y 1 = 1
        · have HE : Hid (crF r.fl r.q ks (k + 1) = survL (crF r.fl r.q ks k) (px, py)) := Lib.hid (by rw [HSUC.out, if_pos (HKP.out.2 hy)])
          clear HKP HSUC
          go_wp2_with fail
          refine HSV.out.mono ?_
          rintro e w9 ⟨rfl, hs9, ho9⟩
          have HS9 := Lib.hid (Thing.step_trans HG.out HW.out hs9)
          have HO9 := Lib.hid (HO.out.one ho9)
          clear hs9 ho9
          go_wp2_with fail
          go_roundw
          case rel => exact ⟨k + 1, by omega, by go_num, by rw [HE.out]; exact HS9, HO9⟩
          case measure => simp [intOf]; omega
        · have HE : Hid (crF r.fl r.q ks (k + 1) = crF r.fl r.q ks k) := Lib.hid (by rw [HSUC.out, if_neg (fun h => hy (HKP.out.1 h))])
          clear HKP HSUC
          go_wp2_with fail
          go_roundw
          case rel => exact ⟨k + 1, by omega, by go_num, by rw [HE.out]; exact HS, HO⟩
          case measure => simp [intOf]; omega
      | false =>
        have HE : Hid (crF r.fl r.q ks k = crF r.fl r.q ks r.q.length) := Lib.hid (by
          have hb := HBG.out
          rw [eq_comm, decide_eq_false_iff_not] at hb
          by_cases h0 : ks.length = 0
          · have : ks = [] := List.eq_nil_of_length_eq_zero h0
            rw [this, crF_nil, crF_nil]
          · have := HNK.out
            have := HM0.out
            rw [show k = r.q.length by omega])
        obtain ⟨F, hFd⟩ : ∃ F, F = crF r.fl r.q ks k := ⟨_, rfl⟩
        rw [← hFd] at HR HE HS
        have hF16 : F.length ≤ 16 := by rw [hFd]; exact (HFI.out k).len
        clear hFd c1
        have hfil : wc.ownsRow 0 95 3 fv' F.length (fC F) := HR.out.files
        obtain ⟨af, cf, hfv⟩ := row_at hfil
        subst hfv
        obtain ⟨mf, hmf⟩ : ∃ mf, mf = F.length := ⟨_, rfl⟩
        have c0 : wc.cell? ⟨B, 0, none⟩ = some (.slice af mf cf) := by rw [hmf]; exact HR.out.c.1
        have HC0 := Lib.hid c0
        have HFIL := Lib.hid hfil
        have HMF := Lib.hid hmf
        rw [← hmf] at hF16
        have HTK := Lib.hid (show lastL (F.take mf) = lastL F by rw [hmf, List.take_length])
        clear c0 hfil hmf
        obtain ⟨i0, hi, hz0, hz1, hz2⟩ := info_parts infoFile
        have HIN := Lib.hid hi
        clear hi
        go_wp2_with fail
        go_loopw [5, 6] (fun v i wr => ∃ (j : Nat), j ≤ mf ∧ i = .int .i64 j ∧ Hid (Has wc wr ((RowT 95 3 v j (fC (lastL (F.take j)))).sep .emp))) (fun _ i _ => mf - (intOf i).toNat)
        case atStart => exact ⟨0, Nat.zero_le _, by go_num, Lib.hid ((Has.here wc).nilRow _ _)⟩
        case round =>
          obtain ⟨j, hj, rfl, HJ⟩ := hrel
          have c1 := HJ.out.toFr.cell HC0.out
          by_cases hlt : j < mf
          · have hlt' : j < F.length := by rw [← HMF.out]; exact hlt
            obtain ⟨g, rfl, _, hc⟩ := own_cell HFIL.out (by omega)
            obtain ⟨e1, e2, e3⟩ := fC_get F j hlt'
            have b1 := hc (3 * j) _ (by omega) e1
            have b3 := hc (3 * j + 2) _ (by omega) e3
            rw [Nat.mul_comm] at b1 b3
            clear hc e1 e2 e3
            have HL := Lib.hid (lastL_succ F j hlt')
            generalize (F[j]).2.2 = y at *
            generalize (F[j]).1 = x at *
            have HS : Hid (∀ w', Fr wc w' → w'.cell? ⟨B, 0, none⟩ = some (.slice (some ⟨g, 0, none⟩) mf cf) ∧ w'.cell? ⟨g, j * 3, none⟩ = some (.int .i64 x) ∧ w'.cell? ⟨g, j * 3 + 2, none⟩ = some (.string (S y))) := Lib.hid fun w' hf => ⟨hf.cell HC0.out, hf.cell b1, hf.cell b3⟩
            have HJ2 := Lib.hid ((HJ.out.fr (Fr.drew wr)).fr (Fr.alloc wr.drew (.cells #[.int .i64 x, .string (S y), .string (S y)] 95)))
            have HSD := Lib.hid (HS.out _ (HJ.out.toFr.trans (Fr.drew wr)))
            have HSA := Lib.hid (HS.out _ HJ2.out.toFr)
            clear b1 b3
            obtain ⟨a5, c5, hv5⟩ := row_at HJ.out.row
            subst hv5
            obtain ⟨xs, hxs⟩ : ∃ xs, xs = fC (lastL (F.take j)) := ⟨_, rfl⟩
            rw [← hxs] at HJ2
            have HRow : Hid (wr.ownsRow 0 95 3 (.slice a5 j c5) j xs) := Lib.hid (by rw [hxs]; exact HJ.out.row)
            have HXS := Lib.hid hxs
            have hkb : (j + 1) * 40 ≤ 140737488355328 := by omega
            clear hxs HJ
            have c2 := HSD.out.1
            go_upto_region 12 with fail
            go_region_held_law (fun w' => w'.cell? ⟨B, 0, none⟩ = some (.slice (some ⟨g, 0, none⟩) mf cf) ∧ w'.cell? ⟨g, j * 3, none⟩ = some (.int .i64 x) ∧ w'.cell? ⟨g, j * 3 + 2, none⟩ = some (.string (S y)))
              (first | exact HS3.out | exact HSA.out | exact HSD.out)
              ((refine step_append_lies _ (by rfl) (.tmp 58) (.tmp 84) 72 (by rfl) 0 95 i0 (.agg #[.int .i64 0, .string (S []), .string (S [])]) 3 40 Tryd.underlying72 HIN.out hz0 hz1 hz2 rfl (by decide) (.slice a5 j c5) j xs (by rfl) ((HRow.out.drew).alloc _) ⟨wr.heap.size, 0, none⟩ 1 1 [.int .i64 x, .string (S y), .string (S y)] (by rfl) (by rfl) (World.news_of_block (cs := #[.int .i64 x, .string (S y), .string (S y)]) (t := 95) (fr := (0, 0)) (heap_alloc_new wr.drew _)) (by simp [Value.oneCell']) (by decide) (by unfold maxLen; omega) hkb (Nat.zero_le _) (wr.heap.size + 1) (by simp) ?_
                intro gg cap1 w3 hown1 hgrow hat1 hlt1
                have H3 : Hid (Has wc w3 ((RowT 95 3 (.slice (some ⟨gg, 0, none⟩) (j + 1) cap1) (j + 1) (fC (lastL (F.take (j + 1))))).sep .emp)) := Lib.hid (by
                  rw [HL.out, fC_append, ← HXS.out]
                  refine HJ2.out.app hown1 hgrow (fun p hp => ?_)
                  simp only [Value.ownBlock, Option.some.injEq] at hp
                  subst hp
                  rcases hat1 with h1 | h1
                  · exact .inl h1
                  · exact .inr (by rw [h1]; simp))
                have HS3 := Lib.hid (HS.out _ H3.out.toFr)
                clear hown1 hgrow hat1 hlt1))
            all_goals
              go_wp2_with fail
              go_roundw
              case rel => exact ⟨j + 1, by omega, by go_num, H3⟩
              case measure => simp [intOf]; omega
          · obtain rfl : j = mf := by omega
            obtain ⟨a6, c6, rfl⟩ := row_at HJ.out.row
            have z1 : wr.frozen? ⟨B, 0, none⟩ = false := frozenOf ((HR.out.fr HJ.out.toFr).heap) 0
            obtain ⟨hs1, ho1⟩ := HR.out.refile (Fr.refl wc) (L := lastL F) (by rw [← HTK.out]; exact HJ.out) (by rw [lastL_len]; exact HMF.out)
            have HO1 := Lib.hid (HO.out.one ho1)
            obtain ⟨O2, ⟨fv2, qv2, kv2, hr2⟩, hG2, hW2⟩ := hs1
            have z2 := frozenOf hr2.heap 1
            have c2 := hr2.c.2.1
            obtain ⟨aq2, cq2, hqv2⟩ := row_at hr2.queue
            subst hqv2
            have hs2 := hr2.requeue (Fr.refl _) (v := .slice none 0 0) (L := []) (n := 0) ((Has.here _).nilRow _ _) rfl
            have ho2 := HO1.out.one ((Own.refl (fun k => k = B) _).only (OnlyB.setCell _ B 1 (.slice none 0 0)) (.inl rfl))
            have HS2 := Lib.hid (Thing.step_trans HG.out HW.out (Thing.step_trans hG2 hW2 hs2))
            have HO2 := Lib.hid ho2
            clear hs2 ho2 ho1 hG2 hW2 hr2
            go_wp2_with fail
            go_end0
            exact ⟨rfl, by rw [HC.out, ← HE.out]; exact HS2.out, HO2.out⟩
end Go.Proofs.YtjcajgcfkidbkaaDoor
