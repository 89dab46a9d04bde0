/-
  Strings as lists of bytes (S), frames (Fr), slices of one-cell values (IsSl), and the map from contents to their prints, as a partial function (MapIs).
-/
import Derived.Test.YthibdppjhfhomaaCm
import Derived.Test.YthibdppjhfhomaaShelf
import Derived.WalkKit
import Derived.Maps.AppendAt
import Derived.Maps.RangeWalk
import Derived.Maps.Keyed
import Derived.Maps.OwnOps
import Derived.DeepKeys4
import Derived.Lib.SmallJoins
import Derived.Lib.Hide
import Derived.Lib.Builder
import Derived.Deep.WholeRow
import Derived.Deep.OwnRows
import Derived.Deep.RegionLawGrows
import Derived.Deep.CutBlock
namespace Go.Proofs.Ythibdppjhfhomaa
open Go.RowKit Go.MapKept Go.Maps Go.WideMaps
open Go.ChangeMaps (setBlock)

/-- A string out of its bytes. -/
def S (l : List UInt8) : ByteArray := ⟨l.toArray⟩
theorem S_size_rfl (l : List UInt8) : (S l).size = l.length := rfl
/-- Not by 'rfl', so that simp keeps the bounds of indices well typed. -/
@[go_sem] theorem S_size (l : List UInt8) : (S l).size = l.length := (S_size_rfl l).trans (Eq.refl _)
@[go_sem] theorem S_toList (l : List UInt8) : (S l).toList = l := ByteArray.toList_mk l
theorem S_data_rfl (l : List UInt8) : (S l).data.toList = l := rfl
@[go_sem] theorem S_data (l : List UInt8) : (S l).data.toList = l := (S_data_rfl l).trans (Eq.refl _)
theorem S_eta (s : ByteArray) : s = S s.data.toList := by cases s; rfl
theorem S_append (l m : List UInt8) : S l ++ S m = S (l ++ m) := by
  have h : (S l ++ S m).data.toList = (S (l ++ m)).data.toList := by rw [Go.Joins.data_append]; rfl
  cases hx : S l ++ S m with
  | mk d => rw [hx] at h; have : d = (S (l ++ m)).data := Array.ext' h; rw [this]
theorem S_extract (l : List UInt8) (a b : Nat) : (S l).extract a b = S ((l.drop a).take (b - a)) := by
  have h : ((S l).extract a b).data.toList = (S ((l.drop a).take (b - a))).data.toList := by
    rw [ByteArray.data_extract, Array.toList_extract]; simp [S, List.extract_eq_take_drop]
  cases hx : (S l).extract a b with
  | mk d => rw [hx] at h; have : d = (S ((l.drop a).take (b - a))).data := Array.ext' h; rw [this]

/-- Only new memory. -/
def Fr (w w' : World) : Prop := w.grownBy w' none
theorem Fr.refl (w : World) : Fr w w := ⟨rfl, rfl, rfl, Nat.le_refl _, fun _ _ _ => rfl⟩
theorem Fr.trans {a b c : World} (h : Fr a b) (k : Fr b c) : Fr a c := World.grownBy.trans h k
theorem Fr.alloc (w : World) (o : Obj) : Fr w (w.alloc o) := World.grownBy_alloc w o none
theorem Fr.drewN (w : World) (n : Nat) : Fr w (w.drewN n) := ⟨rfl, rfl, rfl, Nat.le_refl _, fun _ _ _ => rfl⟩
theorem Fr.drew (w : World) : Fr w w.drew := ⟨rfl, rfl, rfl, Nat.le_refl _, fun _ _ _ => rfl⟩
theorem Fr.grow (w : World) (k : Nat) (os : Array Obj) : Fr w (Go.Sort.grow (w.drewN k) os) :=
  ⟨rfl, rfl, rfl, by simp [Go.Sort.grow, World.drewN], fun i hi _ => by
    show (w.heap ++ os)[i]? = w.heap[i]?
    rw [Array.getElem?_append_left hi]⟩
theorem Fr.grown {w x y : World} {row : Option Nat} (h : Fr w x) (hg : x.grownBy y row) (hr : ∀ k, row = some k → w.heap.size ≤ k) : Fr w y :=
  World.grownBy.andThen h hg (fun j hj => .inl (hr j hj))
theorem Fr.setCell {w x : World} (h : Fr w x) {b : Nat} (hb : w.heap.size ≤ b) (i : Nat) (v : Value) : Fr w (x.setCell ⟨b, i, none⟩ v) :=
  ⟨h.os, h.tape, h.output, by simpa using h.size, fun k hk _ => by
    rw [heap_setCell_other x ⟨b, i, none⟩ k v (by simp; omega), World.grownBy.block h k hk (by simp)]⟩
theorem Fr.row {w w' : World} (h : Fr w w') {b n : Nat} {t : TypeId} {f : Nat → Value} (hr : w.rowIs b t n f) : w'.rowIs b t n f := hr.of_block (World.grownBy.block h b hr.lt (by simp))
theorem Fr.below {w w' : World} (h : Fr w w') : Below w.heap.size w w' := ⟨h.os, h.tape, h.output, h.size, fun k hk => h.block k hk (by simp)⟩
theorem Fr.of_below {w w' : World} (h : Below w.heap.size w w') : Fr w w' := ⟨h.os, h.tape, h.output, h.size, fun k hk _ => h.block k hk⟩
theorem Fr.size {w w' : World} (h : Fr w w') : w.heap.size ≤ w'.heap.size := World.grownBy.size h
theorem Fr.cell {w w' : World} (h : Fr w w') {a : Addr} {v : Value} (hc : w.cell? a = some v) : w'.cell? a = some v := World.grownBy.cell h hc (by simp)
theorem Fr.heap {w w' : World} (h : Fr w w') {b : Nat} {o : Obj} (hb : w.heap[b]? = some o) : w'.heap[b]? = some o := by
  rw [World.grownBy.block h b (Array.getElem?_eq_some_iff.1 hb).1 (by simp)]; exact hb

def IsSl (w : World) (v : Value) (xs : List Value) : Prop :=
  (xs = [] ∧ ∃ a c, v = .slice a 0 c) ∨ ∃ b o c, v = .slice (some ⟨b, o, none⟩) xs.length c ∧ ∀ i x, xs[i]? = some x → w.cell? ⟨b, o + i, none⟩ = some x
theorem IsSl.fr {w w' : World} {v : Value} {xs : List Value} (h : IsSl w v xs) (hf : Fr w w') : IsSl w' v xs := by
  rcases h with h | ⟨b, o, c, hv, hc⟩
  · exact .inl h
  · exact .inr ⟨b, o, c, hv, fun i x hx => hf.cell (hc i x hx)⟩
theorem IsSl.len {w : World} {v : Value} {xs : List Value} (h : IsSl w v xs) : ∃ a c, v = .slice a xs.length c := by
  rcases h with ⟨rfl, a, c, rfl⟩ | ⟨b, o, c, rfl, _⟩
  · exact ⟨a, c, rfl⟩
  · exact ⟨_, _, rfl⟩

theorem IsSl.own {B e n : Nat} {w : World} {v : Value} {xs : List Value} (h : w.ownsRow B e 1 v n xs) : IsSl w v xs := by
  have hl := h.1
  rcases h.2 with ⟨rfl, rfl⟩ | ⟨g, cap, cur, rfl, hB, hg, hn, _, hs, ht⟩
  · exact .inl ⟨by simpa using hl, _, _, rfl⟩
  · refine .inr ⟨g, 0, cap, by rw [hl, Nat.mul_one], fun i x hx => ?_⟩
    rw [Lib.cell_of_heap hg, Nat.zero_add]
    rw [← ht, List.getElem?_take] at hx
    split at hx
    · simpa using hx
    · cases hx
theorem IsSl.nil (w : World) (c : Nat) (a : Option Addr) : IsSl w (.slice a 0 c) [] := .inl ⟨rfl, _, _, rfl⟩

/-- A list of strings. -/
def strs (l : List Txt) : List Value := l.map fun z => Value.string (S z)
theorem strs_len (l : List Txt) : (strs l).length = l.length := by simp [strs]
theorem strs_app (l : List Txt) (s : Txt) : strs (l ++ [s]) = strs l ++ [.string (S s)] := by simp [strs]

/-! ### The map -/
theorem lawStr : Keyed Try.prog 9 := string_keyed Try.underlying9
theorem key_str (s : Txt) (h : s.length ≤ maxLen) : ∃ l, keyOf Try.prog 9 (.string (S s)) = some l := ⟨_, keyOf_string_mk Try.underlying9 (s := S s) (by rw [S_size]; exact h)⟩
theorem str_inj {s t : Txt} (h : Value.string (S s) = Value.string (S t)) : s = t := by
  have := congrArg (fun v => match v with | Value.string b => b.data.toList | _ => []) h
  simpa [S_data] using this

/-- Block M is a map of n entries, which has the value v at s exactly if m says so. -/
def MapIs (w : World) (M : Nat) (m : Txt → Option Value) (n : Nat) : Prop :=
  ∃ es clock, w.heap[M]? = some (.map es clock) ∧ Stamped es clock ∧ es.size = n ∧ (∀ x ∈ es.toList, ∃ s : Txt, s.length ≤ maxLen ∧ x.key = .string (S s)) ∧
    ∀ s v, m s = some v ↔ ∃ x ∈ es.toList, x.key = .string (S s) ∧ x.val = v

theorem MapIs.lt {w : World} {M : Nat} {m n} (h : MapIs w M m n) : M < w.heap.size := by
  obtain ⟨es, clock, hb, _⟩ := h
  exact (Array.getElem?_eq_some_iff.1 hb).1
theorem MapIs.fr {w w' : World} {M : Nat} {m n} (h : MapIs w M m n) (hw : Fr w w') : MapIs w' M m n := by
  obtain ⟨es, clock, hb, h'⟩ := h
  exact ⟨es, clock, hw.heap hb, h'⟩
theorem MapIs.new (w : World) : MapIs (w.alloc (.map #[] 0)) w.heap.size (fun _ => none) 0 :=
  ⟨#[], 0, (MapKept.heap_alloc w _).1, stamped_empty 0, rfl, by simp, by simp⟩

theorem keys_read {es : Array MapEntry} (h : ∀ x ∈ es.toList, ∃ s : Txt, s.length ≤ maxLen ∧ x.key = .string (S s)) : ∀ x ∈ es.toList, ∃ l, keyOf Try.prog 9 x.key = some l := by
  intro x hx
  obtain ⟨s, hs, e⟩ := h x hx
  rw [e]
  exact key_str s hs

/-- No other entry has the key of one. -/
theorem key_once {es : Array MapEntry} {clock : Nat} (h : Stamped es clock) {x y : MapEntry} (hx : x ∈ es.toList) (hy : y ∈ es.toList) (e : x.key = y.key) : x = y := by
  have hp := ((stamped_iff es clock).1 h).2.2
  obtain ⟨i, hi, rfl⟩ := List.getElem_of_mem hx
  obtain ⟨j, hj, rfl⟩ := List.getElem_of_mem hy
  rw [List.pairwise_iff_getElem] at hp
  rcases Nat.lt_trichotomy i j with h' | h' | h'
  · exact absurd e (hp i j hi hj h')
  · subst h'; rfl
  · exact absurd e.symm (hp j i hj hi h')

theorem run_zeroInt (w : World) : (zeroValue 3).run Try.prog w = .ok (.int .i64 0) w := by kernel_rfl

theorem MapIs.look {w : World} {M : Nat} {m n} (h : MapIs w M m n) (s : Txt) (hs : s.length ≤ maxLen) :
    (Instr.lookup 42 (.map (some M)) (.string (S s)) true).run Try.prog w = .ok (.tuple #[(m s).getD (.int .i64 0), .bool (m s).isSome]) w := by
  obtain ⟨es, clock, hb, hst, _, hk, hm⟩ := h
  obtain ⟨l, hl⟩ := key_str s hs
  rcases lawStr.find w hl es.toList (keys_read hk) with ⟨h1, h2⟩ | ⟨j, e0, h1, h2, h3⟩
  · have hn : m s = none := by
      cases hc : m s with
      | none => rfl
      | some v => obtain ⟨x, hx, hxk, _⟩ := (hm s v).1 hc; exact absurd hxk (h2 x hx)
    simp [Instr.lookup, run_underlying Try.underlying42, MapKept.run_getObj_map hb, lawStr.check w _ hl, h1, hn, Result.andThen]
  · have hs : m s = some e0.val := (hm s _).2 ⟨e0, List.mem_of_getElem? h2, h3, rfl⟩
    simp [Instr.lookup, run_underlying Try.underlying42, MapKept.run_getObj_map hb, lawStr.check w _ hl, h1, hs, Result.andThen]

/-- Only block M has changed. -/
def OnlyB (M : Nat) (w w' : World) : Prop := w'.os = w.os ∧ w'.tape = w.tape ∧ w'.output = w.output ∧ w'.heap.size = w.heap.size ∧ ∀ k, k ≠ M → w'.heap[k]? = w.heap[k]?
theorem Fr.only {w w1 w2 : World} {M : Nat} (h : Fr w w1) (hM : w.heap.size ≤ M) (ho : OnlyB M w1 w2) : Fr w w2 :=
  ⟨ho.1.trans h.os, ho.2.1.trans h.tape, ho.2.2.1.trans h.output, by rw [ho.2.2.2.1]; exact h.size, fun k hk _ => by rw [ho.2.2.2.2 k (by omega), World.grownBy.block h k hk (by simp)]⟩

theorem MapIs.store {w : World} {M : Nat} {m m' : Txt → Option Value} {n n' : Nat} (h : MapIs w M m n) (s : Txt) (hs : s.length ≤ maxLen) (v : Value)
    (hm' : ∀ t, m' t = if t = s then some v else m t) (hn' : n' = if m s = none then n + 1 else n) :
    ∃ w', (Instr.mapUpdate 42 (.map (some M)) (.string (S s)) v).run Try.prog w = .ok () w' ∧ MapIs w' M m' n' ∧ OnlyB M w w' := by
  have hlt := h.lt
  obtain ⟨es, clock, hb, hst, hsz, hk, hm⟩ := h
  obtain ⟨l, hl⟩ := key_str s hs
  have hfr : ∀ o, OnlyB M w (setBlock w M o) := fun o => ⟨rfl, rfl, rfl, by simp [setBlock], fun k hk => ChangeMaps.heap_setBlock_other hb _ hk⟩
  rcases lawStr.find w hl es.toList (keys_read hk) with ⟨h1, h2⟩ | ⟨j, e0, h1, h2, h3⟩
  · have hnone : m s = none := by
      cases hc : m s with
      | none => rfl
      | some v => obtain ⟨x, hx, hxk, _⟩ := (hm s v).1 hc; exact absurd hxk (h2 x hx)
    refine ⟨setBlock w M (.map (es.push ⟨.string (S s), v, clock⟩) (clock + 1)), ?_, ?_, hfr _⟩
    · simp [Instr.mapUpdate, run_underlying Try.underlying42, MapKept.run_getObj_map hb, lawStr.check w _ hl, h1, MapKept.run_setObj_map _ hb, Result.andThen, setBlock]
    · refine ⟨_, _, ChangeMaps.heap_setBlock_same hb _, stamped_push hst h2, by rw [hn', hnone]; simp [hsz], ?_, ?_⟩
      · intro x hx
        simp only [Array.toList_push, List.mem_append, List.mem_singleton] at hx
        rcases hx with hx | rfl
        · exact hk x hx
        · exact ⟨s, hs, rfl⟩
      · intro t v'
        simp only [Array.toList_push, List.mem_append, List.mem_singleton]
        rw [hm']
        by_cases e : t = s
        · subst e
          simp only [if_true, Option.some.injEq]
          constructor
          · rintro rfl; exact ⟨_, .inr rfl, rfl, rfl⟩
          · rintro ⟨x, hx | rfl, hxk, hxv⟩
            · exact absurd hxk (h2 x hx)
            · exact hxv
        · simp only [if_neg e]
          rw [hm]
          constructor
          · rintro ⟨x, hx, hxk, hxv⟩; exact ⟨x, .inl hx, hxk, hxv⟩
          · rintro ⟨x, hx | rfl, hxk, hxv⟩
            · exact ⟨x, hx, hxk, hxv⟩
            · exact absurd (str_inj hxk) (fun a => e a.symm)
  · have hj : es[j]? = some e0 := by simpa using h2
    have hm0 : e0 ∈ es.toList := List.mem_of_getElem? h2
    have hsome : m s = some e0.val := (hm s _).2 ⟨e0, hm0, h3, rfl⟩
    have hlist : (es.modify j (fun e' => { e' with key := .string (S s), val := v })).toList = es.toList.set j { e0 with key := .string (S s), val := v } := by rw [Array.toList_modify, ChangeMaps.modify_eq_set _ _ _ _ h2]
    have hmem : ∀ x, x ∈ es.toList.set j { e0 with key := .string (S s), val := v } ↔ x = { e0 with key := .string (S s), val := v } ∨ (x ∈ es.toList ∧ x.key ≠ .string (S s)) := by
      intro x
      have hjl : j < es.toList.length := (List.getElem?_eq_some_iff.1 h2).1
      constructor
      · intro hx
        obtain ⟨i, hi, ex⟩ := List.getElem_of_mem hx
        rw [List.getElem_set] at ex
        split at ex
        · exact Or.inl ex.symm
        · rename_i hne
          have hi' : i < es.toList.length := by simpa using hi
          have hx' : x ∈ es.toList := ex ▸ List.getElem_mem hi'
          refine Or.inr ⟨hx', fun hkk => hne ?_⟩
          have hxe : x = e0 := key_once hst hx' hm0 (hkk.trans h3.symm)
          have hp := ((stamped_iff es clock).1 hst).2.2
          rw [List.pairwise_iff_getElem] at hp
          have hje : es.toList[j] = e0 := (List.getElem?_eq_some_iff.1 h2).2
          rcases Nat.lt_trichotomy i j with h' | h' | h'
          · exact absurd (by rw [ex, hje, hxe]) (hp i j hi' hjl h')
          · exact h'.symm
          · exact absurd (by rw [ex, hje, hxe]) (hp j i hjl hi' h')
      · rintro (rfl | ⟨hx, hne⟩)
        · exact List.mem_iff_getElem.2 ⟨j, by simpa using hjl, by simp⟩
        · obtain ⟨i, hi, rfl⟩ := List.getElem_of_mem hx
          have hij : j ≠ i := by
            rintro rfl
            have hje : es.toList[j] = e0 := (List.getElem?_eq_some_iff.1 h2).2
            rw [hje] at hne; exact hne h3
          exact List.mem_iff_getElem.2 ⟨i, by simpa using hi, by rw [List.getElem_set_ne hij]⟩
    refine ⟨setBlock w M (.map (es.modify j (fun e' => { e' with key := .string (S s), val := v })) clock), ?_, ?_, hfr _⟩
    · simp [Instr.mapUpdate, run_underlying Try.underlying42, MapKept.run_getObj_map hb, lawStr.check w _ hl, h1, hj, h3, lawStr.stays w hl, MapKept.run_setObj_map _ hb, Result.andThen, setBlock]
    · refine ⟨_, _, ChangeMaps.heap_setBlock_same hb _, stamped_modify hst _ _ (fun _ _ => rfl) (fun e' _ he' => by rw [hj] at he'; cases he'; exact h3.symm), by rw [hn', hsome]; simp [hsz], ?_, ?_⟩
      · intro x hx
        rw [hlist, hmem] at hx
        rcases hx with rfl | ⟨hx, _⟩
        · exact ⟨s, hs, rfl⟩
        · exact hk x hx
      · intro t v'
        rw [hlist]
        simp only [hmem]
        rw [hm']
        by_cases e : t = s
        · subst e
          simp only [if_true, Option.some.injEq]
          constructor
          · rintro rfl; exact ⟨_, .inl rfl, rfl, rfl⟩
          · rintro ⟨x, rfl | ⟨hx, hne⟩, hxk, hxv⟩
            · exact hxv
            · exact absurd hxk hne
        · simp only [if_neg e]
          rw [hm]
          constructor
          · rintro ⟨x, hx, hxk, hxv⟩; exact ⟨x, .inr ⟨hx, fun hh => e (str_inj (hxk.symm.trans hh))⟩, hxk, hxv⟩
          · rintro ⟨x, rfl | ⟨hx, _⟩, hxk, hxv⟩
            · exact absurd (str_inj hxk) (fun a => e a.symm)
            · exact ⟨x, hx, hxk, hxv⟩

theorem MapIs.len {w : World} {M : Nat} {m n} (h : MapIs w M m n) (ty : TypeId) : (Builtin.len_ #[42] ty #[.map (some M)]).run Try.prog w = .ok (goInt n) w := by
  obtain ⟨es, clock, hb, _, hsz, _⟩ := h
  rw [← hsz]
  exact run_len_map _ _ _ _ _ _ (by kernel_rfl) hb

theorem run_make (n : Int) (w : World) : (Instr.makeMap 42 (some (.int .i64 n))).run Try.prog w = .ok (.map (some w.heap.size)) (w.alloc (.map #[] 0)) := by
  simp [Instr.makeMap, run_underlying Try.underlying42]; rfl

theorem wpList_map_store {ops : Array Oper} {rest : List Oper} {o : Oper} {a : Act} {w w' : World} {Q : Exit → Act → World → Prop} (hg : o.guard = none) (m x v : Operand) (t : TypeId) (hop : o.op = Op.mapUpdate t m x v)
    (M : Nat) (key val : Value) (hm : a.eval m = .map (some M)) (hx : a.eval x = key) (hv : a.eval v = val) (hrun : (Instr.mapUpdate t (.map (some M)) key val).run Try.prog w = .ok () w') (hd : o.dst = none)
    (h : wpList Try.prog ops Q rest a w') : wpList Try.prog ops Q (o :: rest) a w := by
  refine wpList_plain hg fun K hK => ?_
  have hK' := hK _ _ h
  unfold Oper.wp execOp
  simp only [hop, hm, hx, hv, Sem.run_bind, Sem.run_pure, hrun, Result.andThen_ok]
  show K (a.put o.dst undef) _
  rw [hd]; exact hK'

/-- The prints of the contents of a list, counted from i. -/
def pmV (i : Nat) (l : List Txt) (s : Txt) : Option Value := (pm i l s).map (fun (k : Nat) => Value.int .i64 (k : Int))
theorem pmV_cons (i : Nat) (x : Txt) (l : List Txt) (t : Txt) : pmV i (x :: l) t = if t = x then some (.int .i64 (i : Int)) else pmV (i + 1) l t := by
  unfold pmV
  rw [pm_cons]
  split <;> rfl
theorem pmV_none (i : Nat) (l : List Txt) (s : Txt) : (pmV i l s = none) = (pm i l s = none) := by unfold pmV; cases pm i l s <;> simp
end Go.Proofs.Ythibdppjhfhomaa
