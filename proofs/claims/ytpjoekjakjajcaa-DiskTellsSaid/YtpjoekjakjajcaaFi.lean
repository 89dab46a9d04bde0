/-
  The reference's disk: add.
-/
import Derived.Test.YtpjoekjakjajcaaFg
import Derived.Deep.AppendLies
namespace Go.Proofs.Ytpjoekjakjajcaa
open Go.RowKit

theorem rowE_ne {w : World} {base e e' size size' n n' : Nat} {v v' : Value} {xs xs' : List Value} (h : w.ownsRow base e size v n xs) (h' : w.ownsRow base e' size' v' n' xs') (hne : e ≠ e') : ∀ p, v.ownBlock = some p → some p ≠ v'.ownBlock := by
  intro p hp hp'
  rcases h'.2 with ⟨rfl, _⟩ | ⟨g, cap, cur, rfl, _, hg, _⟩
  · simp [Value.ownBlock] at hp'
  · simp only [Value.ownBlock, Option.some.injEq] at hp'
    subst hp'
    exact rowB_ne h hg (fun h => hne h.symm) _ hp rfl
/-- A sector more in the queue. -/
theorem RfAt.pushq {w w0 w' : World} {O : Nat → Prop} {B : Nat} {fv qv kv : Value} {r : FS} (h : RfAt w O B fv qv kv r) (hfr : Fr w w0) {v : Value} {L : List (Nat × Nat)} {n : Nat}
    (hown : w'.ownsRow 0 82 2 v n (qCells L)) (hn : n = L.length) (hg : w0.grownBy w' qv.ownBlock) (hb : ∀ p, v.ownBlock = some p → qv.ownBlock = some p ∨ w.heap.size ≤ p) :
    w'.heap[B]? = some (.cells #[fv, qv, .int .i64 r.lost, .bool r.down, .int .i64 r.armed, kv] 60 (0, 0)) ∧ (RfT B { r with q := L }).step O w (w'.setCell ⟨B, 1, none⟩ v) := by
  subst hn
  have hr := h.fr hfr
  have hO' : Own O w w' := (Own.of_fr hfr).grown hg (fun p hp => .inl (h.oQ p hp))
  have keep : ∀ p, p < w0.heap.size → some p ≠ qv.ownBlock → w'.heap[p]? = w0.heap[p]? := fun p hp hne => World.grownBy.block hg p hp hne
  have hBne : some B ≠ qv.ownBlock := fun e => rowB_ne hr.queue hr.heap (by decide) B e.symm rfl
  have hB : w'.heap[B]? = some (.cells #[fv, qv, .int .i64 r.lost, .bool r.down, .int .i64 r.armed, kv] 60 (0, 0)) := by
    rw [keep B (hr.bound B hr.oB) hBne]; exact hr.heap
  have hfiles : w'.ownsRow 0 64 3 fv r.fl.length (fC r.fl) := ownsRow_heap hr.files fun p hp => keep p (hr.bound p (hr.oF p hp)) (rowE_ne hr.files hr.queue (by decide) p hp)
  have hkeep : w'.ownsRow 0 3 1 kv r.keep.length (iCells r.keep) := ownsRow_heap hr.keep fun p hp => keep p (hr.bound p (hr.oK p hp)) (rowE_ne hr.keep hr.queue (by decide) p hp)
  have hob := OnlyB.setCell w' B 1 v
  have hsz : (w'.setCell ⟨B, 1, none⟩ v).heap.size = w'.heap.size := hob.2.2.2.1
  have ho := hob.2.2.2.2
  have hlt : ∀ p, v.ownBlock = some p → p < w'.heap.size := fun p hp => (hown.lt p hp).2
  refine ⟨hB, fun k => O k ∨ v.ownBlock = some k, ⟨fv, v, kv, fun k hk => ?_, .inl h.oB, fun p hp => .inl (h.oF p hp), fun p hp => .inr hp, fun p hp => .inl (h.oK p hp), heapB hB, ?_, ?_, ?_⟩, fun k hk => ?_, ?_⟩
  · rw [hsz]
    rcases hk with hk | hk
    · exact Nat.lt_of_lt_of_le (h.bound k hk) hO'.size
    · exact hlt k hk
  · exact ownsRow_heap hfiles fun p hp => ho p (rowB_ne hfiles hB (by decide) p hp)
  · exact ownsRow_heap hown fun p hp => ho p (rowB_ne hown hB (by decide) p hp)
  · exact ownsRow_heap hkeep fun p hp => ho p (rowB_ne hkeep hB (by decide) p hp)
  · rcases hk with hk | hk
    · exact .inl hk
    · rcases hb k hk with h1 | h1
      · exact .inl (h.oQ k h1)
      · exact .inr ⟨h1, by rw [hsz]; exact hlt k hk⟩
  · exact hO'.only hob (.inl h.oB)
theorem wpList_pushq {w0 : World} {ops : Array Oper} {rest : List Oper} {o : Oper} {a : Act} {Q : Exit → Act → World → Prop} (hgd : o.guard = none) (s x : Operand)
    (ho : o.op = .call { callee := .builtin .append, args := #[s, x], argTypes := #[58, 58] })
    {O : Nat → Prop} {B : Nat} {fv qv kv : Value} {r : FS} (h : RfAt w0 O B fv qv kv r) (hs : a.eval s = qv) (c : Nat) (p : Nat × Nat) (hx : a.eval x = .slice (some ⟨w0.heap.size, 0, none⟩) 1 c) (hl : r.q.length ≤ 1000000)
    (hK : ∀ g cap w', w'.heap[B]? = some (.cells #[fv, qv, .int .i64 r.lost, .bool r.down, .int .i64 r.armed, kv] 60 (0, 0)) →
      (RfT B { r with q := r.q ++ [p] }).step O w0 (w'.setCell ⟨B, 1, none⟩ (.slice (some ⟨g, 0, none⟩) (r.q.length + 1) cap)) → wpList Try.prog ops Q rest (a.put o.dst (.slice (some ⟨g, 0, none⟩) (r.q.length + 1) cap)) w') :
    wpList Try.prog ops Q (o :: rest) a (w0.alloc (.cells #[.int .i64 p.1, .int .i64 p.2] 82)) := by
  obtain ⟨i0, hi, hz0, hz1, hz2⟩ := info_parts infoSector
  refine wpList_append_lies _ hgd s x 58 ho 0 82 i0 (.agg #[.int .i64 0, .int .i64 0]) 2 16 Try.underlying58 hi hz0 hz1 hz2 rfl (by decide) qv r.q.length (qCells r.q) hs (h.queue.alloc _)
    ⟨w0.heap.size, 0, none⟩ 1 c [.int .i64 p.1, .int .i64 p.2] hx rfl (by have := World.news_of_block (cs := #[Value.int .i64 p.1, Value.int .i64 p.2]) (t := 82) (fr := (0, 0)) (heap_alloc_new w0 _); simpa using this) (by simp [Value.oneCell']) (by decide) (by unfold maxLen; omega) (by omega) (Nat.zero_le _) _ rfl ?_
  intro g cap w' hown hgrow hat _
  have := h.pushq (Fr.alloc w0 (.cells #[.int .i64 p.1, .int .i64 p.2] 82)) (L := r.q ++ [p]) (by rw [qCells_append]; exact hown) (by simp) hgrow (fun q hq => by
    simp only [Value.ownBlock, Option.some.injEq] at hq
    subst hq
    rcases hat with h1 | h1
    · exact .inl h1
    · exact .inr (by rw [h1]; simp))
  exact hK g cap w' this.1 this.2
theorem newF_succ (q : List (Nat × Nat)) (f m c : Nat) : newF' q f m (c + 1) = newF' q f m c ++ if (f, m + c) ∈ q then [] else [(f, m + c)] := by
  unfold newF'
  rw [List.range'_concat, List.filter_append, List.map_append]
  congr 1
  by_cases h : (f, m + c) ∈ q <;> simp [h]
theorem newF_mem (q : List (Nat × Nat)) (f m c : Nat) : (f, m + c) ∈ q ++ newF' q f m c ↔ (f, m + c) ∈ q := by
  rw [List.mem_append]
  constructor
  · rintro (h | h)
    · exact h
    · unfold newF' at h
      rw [List.mem_map] at h
      obtain ⟨x, hx, e⟩ := h
      have := List.mem_range'_1.1 (List.mem_filter.1 hx).1
      simp at e
      omega
  · exact .inl
theorem newF_len (q : List (Nat × Nat)) (f m c : Nat) : (newF' q f m c).length ≤ c := by
  unfold newF'
  rw [List.length_map]
  have := List.length_filter_le (fun x => decide ((f, x) ∉ q)) (List.range' m c)
  rw [List.length_range'] at this
  exact this
/-- add, so far as c sectors. -/
def addC (r : FS) (f at_ : Nat) (l : Txt) (c : Nat) : FS := { r with fl := setF r.fl f (putL (getF r.fl f).1 at_ l, (getF r.fl f).2), q := r.q ++ newF' r.q f (at_ / 64) c }
theorem addC_tot (r : FS) (f at_ : Nat) (l : Txt) (h : l ≠ []) : addC r f at_ l (tot at_ l.length) = addF r f at_ l := by unfold addC addF; rw [if_neg h]
theorem addC_zero (r : FS) (f at_ : Nat) (l : Txt) : addC r f at_ l 0 = { r with fl := setF r.fl f (putL (getF r.fl f).1 at_ l, (getF r.fl f).2) } := by unfold addC newF'; simp
theorem addC_yes (r : FS) (f at_ : Nat) (l : Txt) (c : Nat) (h : qMem (addC r f at_ l c) f (at_ / 64 + c) = true) : addC r f at_ l (c + 1) = addC r f at_ l c := by
  unfold qMem addC at h
  have h1 := (newF_mem r.q f (at_ / 64) c).1 (by simpa using h)
  unfold addC
  rw [newF_succ, if_pos h1, List.append_nil]
theorem addC_no (r : FS) (f at_ : Nat) (l : Txt) (c : Nat) (h : qMem (addC r f at_ l c) f (at_ / 64 + c) = false) : addC r f at_ l (c + 1) = { addC r f at_ l c with q := (addC r f at_ l c).q ++ [(f, at_ / 64 + c)] } := by
  unfold qMem addC at h
  have h1 : ¬ (f, at_ / 64 + c) ∈ r.q := fun hm => by
    have := (newF_mem r.q f (at_ / 64) c).2 hm
    simp at h
    simp at this
    rcases this with h2 | h2
    · exact h.1 h2
    · exact h.2 h2
  unfold addC
  rw [newF_succ, if_neg h1, List.append_assoc]
end Go.Proofs.Ytpjoekjakjajcaa
