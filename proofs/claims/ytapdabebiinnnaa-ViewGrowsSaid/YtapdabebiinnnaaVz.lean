/-
  ViewGrows: plain mathematics: what is known grows, and does not depend on the order.
-/
import Derived.Test.YtapdabebiinnnaaVt
namespace Go.Proofs.Ytapdabebiinnnaa
open Go.RowKit Go.MapKept Go.Maps Go.WideMaps

/-- What the size and its moment are, by the claims. -/
def SzP (l : List C) (n t : Int) : Prop := (∀ c ∈ l, c.k = 1 → c.t ≤ t ∧ (c.t = t → c.n = n)) ∧ ((t = -1 ∧ n = 0 ∧ ∀ c ∈ l, c.k ≠ 1) ∨ ∃ c ∈ l, c.k = 1 ∧ c.t = t ∧ c.n = n)
theorem ld_sz {l : List C} (h : COk l) : SzP l (szN (ld l)) (szT (ld l)) := by
  obtain ⟨hm, hs⟩ := ld_hd l h
  unfold szN szT
  cases ho : (ld l).hd.getLast? with
  | none =>
    have he : (ld l).hd = [] := List.getLast?_eq_none_iff.1 ho
    have hno : ∀ c ∈ l, c.k ≠ 1 := fun c hc hk => by
      have := (hm c).2 ⟨hc, hk⟩
      rw [he] at this; exact absurd this (by simp)
    exact ⟨fun c hc hk => absurd hk (hno c hc), .inl ⟨rfl, rfl, hno⟩⟩
  | some x =>
    have hx := List.mem_of_getLast? ho
    obtain ⟨hx1, hx2⟩ := (hm x).1 hx
    refine ⟨fun c hc hk => ?_, .inr ⟨x, hx1, hx2, rfl, rfl⟩⟩
    have hcm := (hm c).2 ⟨hc, hk⟩
    obtain ⟨i, hi, rfl⟩ := List.getElem_of_mem hcm
    have hl : x = (ld l).hd[(ld l).hd.length - 1]'(by omega) := by
      rw [List.getLast?_eq_getElem?] at ho
      exact ((List.getElem?_eq_some_iff.1 ho).2).symm
    show ((ld l).hd[i]).t ≤ x.t ∧ (((ld l).hd[i]).t = x.t → ((ld l).hd[i]).n = x.n)
    rcases Nat.lt_or_ge i ((ld l).hd.length - 1) with h1 | h1
    · have := hs.get h1 (by omega)
      rw [← hl] at this
      omega
    · have e : i = (ld l).hd.length - 1 := by omega
      subst e
      rw [← hl]; exact ⟨Int.le_refl _, fun _ => rfl⟩
section
variable {q : List Sd} {k : Int} {L M : List Sg}
theorem LOk.sz (h : LOk q k L) (hq : q.Nodup) : SzP (cs L) (szN (vd L)) (szT (vd L)) := by
  have h1 : szN (vd L) = szN (ld (cs L)) := by unfold szN; rw [vd_hd]
  have h2 : szT (vd L) = szT (ld (cs L)) := by unfold szT; rw [vd_hd]
  rw [h1, h2]; exact ld_sz (h.cok hq)
theorem cs_mem (hs : ∀ s ∈ L, s ∈ M) : ∀ c ∈ cs L, c ∈ cs M := fun c hc => by
  obtain ⟨a, ha, rfl⟩ := List.mem_map.1 hc
  exact List.mem_map.2 ⟨a, hs a ha, rfl⟩
theorem szT_le (h : LOk q k L) (h' : LOk q k M) (hq : q.Nodup) (hs : ∀ s ∈ L, s ∈ M) : szT (vd L) ≤ szT (vd M) := by
  have h1 := h.sz hq
  have h2 := h'.sz hq
  rcases h1.2 with ⟨ht, _, _⟩ | ⟨c, hc, hk, ht, _⟩
  · rcases h2.2 with ⟨ht', _, _⟩ | ⟨c, hc, hk, ht', _⟩
    · omega
    · have := (ok_bounds ((h'.cok hq).ok c hc)).2.2.2.2.1
      omega
  · have := (h2.1 c (cs_mem hs c hc) hk).1
    omega
theorem en_le (h : LOk q k L) (h' : LOk q k M) (hq : q.Nodup) (hs : ∀ s ∈ L, s ∈ M) {i : Int} {t : Txt} (ht : (vd L).en i = some t) : (vd M).en i = some t := by
  rw [vd_en] at ht ⊢
  exact (ld_en _ (h'.cok hq) i t).2 (cs_mem hs _ ((ld_en _ (h.cok hq) i t).1 ht))
theorem LOk.ab (h : LOk q k L) (hq : q.Nodup) (name : Txt) : AbP (cs L) name ((vd L).ab name) := by
  rw [vd_ab]
  exact ld_ab (cs L) (fun c hc => (ok_bounds ((h.cok hq).ok c hc)).2.2.1) name
theorem ab_le (h : LOk q k L) (h' : LOk q k M) (hq : q.Nodup) (hs : ∀ s ∈ L, s ∈ M) {name : Txt} {m : Int} (hm : (vd L).ab name = some m) : ∃ m', (vd M).ab name = some m' ∧ m ≤ m' := by
  have h1 := h.ab hq name
  have h2 := h'.ab hq name
  rw [hm] at h1
  obtain ⟨⟨c, hc, c1, c2, c3⟩, _⟩ := h1
  cases ho : (vd M).ab name with
  | none => rw [ho] at h2; exact absurd c2 (h2 c (cs_mem hs c hc) c1)
  | some m' =>
    rw [ho] at h2
    exact ⟨m', rfl, by rw [← c3]; exact h2.2 c (cs_mem hs c hc) c1 c2⟩
theorem kn_le (h : LOk q k L) (h' : LOk q k M) (hq : q.Nodup) (hs : ∀ s ∈ L, s ∈ M) {n : Int} (hn : knB (vd L) n = true) : knB (vd M) n = true := by
  rw [knB_iff] at hn ⊢
  intro i h0 h1
  obtain ⟨t, ht⟩ := Option.isSome_iff_exists.1 (hn i h0 h1)
  rw [en_le h h' hq hs ht]; rfl
/-! ### The same claims in another order -/
theorem en_eq (h : LOk q k L) (h' : LOk q k M) (hq : q.Nodup) (hs : ∀ s, s ∈ L ↔ s ∈ M) (i : Int) : (vd L).en i = (vd M).en i := by
  cases ho : (vd L).en i with
  | some t => exact (en_le h h' hq (fun s hs' => (hs s).1 hs') ho).symm
  | none =>
    cases ho' : (vd M).en i with
    | none => rfl
    | some t => rw [en_le h' h hq (fun s hs' => (hs s).2 hs') ho'] at ho; exact absurd ho (by simp)
theorem ab_eq (h : LOk q k L) (h' : LOk q k M) (hq : q.Nodup) (hs : ∀ s, s ∈ L ↔ s ∈ M) (name : Txt) : (vd L).ab name = (vd M).ab name := by
  cases ho : (vd L).ab name with
  | some m =>
    obtain ⟨m', h1, h2⟩ := ab_le h h' hq (fun s hs' => (hs s).1 hs') ho
    obtain ⟨m2, h3, h4⟩ := ab_le h' h hq (fun s hs' => (hs s).2 hs') h1
    rw [ho] at h3
    have : m = m2 := Option.some.inj h3
    rw [h1]; congr 1; omega
  | none =>
    cases ho' : (vd M).ab name with
    | none => rfl
    | some m =>
      obtain ⟨m', h1, _⟩ := ab_le h' h hq (fun s hs' => (hs s).2 hs') ho'
      rw [h1] at ho; exact absurd ho (by simp)
theorem szT_eq (h : LOk q k L) (h' : LOk q k M) (hq : q.Nodup) (hs : ∀ s, s ∈ L ↔ s ∈ M) : szT (vd L) = szT (vd M) :=
  Int.le_antisymm (szT_le h h' hq fun s hs' => (hs s).1 hs') (szT_le h' h hq fun s hs' => (hs s).2 hs')
theorem szN_eq (h : LOk q k L) (h' : LOk q k M) (hq : q.Nodup) (hs : ∀ s, s ∈ L ↔ s ∈ M) : szN (vd L) = szN (vd M) := by
  have ht := szT_eq h h' hq hs
  have h1 := h.sz hq
  have h2 := h'.sz hq
  rcases h1.2 with ⟨e1, e2, hno⟩ | ⟨c, hc, hk, e1, e2⟩
  · rcases h2.2 with ⟨_, f2, _⟩ | ⟨d, hd, hk, _⟩
    · omega
    · exact absurd hk (hno d (cs_mem (fun s hs' => (hs s).2 hs') d hd))
  · have := (h2.1 c (cs_mem (fun s hs' => (hs s).1 hs') c hc) hk).2 (by omega)
    omega
theorem kn_eq (h : LOk q k L) (h' : LOk q k M) (hq : q.Nodup) (hs : ∀ s, s ∈ L ↔ s ∈ M) (n : Int) : knB (vd L) n = knB (vd M) n := by
  rw [Bool.eq_iff_iff, knB_iff, knB_iff]
  constructor
  · intro hh i h0 h1; rw [← en_eq h h' hq hs]; exact hh i h0 h1
  · intro hh i h0 h1; rw [en_eq h h' hq hs]; exact hh i h0 h1
theorem ag_eq (h : LOk q k L) (h' : LOk q k M) (hq : q.Nodup) (hs : ∀ s, s ∈ L ↔ s ∈ M) (now : Int) : agO (vd L) now = agO (vd M) now := by
  unfold agO; rw [szT_eq h h' hq hs]
theorem LOk.fit (h : LOk q k L) (hq : q.length ≤ 1000000) : ∀ s ∈ L, (0 ≤ s.2.2 ∧ s.2.2 ≤ 9223372036854775807) ∧ s.2.1.length ≤ 20100 := fun s hs => by
  obtain ⟨h1, h2⟩ := holds_get (h.val s hs)
  have h3 := (List.getElem?_eq_some_iff.1 h2).1
  have h4 := readC_some.1 (h.log s hs).1
  have h5 := textC_len h4.1
  rw [← h4.2] at h5
  exact ⟨⟨h1, by omega⟩, h5⟩
theorem nodup_rev {l : List Sg} (h : l.Nodup) : l.reverse.Nodup := List.pairwise_reverse.2 (h.imp fun h e => h e.symm)
/-- A part of what was accepted. -/
theorem LOk.part (h : LOk q k L) (hs : ∀ s ∈ M, s ∈ L) (hn : M.Nodup) : LOk q k M :=
  ⟨fun s hs' => h.val s (hs s hs'), fun s hs' => h.key s (hs s hs'), fun s hs' => h.log s (hs s hs'), hn, fun a ha b hb => h.con a (hs a ha) b (hs b hb)⟩
theorem LOk.rev (h : LOk q k L) (i : Nat) : LOk q k (L.reverse.take i) :=
  h.part (fun _ hs => List.mem_reverse.1 (List.mem_of_mem_take hs)) ((nodup_rev h.nd).sublist (List.take_sublist _ _))
/-- The claims accepted in the opposite order. -/
theorem rev_step (h : LOk q k L) (hq : q.Nodup) (i : Nat) (hi : i < L.length) : aE q k (L.reverse.take i) (L[L.length - 1 - i]'(by omega)) = 0 ∧ acl q k (L.reverse.take i) (L[L.length - 1 - i]'(by omega)) = L.reverse.take (i + 1) := by
  have hr : i < L.reverse.length := by simpa using hi
  have he : L.reverse[i] = L[L.length - 1 - i]'(by omega) := by rw [List.getElem_reverse]
  rw [← he]
  have hmem : L.reverse[i] ∈ L := List.mem_reverse.1 (List.getElem_mem hr)
  have hl := h.log _ hmem
  have hg : Good q k (L.reverse.take i) L.reverse[i] := ⟨h.val _ hmem, h.key _ hmem, ⟨_, hl.1, hl.2⟩, fun a ha => h.con a (List.mem_reverse.1 (List.mem_of_mem_take ha)) _ hmem⟩
  have hn : L.reverse[i] ∉ L.reverse.take i := fun hm => by
    obtain ⟨j, hj, e⟩ := List.getElem_of_mem hm
    rw [List.length_take] at hj
    rw [List.getElem_take] at e
    have := (List.getElem_inj (nodup_rev h.nd)).1 e
    omega
  refine ⟨(aE_zero (h.rev i) hq _).2 hg, ?_⟩
  rw [acl_new (h.rev i) hq hg hn, List.take_succ_eq_append_getElem hr]
theorem acl_sub (h : LOk q k L) (hq : q.Nodup) (s : Sg) : ∀ a ∈ L, a ∈ acl q k L s := fun a ha => by
  rcases (h.step hq s).2.2.2 with h1 | h1
  · show a ∈ accL q k (vd L) L s
    rw [h1.1]; exact List.mem_append_left _ ha
  · show a ∈ accL q k (vd L) L s
    rw [h1.1]; exact ha
end
end Go.Proofs.Ytapdabebiinnnaa
