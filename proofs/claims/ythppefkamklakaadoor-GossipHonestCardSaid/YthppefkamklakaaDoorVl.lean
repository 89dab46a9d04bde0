/-
  Plain mathematics: what a view has accepted (LOk), and what follows of the next one.
-/
import Derived.Test.YthppefkamklakaaDoorVk
namespace Go.Proofs.YthppefkamklakaaDoor

noncomputable def cs (l : List Sg) : List C := l.map fun s => clm s.2.1
theorem cs_snoc (l : List Sg) (s : Sg) : cs (l ++ [s]) = cs l ++ [clm s.2.1] := by simp [cs]
/-- What has been accepted of the entries q of a ring, by the key k. -/
structure LOk (q : List Sd) (k : Int) (l : List Sg) : Prop where
  val : ∀ s ∈ l, holds q s = true
  key : ∀ s ∈ l, s.1 = k
  log : ∀ s ∈ l, readC s.2.1 = some (clm s.2.1) ∧ (clm s.2.1).k ≤ 2
  nd : l.Nodup
  con : ∀ a ∈ l, ∀ b ∈ l, contra (clm a.2.1) (clm b.2.1) = false
theorem LOk.nil (q : List Sd) (k : Int) : LOk q k [] := ⟨by simp, by simp, by simp, List.nodup_nil, by simp⟩
theorem holds_get {q : List Sd} {s : Sg} (h : holds q s = true) : 0 ≤ s.2.2 ∧ q[s.2.2.toNat]? = some (s.1, s.2.1) := by
  unfold holds at h
  exact of_decide_eq_true h
theorem holds_mark {q : List Sd} {a b : Sg} (ha : holds q a = true) (hb : holds q b = true) (h : a.2.2 = b.2.2) : a = b := by
  obtain ⟨_, h1⟩ := holds_get ha
  obtain ⟨_, h2⟩ := holds_get hb
  rw [h, h2, Option.some.injEq, Prod.mk.injEq] at h1
  obtain ⟨ak, at', am⟩ := a
  obtain ⟨bk, bt, bm⟩ := b
  simp only at h h1
  rw [h, h1.1, h1.2]
theorem holds_text {q : List Sd} (hq : q.Nodup) {a b : Sg} (ha : holds q a = true) (hb : holds q b = true) (h1 : a.1 = b.1) (h2 : a.2.1 = b.2.1) : a = b := by
  obtain ⟨p1, g1⟩ := holds_get ha
  obtain ⟨p2, g2⟩ := holds_get hb
  rw [h1, h2] at g1
  have e1 := pm_at hq g1
  have e2 := pm_at hq g2
  rw [e1] at e2
  have := Option.some.inj e2
  exact holds_mark ha hb (by omega)
theorem holds_more {q : List Sd} {s : Sg} (m : List Sd) (h : holds q s = true) : holds (q ++ m) s = true := by
  obtain ⟨h1, h2⟩ := holds_get h
  unfold holds
  refine decide_eq_true ⟨h1, ?_⟩
  rw [List.getElem?_append_left (List.getElem?_eq_some_iff.1 h2).1, h2]
theorem LOk.more {q : List Sd} {k : Int} {l : List Sg} (h : LOk q k l) (m : List Sd) : LOk (q ++ m) k l := ⟨fun s hs => holds_more m (h.val s hs), h.key, h.log, h.nd, h.con⟩
theorem readC_clm {t : Txt} {c : C} (h : readC t = some c) : clm t = c := by unfold clm; rw [h]; rfl
theorem LOk.cok {q : List Sd} {k : Int} {l : List Sg} (h : LOk q k l) (hq : q.Nodup) : COk (cs l) := by
  refine ⟨fun c hc => ?_, fun c hc => ?_, ?_, fun a ha b hb => ?_⟩
  · obtain ⟨s, hs, rfl⟩ := List.mem_map.1 hc
    exact (readC_some.1 (h.log s hs).1).1
  · obtain ⟨s, hs, rfl⟩ := List.mem_map.1 hc
    have := ok_bounds (readC_some.1 (h.log s hs).1).1
    exact ⟨this.1, (h.log s hs).2⟩
  · unfold cs
    refine List.pairwise_map.2 ?_
    refine h.nd.imp_of_mem ?_
    intro a b ha hb hne he
    have h1 := (readC_some.1 (h.log a ha).1).2
    have h2 := (readC_some.1 (h.log b hb).1).2
    exact hne (holds_text hq (h.val a ha) (h.val b hb) ((h.key a ha).trans (h.key b hb).symm) (by rw [h1, h2, he]))
  · obtain ⟨s, hs, rfl⟩ := List.mem_map.1 ha
    obtain ⟨t, ht, rfl⟩ := List.mem_map.1 hb
    exact h.con s hs t ht
theorem lrn_eq {d e : VD} (h : d = { e with mm := d.mm }) (c : C) : lrn d c = { lrn e c with mm := d.mm } := by
  rw [h, lrn_mm]
theorem vd_ld (l : List Sg) : vd l = { ld (cs l) with mm := (vd l).mm } := by
  refine snoc_ind (p := fun l => vd l = { ld (cs l) with mm := (vd l).mm }) rfl (fun l s ih => ?_) l
  rw [vd_snoc, cs_snoc, ld_snoc]
  unfold vst
  rw [lrn_eq ih]
theorem vd_mm (l : List Sg) (m : Int) : (vd l).mm m = true ↔ ∃ s ∈ l, s.2.2 = m := by
  refine snoc_ind (p := fun l => (vd l).mm m = true ↔ ∃ s ∈ l, s.2.2 = m) (by simp [vd, vd0]) (fun l s ih => ?_) l
  rw [vd_snoc]
  show (if m = s.2.2 then true else (vd l).mm m) = true ↔ _
  by_cases e : m = s.2.2
  · rw [if_pos e]
    exact ⟨fun _ => ⟨s, by simp, e.symm⟩, fun _ => rfl⟩
  · rw [if_neg e, ih]
    constructor
    · rintro ⟨a, h1, h2⟩; exact ⟨a, List.mem_append_left _ h1, h2⟩
    · rintro ⟨a, h1, h2⟩
      rcases List.mem_append.1 h1 with h1 | h1
      · exact ⟨a, h1, h2⟩
      · rw [List.mem_singleton.1 h1] at h2; exact absurd h2.symm e
section
variable {q : List Sd} {k : Int} {l : List Sg}
theorem LOk.mm (h : LOk q k l) {s : Sg} (hs : holds q s = true) : (vd l).mm s.2.2 = true ↔ s ∈ l := by
  rw [vd_mm]
  constructor
  · rintro ⟨a, h1, h2⟩
    rw [← holds_mark (h.val a h1) hs h2]; exact h1
  · intro h1; exact ⟨s, h1, rfl⟩
theorem vd_en (l : List Sg) : (vd l).en = (ld (cs l)).en := by rw [vd_ld]
theorem vd_fi (l : List Sg) : (vd l).fi = (ld (cs l)).fi := by rw [vd_ld]
theorem vd_ab (l : List Sg) : (vd l).ab = (ld (cs l)).ab := by rw [vd_ld]
theorem vd_hd (l : List Sg) : (vd l).hd = (ld (cs l)).hd := by rw [vd_ld]
theorem dny_vd (l : List Sg) (c : C) : dny (vd l) c = dny (ld (cs l)) c := by
  unfold dny enB
  rw [vd_en, vd_fi, vd_ab, vd_hd]
theorem LOk.dny (h : LOk q k l) (hq : q.Nodup) {c : C} (hc : okB c = true) : dny (vd l) c = l.any fun a => contra (clm a.2.1) c := by
  rw [dny_vd, dny_any (h.cok hq) hc]
  unfold cs
  rw [List.any_map]; rfl
theorem hd_len (l : List C) : (ld l).hd.length ≤ l.length := by
  refine snoc_ind (p := fun l => (ld l).hd.length ≤ l.length) (by simp [ld, vd0]) (fun l c ih => ?_) l
  rw [ld_snoc, List.length_append]
  by_cases h1 : c.k = 1
  · rw [lrn_1 h1]
    show (ins _ _ _).length ≤ _
    rw [ins_len]; simp; exact ih
  · have : (lrn (ld l) c).hd = (ld l).hd := by
      unfold lrn
      repeat' split
      all_goals first | rfl | exact absurd ‹_› h1
    rw [this]; omega
theorem LOk.hdok (h : LOk q k l) (hq : q.Nodup) (hl : l.length ≤ 100000) : HdOk (vd l) := by
  have hc := h.cok hq
  obtain ⟨h1, h2⟩ := ld_hd (cs l) hc
  have h3 := hd_len (cs l)
  have h4 : (cs l).length = l.length := by simp [cs]
  refine ⟨by rw [vd_hd]; exact h2, by rw [vd_hd]; omega, fun x hx => ?_⟩
  rw [vd_hd] at hx
  exact ok_fits (hc.ok x ((h1 x).1 hx).1)
/-- What is accepted. -/
def Good (q : List Sd) (k : Int) (l : List Sg) (s : Sg) : Prop := holds q s = true ∧ s.1 = k ∧ (∃ c, readC s.2.1 = some c ∧ c.k ≤ 2) ∧ ∀ a ∈ l, contra (clm a.2.1) (clm s.2.1) = false
theorem LOk.accE (h : LOk q k l) (hq : q.Nodup) (s : Sg) : Go.Proofs.YthppefkamklakaaDoor.accE q k (vd l) s = 0 ↔ Good q k l s := by
  unfold Go.Proofs.YthppefkamklakaaDoor.accE Good
  cases hh : holds q s with
  | false => simp
  | true =>
    simp only [if_true, true_and]
    by_cases hk : s.1 = k
    · rw [if_pos hk]
      cases hr : readC s.2.1 with
      | none => simp
      | some c =>
        have hok := (readC_some.1 hr).1
        have hcl := readC_clm hr
        simp only [hcl]
        by_cases h2 : c.k ≤ 2
        · rw [if_pos h2, h.dny hq hok]
          cases ha : (l.any fun a => contra (clm a.2.1) c) with
          | true =>
            simp only [if_true]
            obtain ⟨a, a1, a2⟩ := List.any_eq_true.1 ha
            constructor
            · intro h; exact absurd h (by decide)
            · rintro ⟨_, _, hn⟩; have := hn a a1; rw [a2] at this; cases this
          | false =>
            simp only [Bool.false_eq_true, if_false, true_iff]
            refine ⟨hk, ⟨c, rfl, h2⟩, fun a a1 => ?_⟩
            have := List.any_eq_false.1 ha a a1
            simpa using this
        · rw [if_neg h2]
          constructor
          · intro h; exact absurd h (by decide)
          · rintro ⟨_, ⟨c', hc', h2'⟩, _⟩; cases hc'; exact absurd h2' h2
    · rw [if_neg hk]
      constructor
      · intro h; exact absurd h (by decide)
      · rintro ⟨h1, _⟩; exact absurd h1 hk
theorem Good.add (h : LOk q k l) {s : Sg} (hg : Good q k l s) (hn : s ∉ l) : LOk q k (l ++ [s]) := by
  obtain ⟨g1, g2, ⟨c, g3, g4⟩, g5⟩ := hg
  have hcl := readC_clm g3
  refine ⟨fun a ha => ?_, fun a ha => ?_, fun a ha => ?_, ?_, fun a ha b hb => ?_⟩
  · rcases List.mem_append.1 ha with ha | ha
    · exact h.val a ha
    · rw [List.mem_singleton.1 ha]; exact g1
  · rcases List.mem_append.1 ha with ha | ha
    · exact h.key a ha
    · rw [List.mem_singleton.1 ha]; exact g2
  · rcases List.mem_append.1 ha with ha | ha
    · exact h.log a ha
    · rw [List.mem_singleton.1 ha, hcl]; exact ⟨g3, g4⟩
  · refine List.nodup_append.2 ⟨h.nd, by simp, ?_⟩
    intro a ha b hb e
    rw [List.mem_singleton.1 hb] at e
    exact hn (e ▸ ha)
  · rcases List.mem_append.1 ha with ha | ha
    · rcases List.mem_append.1 hb with hb | hb
      · exact h.con a ha b hb
      · rw [List.mem_singleton.1 hb]; exact g5 a ha
    · rw [List.mem_singleton.1 ha]
      rcases List.mem_append.1 hb with hb | hb
      · rw [contra_comm]; exact g5 b hb
      · rw [List.mem_singleton.1 hb]; exact contra_self _
/-- The list behind one more. -/
theorem LOk.step (h : LOk q k l) (hq : q.Nodup) (s : Sg) : LOk q k (accL q k (vd l) l s) ∧ accD q k (vd l) s = vd (accL q k (vd l) l s) ∧ (accL q k (vd l) l s).length ≤ l.length + 1 ∧
    ((accL q k (vd l) l s = l ++ [s] ∧ Good q k l s ∧ s ∉ l) ∨ (accL q k (vd l) l s = l ∧ (Good q k l s → s ∈ l))) := by
  unfold accL accD accB
  by_cases hg : Good q k l s
  · have he := (h.accE hq s).2 hg
    by_cases hm : s ∈ l
    · rw [he, (h.mm hg.1).2 hm]
      simp only [decide_true, Bool.not_true, Bool.and_false, Bool.false_eq_true, if_false]
      exact ⟨h, trivial, by omega, .inr ⟨trivial, fun _ => hm⟩⟩
    · have hf : (vd l).mm s.2.2 = false := by
        cases hb : (vd l).mm s.2.2 with
        | false => rfl
        | true => exact absurd ((h.mm hg.1).1 hb) hm
      rw [he, hf]
      simp only [decide_true, Bool.not_false, Bool.and_self, if_true]
      exact ⟨hg.add h hm, (vd_snoc l s).symm, by simp, .inl ⟨trivial, hg, hm⟩⟩
  · have he : ¬ Go.Proofs.YthppefkamklakaaDoor.accE q k (vd l) s = 0 := fun e => hg ((h.accE hq s).1 e)
    rw [decide_eq_false he]
    simp only [Bool.false_and, Bool.false_eq_true, if_false]
    exact ⟨h, trivial, by omega, .inr ⟨trivial, fun h => absurd h hg⟩⟩
end
end Go.Proofs.YthppefkamklakaaDoor
